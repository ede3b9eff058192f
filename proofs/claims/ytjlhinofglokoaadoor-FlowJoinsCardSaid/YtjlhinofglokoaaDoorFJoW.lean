/- FlowJoins: rows joined are the line: the walk. -/
import Derived.Test.YtjlhinofglokoaaDoorFCoW
import Derived.Test.YtjlhinofglokoaaDoorFJoin
import Derived.Test.YtjlhinofglokoaaDoorFTold
namespace Go.Proofs.YtjlhinofglokoaaDoor.F
open Go.RowKit H
open W (Tab ofS refOf refOf_any ofS_ref ofS_le)

theorem row_len {C : Int} (l : List (Int × Int)) {r : List (Int × Int)} (h : r ∈ cutR C l) : r.length ≤ l.length := by
  have h2 := congrArg List.length (cutR_join C l)
  obtain ⟨i, hi, rfl⟩ := List.mem_iff_getElem.1 h
  have h3 := totS_succ (L := cutR C l) (j := i) (l := (cutR C l)[i]) (List.getElem?_eq_getElem hi)
  have h4 := tot_le (cutR C l) (i + 1)
  rw [h3, List.length_append] at h4
  omega
theorem row_rng {C : Int} {l : List (Int × Int)} (hl : RngG l) {r : List (Int × Int)} (h : r ∈ cutR C l) : RngG r := fun g hg => hl g (by
  rw [← cutR_join C l]
  exact List.mem_flatten.2 ⟨r, h, hg⟩)
set_option maxRecDepth 100000 in
set_option maxHeartbeats 8000000 in
theorem joins_walk (a : Option Addr) (len cap : Nat) (l0 : List (Int × Int)) (W : Int) (w : World) (hT : Tab w) (h : PairsIn .i32 a len cap l0 w) (hr : RngG l0) :
    Calls Tryd.prog 4 #[.slice a len cap, .int .i64 W] w fun e w' => e = .returned (.bool true) ∧ Below w.heap.size w w' := by
  obtain ⟨P, hP⟩ : ∃ P : Ending → World → Prop, (fun e w' => e = .returned (.bool true) ∧ Below w.heap.size w w') = P := ⟨_, rfl⟩
  rw [hP]
  have HP := Lib.hid hP
  have HT := Lib.hid hT
  have HA := Lib.hid (awake_any w hT)
  obtain ⟨M, hM⟩ : ∃ M : Nat, min (len : Int) 60 = (M : Int) := ⟨min len 60, by omega⟩
  have hml : M ≤ len := by omega
  have hm60 : M ≤ 60 := by omega
  have hmc : (M : Int) ≤ cap := by have := h.fit; omega
  have htop := h.top
  obtain ⟨l, hl⟩ : ∃ l, l0.take M = l := ⟨_, rfl⟩
  have hll : l.length = M := by rw [← hl, List.length_take, ← h.len]; omega
  have HG : Hid (PairsIn .i32 a M cap l w) := Lib.hid (by rw [← hl]; exact h.take M hml)
  have HR : Hid (RngG l) := Lib.hid (by rw [← hl]; exact fun g hg => hr g (List.mem_of_mem_take hg))
  have HLl := Lib.hid hll
  obtain ⟨rb, hrb⟩ : ∃ rb, w.heap.size = rb := ⟨_, rfl⟩
  have HRb := Lib.hid hrb
  clear hP hT h hr hl hll hrb
  go_enter Tryd.func4, Tryd.ntmps4
  go_wp2_with fail
  refine HA.out.mono ?_
  rintro e w1 ⟨rfl, hb1⟩
  have hb2 : Below w1.heap.size w1 (w1.alloc (.cells #[] 42)) := (Below.refl _ _).alloc (Nat.le_refl _) _
  have HO := Lib.hid (lit_q w1)
  have HG1 := Lib.hid (HG.out.belowAll (hb1.trans (hb2.mono hb1.size)))
  have HB1 := Lib.hid hb1
  have HB2 := Lib.hid hb2
  clear hb1 hb2 HA
  go_wp2_with (at_builtin; refine wpList_append_q gluT rfl _ _ rfl rfl w1.heap.size _ [] a M cap l rfl rfl HO.out HG1.out (by simp) (by have := HLl.out; omega) HB2.out.size ?_)
  intro v' w3 hg
  have hb3 : Below w1.heap.size w1 w3 := HB2.out.grown hg.grown HB2.out.size (fun q hq => (HO.out.own q hq).1)
  obtain ⟨a3, c3, rfl, hp3, hn3, -⟩ := hg.own.shape
  have hn3x : a3 = none → c3 = 0 := hn3
  rw [HLl.out] at hp3
  try simp only [List.nil_append]
  rw [HLl.out]
  have HP3 := Lib.hid hp3
  have HB3 : Hid (Below w.heap.size w w3) := Lib.hid (HB1.out.trans (hb3.mono HB1.out.size))
  have HS3 : Hid (rb ≤ w3.heap.size) := Lib.hid (by rw [← HRb.out]; exact HB3.out.size)
  clear hg hb3 hp3 hn3 HO HG1 HB2
  go_wp2_with fail
  have HNil3 := Lib.hid hn3x
  have HTo := Lib.hid (told_any a3 M c3 l w3 HP3.out HR.out (by omega))
  refine HTo.out.mono ?_
  rintro e w4 ⟨v4, rfl, hx4, hb4⟩
  obtain ⟨a4, c4, rfl, hp4, -, -⟩ := hx4.shape
  rw [HLl.out] at hp4 ⊢
  have HX4 := Lib.hid hp4
  have HB4 := Lib.hid hb4
  have hcut := cut_any a3 M c3 l W w4 (HP3.out.belowAll hb4) HNil3.out ((HT.out.belowAll HB3.out).belowAll hb4) (by omega)
  obtain ⟨C, hC⟩ : ∃ C, clampW W = C := ⟨_, rfl⟩
  have hcl := clampW_le W
  have hcw := clamp_go W
  rw [hC] at hcl hcw hcut
  have hc2 := hcl.1
  have hc3 := hcl.2
  obtain ⟨L, hLL⟩ : ∃ L, cutR C l = L := ⟨_, rfl⟩
  rw [hLL] at hcut
  have hjoin := cutR_join C l
  rw [hLL] at hjoin
  have HJn := Lib.hid hjoin
  have HFits : Hid (∀ r ∈ L, (sumG r : Int) ≤ C) := Lib.hid (by rw [← hLL]; exact cutR_fits hc2 l)
  have HFull : Hid (l ≠ [] → ∀ r ∈ L, r ≠ []) := Lib.hid (by rw [← hLL]; exact fun h => cutR_full hc2 h)
  have HMore : Hid (∀ (i : Nat) (r q : List (Int × Int)), L[i]? = some r → L[i + 1]? = some q → ∃ g t, q = g :: t ∧ C < ((sumG r + ofS g.1 : Nat) : Int)) := Lib.hid (by rw [← hLL]; exact cutR_more l)
  have HRl : Hid (∀ r ∈ L, r.length ≤ 60) := Lib.hid (by rw [← hLL]; intro r hr; have := row_len l hr; have := HLl.out; omega)
  have HRr : Hid (∀ r ∈ L, RngG r) := Lib.hid (by rw [← hLL]; exact fun r hr => row_rng HR.out hr)
  have HLn : Hid (L.length ≤ 61) := Lib.hid (by rw [← hLL]; have := (brk_few hc2 l [] 0 (by simp)).1; unfold cutR; have := HLl.out; omega)
  have HCut := Lib.hid hcut
  clear hx4 hp4 hb4 hC hcl hLL hjoin hcut HTo
  go_wp2_with fail
  refine HCut.out.mono ?_
  rintro e w5 ⟨v5, us5, rfl, hus5, hsv5, hb5⟩
  obtain ⟨a5, c5, rfl, hrows⟩ := own_rows hus5 hsv5
  obtain ⟨K, hK⟩ : ∃ K, L.length = K := ⟨_, rfl⟩
  have hK61 : K ≤ 61 := by rw [← hK]; exact HLn.out
  rw [hK] at hrows ⊢
  have hjo := join_any a5 K c5 L w5 hrows (by rw [HJn.out, HLl.out]; omega) (by omega)
  rw [HJn.out] at hjo
  have HJo := Lib.hid hjo
  have HRo := Lib.hid hrows
  have HK := Lib.hid hK
  have HB5 := Lib.hid hb5
  clear hus5 hsv5 hb5 hrows hjo hK HCut
  go_wp2_with fail
  refine HJo.out.mono ?_
  rintro e w6 ⟨v6, rfl, hq6, hb6⟩
  obtain ⟨a6, c6, rfl, hp6, -, -⟩ := hq6.shape
  rw [HLl.out] at hp6 ⊢
  have hgl := lawGlyphs_any a6 M c6 l a4 M c4 l w6 hp6 ((HX4.out.belowAll HB5.out).belowAll hb6) HR.out (by omega) (by omega)
  rw [decide_eq_true rfl] at hgl
  have HGl := Lib.hid hgl
  have HB6 := Lib.hid hb6
  clear hq6 hp6 hgl hb6 HJo
  go_wp2_with fail
  refine HGl.out.mono ?_
  rintro e w7 ⟨rfl, hb7⟩
  have HB57 : Hid (Below w5.heap.size w5 w7) := Lib.hid (HB6.out.trans (hb7.mono HB6.out.size))
  have HB07 : Hid (Below w.heap.size w w7) := Lib.hid (HB3.out.trans ((HB4.out.trans ((HB5.out.trans (HB57.out.mono HB5.out.size)).mono HB4.out.size)).mono HB3.out.size))
  have HRo7 := Lib.hid (HRo.out.belowAll HB57.out)
  clear hb7 HGl
  go_wp2_with fail
  go_loopw [36] (fun i wr => ∃ j : Nat, i = .int .i64 (j : Int) ∧ j ≤ K ∧ Hid (Below w7.heap.size w7 wr)) (fun i _ => K - (intOf i).toNat)
  case atStart => exact ⟨0, rfl, Nat.zero_le _, Lib.hid (Below.refl _ _)⟩
  case round =>
    obtain ⟨j, rfl, hj, HF⟩ := hrel
    by_cases hlt : j < K
    · have hd : decide (j < K) = true := decide_eq_true hlt
      have hjI : (j : Int) < K := by omega
      obtain ⟨us, hs, hv⟩ := HRo7.out
      obtain ⟨u, hu⟩ : ∃ u, us[j]? = some u := ⟨_, List.getElem?_eq_getElem (by rw [← hs.len]; exact hlt)⟩
      obtain ⟨r, hr⟩ : ∃ r, L[j]? = some r := ⟨_, List.getElem?_eq_getElem (by rw [HK.out]; exact hlt)⟩
      obtain ⟨b, off, rfl, hb, hat⟩ := hs.at_.resolve_left (by rintro rfl; cases hu)
      have c0 := (HF.out.cell (p := ⟨b, off + j, none⟩) hb).trans (hat j u hu)
      have hrow := (hv.2 j u r hu hr).1
      have hrm := List.mem_of_getElem? hr
      obtain ⟨ua, un, uc⟩ := u
      simp only at c0 hrow
      have hul := hrow.len
      have hun : un ≤ 60 := by rw [hul]; exact HRl.out r hrm
      have HRow := Lib.hid (hrow.belowAll HF.out)
      have HUl := Lib.hid hul
      have HSr : Hid ((sumG r : Int) ≤ C) := Lib.hid (HFits.out r hrm)
      have HFr : Hid (un = 0 → M = 0) := Lib.hid (fun h0 => by
        rcases Nat.eq_zero_or_pos M with h | h
        · exact h
        · refine absurd (List.length_eq_zero_iff.1 (by rw [← hul, h0])) (HFull.out (fun e => ?_) r hrm)
          have := HLl.out
          rw [e] at this
          simp at this
          omega)
      have HRg := Lib.hid (HRr.out r hrm)
      have HHr := Lib.hid hr
      clear hat hu hrow hul hr hs hv hb hrm
      go_wp2_with fail
      obtain ⟨wv, hwv⟩ : ∃ wv, wv = wr := ⟨_, rfl⟩
      subst hwv
      go_loopw [9, 43] (fun s i wr => ∃ q A : Nat, i = .int .i64 (q : Int) ∧ s = .int .i64 (A : Int) ∧ q ≤ un ∧ A ≤ 2 * q ∧ Hid (A = sumG (r.take q) ∧ Below wv.heap.size wv wr)) (fun _ i _ => un - (intOf i).toNat)
      case atStart => exact ⟨0, 0, rfl, rfl, Nat.zero_le _, Nat.zero_le _, Lib.hid ⟨rfl, Below.refl _ _⟩⟩
      case round =>
        obtain ⟨q, A, rfl, rfl, hq, hA, HI⟩ := hrel
        by_cases hlq : q < un
        · have hdq : decide (q < un) = true := decide_eq_true hlq
          have hqI : (q : Int) < un := by omega
          have hql : q < r.length := by rw [← HUl.out]; exact hlq
          obtain ⟨b2, off2, rfl, hb2, hat⟩ := HRow.out.at_.resolve_left (by intro e; rw [e] at hql; simp at hql)
          have htk := List.take_succ_eq_append_getElem hql
          have hrg := HRg.out r[q] (List.getElem_mem hql)
          obtain ⟨⟨z, sty⟩, hg⟩ : ∃ g, r[q] = g := ⟨_, rfl⟩
          have hk := hat q (z, sty) (by rw [List.getElem?_eq_getElem hql, hg])
          rw [hg] at htk hrg
          have k0 := (HI.out.2.cell (p := ⟨b2, off2 + q * 2, none⟩) hb2).trans hk.1
          have k1 := (HI.out.2.cell (p := ⟨b2, off2 + q * 2 + 1, none⟩) hb2).trans hk.2
          have hsz : A + ofS z = sumG (r.take (q + 1)) := by rw [htk, sumG_append, ← HI.out.1, sumG_cons, sumG_nil]; rfl
          have hof := ofS_le z
          have href := ofS_ref z hrg.1 hrg.2
          obtain ⟨Z, hZ⟩ : ∃ Z, ofS z = Z := ⟨_, rfl⟩
          rw [hZ] at hsz hof href
          have hwr : IntKind.i64.wrap z = z := by rw [IntKind.wrap_i64]; have h1 := hrg.1; have h2 := hrg.2; simp only at h1 h2; omega
          have HSz := Lib.hid hsz
          have HOf := Lib.hid (refOf_any z (wr.alloc (.cells #[.int .i32 z, .int .i64 sty] 42)))
          rw [← href] at HOf
          clear hat hql htk hrg hg hk hsz hZ href hb2 c0
          go_wp2_with fail
          refine HOf.out.mono ?_
          rintro e w9 ⟨rfl, hb9⟩
          have hb49 : Below wr.heap.size wr w9 := ((Below.refl _ _).alloc (Nat.le_refl _) (.cells #[.int .i32 z, .int .i64 sty] 42)).trans (hb9.mono (by simp))
          have HE : Hid (A + Z = sumG (r.take (q + 1)) ∧ Below wv.heap.size wv w9) := Lib.hid ⟨HSz.out, HI.out.2.trans (hb49.mono HI.out.2.size)⟩
          clear hb9 hb49 HOf k0 k1
          go_wp2_with fail
          go_roundw
          case rel => exact ⟨q + 1, A + Z, by go_num, by go_num, by omega, by omega, HE⟩
          case measure => simp [intOf]; omega
        · obtain rfl : q = un := by omega
          have hdq : decide (q < q) = false := by simp
          have hA0 := HI.out.1
          rw [List.take_of_length_le (by rw [← HUl.out]; exact Nat.le_refl _)] at hA0
          have hsr := HSr.out
          rw [← hA0] at hsr
          have d1 : decide ((A : Int) > C) = false := decide_eq_false (by omega)
          have d1' : decide (C < (A : Int)) = false := decide_eq_false (by omega)
          have HA0 := Lib.hid hA0
          have HBW : Hid (Below w7.heap.size w7 wr) := Lib.hid (HF.out.trans (HI.out.2.mono HF.out.size))
          have hw1 : (q = 0 ∧ M = 0) ∨ (q ≠ 0) := by
            by_cases h : q = 0
            · exact .inl ⟨h, HFr.out h⟩
            · exact .inr h
          have hw2 : (decide (j + 1 < K) = false ∧ ¬ (j + 1 < K)) ∨ (j + 1 < K) := by
            by_cases h : j + 1 < K
            · exact .inr h
            · exact .inl ⟨decide_eq_false h, h⟩
          rcases hw2 with ⟨d2, hno⟩ | hnext
          · have d2I : decide ((j : Int) + 1 < (K : Int)) = false := decide_eq_false (by omega)
            clear hA0 hsr HI HRow c0
            rcases hw1 with ⟨rfl, hM0⟩ | hq0
            · have e1 : decide (0 < M) = false := decide_eq_false (by omega)
              have e2 : decide ((M : Int) > 0) = false := decide_eq_false (by omega)
              have e3 : decide (0 < (M : Int)) = false := decide_eq_false (by omega)
              clear hM0
              go_wp2_with fail
              go_roundw
              case rel => exact ⟨j + 1, by go_num, by omega, HBW⟩
              case measure => simp [intOf]; omega
            · have e1 : ((q : Int) == 0) = false := by rw [beq_eq_false_iff_ne]; omega
              go_wp2_with fail
              go_roundw
              case rel => exact ⟨j + 1, by go_num, by omega, HBW⟩
              case measure => simp [intOf]; omega
          · have d2 : decide (j + 1 < K) = true := decide_eq_true hnext
            have d2I : decide ((j : Int) + 1 < (K : Int)) = true := decide_eq_true (by omega)
            have hjI2 : (j : Int) + 1 < K := by omega
            obtain ⟨us, hs, hv⟩ := HRo7.out
            obtain ⟨u2, hu2⟩ : ∃ u, us[j + 1]? = some u := ⟨_, List.getElem?_eq_getElem (by rw [← hs.len]; exact hnext)⟩
            obtain ⟨r2, hr2⟩ : ∃ r, L[j + 1]? = some r := ⟨_, List.getElem?_eq_getElem (by rw [HK.out]; exact hnext)⟩
            obtain ⟨b1, off1, e1, hb1, hat1⟩ := hs.at_.resolve_left (by rintro rfl; cases hu2)
            obtain ⟨rfl, rfl⟩ : b = b1 ∧ off = off1 := by injection e1 with e1; injection e1 with e2 e3; exact ⟨e2, e3⟩
            have c1 := (HBW.out.cell (p := ⟨b, off + (j + 1), none⟩) hb1).trans (hat1 (j + 1) u2 hu2)
            have hrow2 := (hv.2 (j + 1) u2 r2 hu2 hr2).1
            obtain ⟨g2, t2, hg2, hmore⟩ := HMore.out j r r2 HHr.out hr2
            rw [← hA0] at hmore
            have hrg2 := HRr.out r2 (List.mem_of_getElem? hr2) g2 (by rw [hg2]; simp)
            obtain ⟨b3, off3, e3, hb3, hat3⟩ := hrow2.at_.resolve_left (by rw [hg2]; simp)
            have hk2 := hat3 0 g2 (by rw [hg2]; rfl)
            have hn2 : 0 < u2.n := by rw [hrow2.len, hg2]; simp
            obtain ⟨u2a, u2n, u2c⟩ := u2
            simp only at c1 e3 hn2
            subst e3
            obtain ⟨z2, sty2⟩ := g2
            simp only at hmore hrg2 hk2
            have k0 := (HBW.out.cell (p := ⟨b3, off3 + 0 * 2, none⟩) hb3).trans hk2.1
            rw [Nat.zero_mul, Nat.add_zero] at k0
            have hn2I : (0 : Int) < (u2n : Int) := by omega
            have hof := ofS_le z2
            have href := ofS_ref z2 hrg2.1 hrg2.2
            obtain ⟨Z2, hZ2⟩ : ∃ Z, ofS z2 = Z := ⟨_, rfl⟩
            rw [hZ2] at hmore hof href
            have hwr : IntKind.i64.wrap z2 = z2 := by rw [IntKind.wrap_i64]; have h1 := hrg2.1; have h2 := hrg2.2; omega
            have d3 : decide ((A : Int) + (Z2 : Int) ≤ C) = false := decide_eq_false (by omega)
            have HOf := Lib.hid (refOf_any z2 wr)
            rw [← href] at HOf
            clear hA0 hsr HI HRow hs hv hu2 hr2 hat1 hat3 hk2 hrow2 hg2 hmore hrg2 hZ2 href hb1 hb3 e1 c0
            rcases hw1 with ⟨rfl, hM0⟩ | hq0
            · have e1 : decide (0 < M) = false := decide_eq_false (by omega)
              have e2 : decide ((M : Int) > 0) = false := decide_eq_false (by omega)
              have e3 : decide (0 < (M : Int)) = false := decide_eq_false (by omega)
              clear hM0
              go_wp2_with fail
              refine HOf.out.mono ?_
              rintro e w9 ⟨rfl, hb9⟩
              have HE : Hid (Below w7.heap.size w7 w9) := Lib.hid (HBW.out.trans (hb9.mono HBW.out.size))
              clear hb9 HOf
              go_wp2_with fail
              go_roundw
              case rel => trace_state; exact ⟨j + 1, by go_num, by omega, HE⟩
              case measure => simp [intOf]; omega
            · have e1 : ((q : Int) == 0) = false := by rw [beq_eq_false_iff_ne]; omega
              go_wp2_with fail
              refine HOf.out.mono ?_
              rintro e w9 ⟨rfl, hb9⟩
              have HE : Hid (Below w7.heap.size w7 w9) := Lib.hid (HBW.out.trans (hb9.mono HBW.out.size))
              clear hb9 HOf
              go_wp2_with fail
              go_roundw
              case rel => exact ⟨j + 1, by go_num, by omega, HE⟩
              case measure => simp [intOf]; omega
    · obtain rfl : j = K := by omega
      have hd : decide (j < j) = false := by simp
      have hend : Hid (P (.returned (.bool true)) wr) := Lib.hid (by rw [← HP.out]; exact ⟨rfl, HB07.out.trans (HF.out.mono HB07.out.size)⟩)
      clear HF hlt
      go_wp2_with fail
      exact hend.out
end Go.Proofs.YtjlhinofglokoaaDoor.F
