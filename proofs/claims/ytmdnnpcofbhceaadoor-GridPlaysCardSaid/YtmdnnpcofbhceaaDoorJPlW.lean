/- GridPlays: behind any calls the rows are just the document's: the walk. -/
import Derived.Test.YtmdnnpcofbhceaaDoorJIsG
namespace Go.Proofs.YtmdnnpcofbhceaaDoor.K
open Go.RowKit

theorem SynQ.is {m g px : Nat} {oa : Option (Nat × ActG)} {x : Gd} {v : Value} {Wx : Nat} {sv : Value} {w0 w : World} (h : SynQ m g px oa x v Wx sv w0 w) :
    Calls Tryd.prog 34 #[.pointer (some ⟨g, 0, none⟩), v] w fun e w' => e = .returned (.bool true) ∧ Below w.heap.size w w' := by
  obtain ⟨q, L, -, -, -, -, -, h1, h2⟩ := h.ex
  exact lawIs_any w h1 h2
def PyOk (g ab ao na ca j : Nat) (xj : Gd) (A : ActG) (a : Option Addr) (n c : Nat) : Nat → Value → World → Prop
  | 0, u, _ => u = .pointer (some ⟨g, 0, none⟩)
  | 1, u, _ => u = .agg #[.int .i64 (xj.W : Int), .slice a n c]
  | 2, u, _ => u = .slice (some ⟨ab, ao, none⟩) na ca
  | 3, u, _ => u = .int .i64 (j : Int)
  | 4, u, _ => u = .pointer (some ⟨ab, ao + j * 13, none⟩)
  | 5, u, _ => u = .agg (actC A)
  | 6, _, _ => True
  | 7, u, w => ∃ a, u = .tuple #[a, .bool true]
  | 8, _, _ => True
  | 9, u, _ => u = .bool true
  | 10, _, _ => True
  | 11, u, _ => u = .bool true
  | _, _, _ => True
set_option maxRecDepth 100000 in
set_option maxHeartbeats 16000000 in
theorem gplays_walk (w0 h0 : Int) (aa : Option Addr) (na ca : Nat) (la : List ActG) (w : World) (hT : W.Tab w) (hA : GActsIn aa na ca la w) :
    Calls Tryd.prog 7 #[.int .i64 w0, .int .i64 h0, .slice aa na ca] w fun e w' => e = .returned (.bool true) ∧ Below w.heap.size w w' := by
  obtain ⟨rb, hrb⟩ : ∃ rb, w.heap.size = rb := ⟨_, rfl⟩
  rw [hrb]
  obtain ⟨P, hP⟩ : ∃ P : Ending → World → Prop, (fun e w' => e = .returned (.bool true) ∧ Below rb w w') = P := ⟨_, rfl⟩
  rw [hP]
  have HP := Lib.hid hP
  obtain ⟨SW, hSW⟩ : ∃ s, smallN w0 = s := ⟨_, rfl⟩
  obtain ⟨SH, hSH⟩ : ∃ s, smallN h0 = s := ⟨_, rfl⟩
  have HSW := Lib.hid hSW
  have HSH := Lib.hid hSH
  have HRb := Lib.hid hrb
  have HT0 := Lib.hid hT
  have HA0 := Lib.hid hA
  have HLn := Lib.hid hA.len
  have hfit : (na : Int) ≤ ca := by have := hA.fit; omega
  have htop := hA.top
  have HAw := Lib.hid (gawake_any w hT)
  clear hP hrb hT hA hSW hSH
  go_enter Tryd.func7, Tryd.ntmps7
  go_upto_region 3 with (go_at_call 29; refine HAw.out.mono ?_; rintro e w1 ⟨rfl, hb1⟩)
  have HB1 : Hid (Below rb w w1) := Lib.hid (by rw [← HRb.out]; exact hb1)
  clear hb1 HAw
  go_wp2_with fail
  refine (small_any w0 w1).mono ?_
  rintro e w2 ⟨rfl, rfl⟩
  rw [HSW.out]
  go_wp2_with fail
  refine (small_any h0 w1).mono ?_
  rintro e w2 ⟨rfl, rfl⟩
  rw [HSH.out]
  have HN := Lib.hid (gnew_any SW SH w1)
  go_wp2_with fail
  refine HN.out.mono ?_
  rintro e w2 ⟨g, q, rfl, hg, hq, hG, hb2⟩
  have hs1 : rb ≤ w1.heap.size := by have := HB1.out.size; have := HRb.out; omega
  have HGq : Hid (rb ≤ g ∧ rb ≤ q) := Lib.hid (by omega)
  have HG := Lib.hid hG
  have HB2 : Hid (Below rb w w2) := Lib.hid (HB1.out.trans (hb2.mono hs1))
  have HS2 : Hid (rb ≤ w2.heap.size) := Lib.hid (by have := hb2.size; omega)
  clear hg hq hG hb2 hs1 HN
  go_wp2_with fail
  refine (small_any w0 w2).mono ?_
  rintro e w3 ⟨rfl, rfl⟩
  rw [HSW.out]
  go_wp2_with fail
  refine (small_any h0 w2).mono ?_
  rintro e w3 ⟨rfl, rfl⟩
  rw [HSH.out]
  have HN := Lib.hid (refNew_any (L := [g, q]) SW SH w2 (fun p hp => by
    have h2 : p = g ∨ p = q := by simpa using hp
    have := HG.out.lt
    omega))
  obtain ⟨x0, hx0⟩ : ∃ x0, newG SW SH = x0 := ⟨_, rfl⟩
  rw [hx0] at HN HG
  clear hx0
  go_wp2_with fail
  refine HN.out.mono ?_
  rintro e w3 ⟨v3, rfl, hR3, hb3⟩
  obtain ⟨a3, n3, c3, rfl, hl3⟩ := hR3
  unfold refV
  obtain ⟨px, hpx⟩ : ∃ p, w3.heap.size = p := ⟨_, rfl⟩
  obtain ⟨w4, hw4⟩ : ∃ w4, w3.alloc (.cells #[.int .i64 (x0.W : Int), .slice a3 n3 c3] 59) = w4 := ⟨_, rfl⟩
  have hS := SynQ.init (m := rb) (oa := none) (w0 := w) (L := [g, q]) HGq.out.1 HGq.out.2 (fun p hp => by
    have h2 : p = g ∨ p = q := by simpa using hp
    have := HG.out.lt
    have := hb3.size
    omega) (HG.out.below hb3) ⟨a3, n3, c3, rfl, hl3⟩ (by simp) (by simp) (HB2.out.trans (hb3.mono HS2.out)) (Nat.le_trans HS2.out hb3.size) (fun p A e => by cases e)
  rw [hpx, hw4] at hS
  have HS := Lib.hid hS
  have HPx := Lib.hid hpx
  have HW4 := Lib.hid hw4
  clear hS hl3 hb3 hpx hw4 HG HN
  go_upto_region 4 with fail
  rw [HPx.out, HW4.out]
  go_wp2_with fail
  go_loopw [10] (fun i wr => ∃ j : Nat, i = .int .i64 (j : Int) ∧ j ≤ na ∧ Hid (∃ a n c, SynQ rb g px none (playG x0 la j) (refV (playG x0 la j).W a n c) (playG x0 la j).W (.slice a n c) w wr)) (fun i _ => na - (intOf i).toNat)
  case atStart => exact ⟨0, rfl, by omega, Lib.hid ⟨a3, n3, c3, HS.out⟩⟩
  case round =>
    obtain ⟨j, rfl, hj, HF⟩ := hrel
    clear HS
    obtain ⟨a, n, c, hS⟩ := HF.out
    have HB : Hid (Below rb w wr ∧ rb ≤ wr.heap.size) := Lib.hid ⟨hS.b, hS.m⟩
    by_cases hlt : j < na ∧ j < 25
    · have d1 : decide (j < na) = true := decide_eq_true hlt.1
      have d2 : decide ((j : Int) < 25) = true := decide_eq_true (by omega)
      have hjn : (j : Int) < na := by omega
      have hjl : j < la.length := by rw [← HLn.out]; exact hlt.1
      obtain ⟨ab, ao, rfl, hab, hAt⟩ := HA0.out.at_.resolve_left (by intro e; rw [e] at hjl; simp at hjl)
      have hat := hAt j la[j] (List.getElem?_eq_getElem hjl)
      have hrg := HA0.out.ok la[j] (List.getElem_mem hjl)
      have hps := playG_succ (x := x0) hjl
      obtain ⟨A, hAj⟩ : ∃ A, la[j] = A := ⟨_, rfl⟩
      rw [hAj] at hat hrg hps
      obtain ⟨xj, hxj⟩ : ∃ x, playG x0 la j = x := ⟨_, rfl⟩
      rw [hxj] at hS hps
      obtain ⟨y, hy⟩ : ∃ y, stepG xj A = y := ⟨_, rfl⟩
      rw [hy] at hps
      have HS := Lib.hid hS
      have HAt := Lib.hid hat
      have HRg := Lib.hid hrg
      have HPs := Lib.hid hps
      have HY := Lib.hid hy
      have HAl : Hid (ab < rb) := Lib.hid (by rw [← HRb.out]; exact hab)
      have hc0 := hS.xb.c0
      have hc1 := hS.xb.c1
      clear hlt hAt hat hrg hps hAj hab hxj hy hS HF
      go_upto_region 10 with fail
      refine Go.Proofs.YtmdnnpcofbhceaaDoor.R.wp_region_prog [1, 6, 7, 8, 10] (by kernel_rfl) (StG rb g px none xj y a n c w 42 35 43) (fun _ _ => True) (PyOk g ab ao na ca j xj A a n c) (by rfl) (by kernel_rfl) (by kernel_rfl) (by kernel_rfl) ?hcong ?hOk ?hop ?hdone ?h0
      case hcong => exact fun k f f2 u hs hst => StG.cong (fun hk => hs 42 (Go.Proofs.YtmdnnpcofbhceaaDoor.R.mem_slots (by subst hk; kernel_rfl))) (fun hk => hs 35 (Go.Proofs.YtmdnnpcofbhceaaDoor.R.mem_slots (by subst hk; kernel_rfl))) (fun hk => hs 43 (Go.Proofs.YtmdnnpcofbhceaaDoor.R.mem_slots (by subst hk; kernel_rfl))) hst
      case hOk => intro i u w1 w2 h hr; unfold PyOk at h ⊢; split <;> first | exact True.intro | exact h
      case h0 => exact SynQ.below HS.out ((Below.refl _ _).drew)
      case hop =>
        refine ⟨?_, ?_, ?_, ?_, ?_, ?_, ?_, ?_, ?_, ?_, ?_, ?_, trivial⟩
        · intro k z v hst hag hdep
          refine .inl ⟨rfl, fun K hK => ?_⟩
          have d7 : z.tmps.getD 7 undef = .pointer (some ⟨g, 0, none⟩) := hag.2.2 7 (by kernel_rfl)
          have e7 := d7
          rw [Array.getD_eq_getD_getElem?] at e7
          have HSt := Lib.hid hst
          clear hdep hag hst
          go_simp
          exact hK _ _ trivial rfl HSt.out
        · intro z v hst hag hdep
          refine ⟨rfl, fun K hK => ?_⟩
          have d8 : z.tmps.getD 8 undef = .pointer (some ⟨px, 0, none⟩) := hag.2.2 8 (by kernel_rfl)
          have e8 := d8
          rw [Array.getD_eq_getD_getElem?] at e8
          have l0 := (SynQ.xb hst).c0
          have l1 := (SynQ.xb hst).c1
          have HSt := Lib.hid hst
          clear hdep hag hst
          go_simp
          exact hK _ _ trivial rfl HSt.out
        · intro k z v hst hag hdep
          refine .inl ⟨rfl, fun K hK => ?_⟩
          have d2 : z.tmps.getD 2 undef = .slice (some ⟨ab, ao, none⟩) na ca := hag.2.2 2 (by kernel_rfl)
          have e2 := d2
          rw [Array.getD_eq_getD_getElem?] at e2
          have HSt := Lib.hid hst
          clear hdep hag hst
          go_simp
          exact hK _ _ trivial rfl HSt.out
        · intro k z v hst hag hdep
          refine .inl ⟨rfl, fun K hK => ?_⟩
          have d10 : z.tmps.getD 10 undef = .int .i64 (j : Int) := hag.2.2 10 (by kernel_rfl)
          have e10 := d10
          rw [Array.getD_eq_getD_getElem?] at e10
          have HSt := Lib.hid hst
          clear hdep hag hst
          go_simp
          exact hK _ _ trivial rfl HSt.out
        · intro k z v hst hag hdep
          refine .inl ⟨rfl, fun K hK => ?_⟩
          have d38 : z.tmps.getD 38 undef = .slice (some ⟨ab, ao, none⟩) na ca := hdep { on := 2, ground := .data } (by simp) rfl _ _ rfl rfl
          have e38 := d38
          rw [Array.getD_eq_getD_getElem?] at e38
          have d39 : z.tmps.getD 39 undef = .int .i64 (j : Int) := hdep { on := 3, ground := .data } (by simp) rfl _ _ rfl rfl
          have e39 := d39
          rw [Array.getD_eq_getD_getElem?] at e39
          have HSt := Lib.hid hst
          clear hdep hag hst
          go_simp
          exact hK _ _ trivial rfl HSt.out
        · intro k z v hst hag hdep
          refine .inl ⟨rfl, fun K hK => ?_⟩
          have d40 : z.tmps.getD 40 undef = .pointer (some ⟨ab, ao + j * 13, none⟩) := hdep { on := 4, ground := .data } (by simp) rfl _ _ rfl rfl
          have e40 := d40
          rw [Array.getD_eq_getD_getElem?] at e40
          have hA := HAt.out.block (hst.xb.1.block ab HAl.out)
          have l0 := hA.c0
          have l1 := hA.c1
          have l2 := hA.c2
          have l3 := hA.c3
          have l4 := hA.c4
          have l5 := hA.c5
          have l6 := hA.c6
          have l7 := hA.c7
          have l8 := hA.c8
          have l9 := hA.c9
          have l10 := hA.c10
          have l11 := hA.c11
          have l12 := hA.c12
          have HSt := Lib.hid hst
          clear hdep hag hst
          go_simp
          exact hK _ _ trivial rfl HSt.out
        · intro z v hst hag hdep
          refine ⟨rfl, fun K hK => ?_⟩
          have d36 : z.tmps.getD 36 undef = .pointer (some ⟨g, 0, none⟩) := hdep { on := 0, ground := .data } (by simp) rfl _ _ rfl rfl
          have e36 := d36
          rw [Array.getD_eq_getD_getElem?] at e36
          have d37 : z.tmps.getD 37 undef = .agg #[.int .i64 (xj.W : Int), .slice a n c] := hdep { on := 1, ground := .data } (by simp) rfl _ _ rfl rfl
          have e37 := d37
          rw [Array.getD_eq_getD_getElem?] at e37
          have d41 : z.tmps.getD 41 undef = .agg (actC A) := hdep { on := 5, ground := .data } (by simp) rfl _ _ rfl rfl
          have e41 := d41
          rw [Array.getD_eq_getD_getElem?] at e41
          have HC := Lib.hid (SynQ.call (A := A) hst (HT0.out.belowAll (by rw [HRb.out]; exact (SynQ.b hst))) HRg.out)
          rw [HY.out] at HC
          unfold refV actC at HC
          have hsz : 42 < z.tmps.size := by rw [hag.2.1]; show 42 < 56; decide
          clear hdep hag hst
          try unfold actC at e41
          go_simp
          refine HC.out.mono ?_
          rintro e w' ⟨v', rfl, hS⟩
          exact hK _ _ trivial True.intro ⟨v', Go.Proofs.YtmdnnpcofbhceaaDoor.R.slot_same hsz, hS⟩
        · intro z v hst hag hdep
          refine ⟨rfl, fun K hK => ?_⟩
          obtain ⟨v', f, hS⟩ := hst
          have d42 : z.tmps.getD 42 undef = .tuple #[v', .bool true] := f
          have e42 := d42
          rw [Array.getD_eq_getD_getElem?] at e42
          have hsz : 35 < z.tmps.size := by rw [hag.2.1]; show 35 < 56; decide
          clear hdep hag f
          go_simp
          exact hK _ _ trivial ⟨v', rfl⟩ ⟨v', Go.Proofs.YtmdnnpcofbhceaaDoor.R.slot_same hsz, hS⟩
        · intro z v hst hag hdep
          refine ⟨rfl, fun K hK => ?_⟩
          have d35' : PyOk g ab ao na ca j xj A a n c 7 (z.tmps.getD 35 undef) v := hdep { on := 7, ground := .data } (by simp) rfl _ _ rfl rfl
          simp only [PyOk] at d35'
          obtain ⟨t_, d35⟩ := d35'
          have e35 := d35
          rw [Array.getD_eq_getD_getElem?] at e35
          clear e35 d35
          obtain ⟨v', f, hS⟩ := hst
          have d35 : z.tmps.getD 35 undef = .tuple #[v', .bool true] := f
          have e35 := d35
          rw [Array.getD_eq_getD_getElem?] at e35
          have hsz : 43 < z.tmps.size := by rw [hag.2.1]; show 43 < 56; decide
          clear hdep hag f
          go_simp
          refine hK _ _ trivial True.intro ?_
          show SynQ _ _ _ _ _ (Go.Proofs.YtmdnnpcofbhceaaDoor.R.slot _ _) _ _ _ _
          rw [Go.Proofs.YtmdnnpcofbhceaaDoor.R.slot_same hsz]
          exact hS
        · intro k z v hst hag hdep
          refine .inl ⟨rfl, fun K hK => ?_⟩
          have d35' : PyOk g ab ao na ca j xj A a n c 7 (z.tmps.getD 35 undef) v := hdep { on := 7, ground := .data } (by simp) rfl _ _ rfl rfl
          simp only [PyOk] at d35'
          obtain ⟨t_, d35⟩ := d35'
          have e35 := d35
          rw [Array.getD_eq_getD_getElem?] at e35
          have HSt := Lib.hid hst
          clear hdep hag hst
          go_simp
          exact hK _ _ trivial rfl HSt.out
        · intro z v hst hag hdep
          refine ⟨rfl, fun K hK => ?_⟩
          have d8 : z.tmps.getD 8 undef = .pointer (some ⟨px, 0, none⟩) := hag.2.2 8 (by kernel_rfl)
          have e8 := d8
          rw [Array.getD_eq_getD_getElem?] at e8
          have hS : SynQ rb g px none y (Go.Proofs.YtmdnnpcofbhceaaDoor.R.slot z 43) xj.W (.slice a n c) w v := hst
          obtain ⟨a2, n2, c2, he⟩ := hS.shape
          rw [he] at hS
          have d43 : z.tmps.getD 43 undef = refV y.W a2 n2 c2 := he
          have e43 := d43
          rw [Array.getD_eq_getD_getElem?] at e43
          unfold refV at e43 d43
          have l0 := hS.xb.c0
          have l1 := hS.xb.c1
          have f0 := hS.xb.fr 0
          have f1 := hS.xb.fr 1
          have HS2 := Lib.hid hS.store
          clear hdep hag hst hS he
          go_simp
          exact hK undef _ trivial True.intro ⟨a2, n2, c2, HS2.out⟩
        · intro k z v hst hag hdep
          refine .inl ⟨rfl, fun K hK => ?_⟩
          have d44 : z.tmps.getD 44 undef = .bool true := hdep { on := 9, ground := .data } (by simp) rfl _ _ rfl rfl
          have e44 := d44
          rw [Array.getD_eq_getD_getElem?] at e44
          have HSt := Lib.hid hst
          clear hdep hag hst
          go_simp
          exact hK _ _ trivial rfl HSt.out
      case hdone =>
        intro z v hst hag hok
        obtain ⟨a2, n2, c2, hS⟩ := hst
        have HS2 := Lib.hid hS
        have d9 : z.tmps.getD 9 undef = .bool true := hok 11 _ 9 rfl rfl
        clear hS HS hc0 hc1
        obtain ⟨uu, hu, hzz⟩ := Go.Proofs.YtmdnnpcofbhceaaDoor.R.agree_frame [36, 37, 38, 39, 40, 41, 42, 35, 43, 44, 9] rfl hag
        have e9 := (hu 9).trans d9
        subst hzz
        simp only [List.foldl_cons, List.foldl_nil]
        rw [e9]
        clear e9 d9 hu hag hok
        try dsimp only [Exit.then]
        simp only [List.setIfInBounds_toArray, List.set_cons_succ, List.set_cons_zero]
        generalize uu 36 = u36', uu 37 = u37', uu 38 = u38', uu 39 = u39', uu 40 = u40', uu 41 = u41', uu 42 = u42', uu 35 = u35', uu 43 = u43', uu 44 = u44'
        clear uu
        have hc0 := HS2.out.xb.c0
        have hc1 := HS2.out.xb.c1
        have his := HS2.out.is
        unfold refV at his
        have HIs := Lib.hid his
        clear his
        rename_i K hK
        refine hK _ _ ?_
        go_wp2_with fail
        refine HIs.out.mono ?_
        rintro e w5 ⟨rfl, hb5⟩
        have HE : Hid (∃ a n c, SynQ rb g px none (playG x0 la (j + 1)) (refV (playG x0 la (j + 1)).W a n c) (playG x0 la (j + 1)).W (.slice a n c) w w5) := Lib.hid ⟨a2, n2, c2, by rw [HPs.out]; exact HS2.out.below hb5⟩
        clear hb5 HIs hc0 hc1 HS2
        go_wp2_with fail
        go_roundw
        case rel => exact ⟨j + 1, by go_num, by omega, HE⟩
        case measure => simp [intOf]; omega
    · have hc0 := hS.xb.c0
      have hc1 := hS.xb.c1
      have his := hS.is
      unfold refV at his
      have HIs := Lib.hid his
      have hend : Hid (∀ w', Below wr.heap.size wr w' → P (.returned (.bool true)) w') := Lib.hid (fun w' hb => by rw [← HP.out]; exact ⟨rfl, HB.out.1.trans (hb.mono HB.out.2)⟩)
      clear hS HF his
      by_cases hj2 : j < na
      · have d1 : decide (j < na) = true := decide_eq_true hj2
        have d2 : decide ((j : Int) < 25) = false := decide_eq_false (by omega)
        clear hlt
        go_wp2_with fail
        refine HIs.out.mono ?_
        rintro e w5 ⟨rfl, hb5⟩
        have HE := Lib.hid (hend.out w5 hb5)
        clear hb5 HIs hc0 hc1
        go_wp2_with fail
        exact HE.out
      · have d1 : decide (j < na) = false := decide_eq_false hj2
        clear hlt
        go_wp2_with fail
        refine HIs.out.mono ?_
        rintro e w5 ⟨rfl, hb5⟩
        have HE := Lib.hid (hend.out w5 hb5)
        clear hb5 HIs hc0 hc1
        go_wp2_with fail
        exact HE.out
end Go.Proofs.YtmdnnpcofbhceaaDoor.K
