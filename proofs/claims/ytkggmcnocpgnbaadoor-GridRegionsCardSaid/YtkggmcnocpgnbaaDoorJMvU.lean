/- The document's grid: Move. -/
import Derived.Test.YtkggmcnocpgnbaaDoorMerged18
namespace Go.Proofs.YtkggmcnocpgnbaaDoor.K
open Go.RowKit

set_option maxRecDepth 100000 in
set_option maxHeartbeats 16000000 in
theorem refMove_true {L : List Nat} {x : Gd} {v : Value} (top bot n0 s : Int) (w : World) (hv : RefG L v x w) (hx : GdOk x) (hL : ∀ p ∈ L, p < w.heap.size) :
    Calls Tryd.prog 68 #[v, .bool true, .int .i64 top, .int .i64 bot, .int .i64 n0, .int .i64 s] w (GrPost2 L (upG x top bot n0 s) w) := by
  obtain ⟨a, n, c, rfl, hrl⟩ := hv
  have hn := hrl.len
  have hx1 := hx.h1
  have hx2 := hx.h2
  obtain ⟨us, hin, hrv, hoff⟩ := hrl.ex
  have hul : n = us.length := hin.len
  obtain ⟨bq, off, rfl, hbq, hat⟩ := hin.at_.resolve_left (by intro e; rw [e] at hul; simp at hul; omega)
  obtain ⟨rb, hrb⟩ : ∃ rb, w.heap.size = rb := ⟨_, rfl⟩
  unfold refV
  obtain ⟨w1, hw1⟩ : ∃ w1, w.alloc (.cells #[.int .i64 (x.W : Int), .slice (some ⟨bq, off, none⟩) n c] 82) = w1 := ⟨_, rfl⟩
  have hs1 : w1.heap.size = rb + 1 := by rw [← hw1, World.size_alloc, hrb]
  obtain ⟨w2, hw2⟩ : ∃ w2, w1.alloc (.cells #[.int .i64 0, .slice none 0 0] 82) = w2 := ⟨_, rfl⟩
  have hs2 : w2.heap.size = rb + 2 := by rw [← hw2, World.size_alloc, hs1]
  obtain ⟨w3, hw3⟩ : ∃ w3, w2.alloc (.cells #[] 38) = w3 := ⟨_, rfl⟩
  have hs3 : w3.heap.size = rb + 3 := by rw [← hw3, World.size_alloc, hs2]
  have b01 : Below rb w w1 := by rw [← hw1, ← hrb]; exact (Below.refl _ _).alloc (Nat.le_refl _) _
  have b12 : Below w1.heap.size w1 w2 := by rw [← hw2]; exact (Below.refl _ _).alloc (Nat.le_refl _) _
  have b23 : Below w2.heap.size w2 w3 := by rw [← hw3]; exact (Below.refl _ _).alloc (Nat.le_refl _) _
  have b03 : Below rb w w3 := (b01.trans (b12.mono (by omega))).trans (b23.mono (by omega))
  have hg1 : GrB rb x.W (.slice (some ⟨bq, off, none⟩) n c) w1 := by rw [← hw1, ← hrb]; exact GrB.new w x.W _
  have hg3 := (hg1.belowAll b12).belowAll b23
  have hr2 : GrB (rb + 1) 0 (.slice none 0 0) w2 := by rw [← hw2, ← hs1]; exact GrB.new w1 0 _
  have hr3 := hr2.belowAll b23
  have hgo3 : OwnV 38 (rb + 2) (.slice (some ⟨rb + 2, 0, none⟩) 0 0) [] w3 := by rw [← hw3, ← hs2]; exact OwnV.lit _ _ _ (Nat.le_refl _)
  have hT := plN_lt (t := top) (by omega : 0 < x.rs.length)
  have hB := plN_lt (t := bot) (by omega : 0 < x.rs.length)
  have hneT := plN_near (by omega : 0 < x.rs.length) top
  have hneB := plN_near (by omega : 0 < x.rs.length) bot
  obtain ⟨P, hP⟩ : ∃ P, GrPost2 L (upG x top bot n0 s) w = P := ⟨_, rfl⟩
  rw [hP]
  unfold upG at hP
  simp only at hP
  obtain ⟨T, hTe⟩ : ∃ T, plN x.rs.length top = T := ⟨_, rfl⟩
  obtain ⟨B, hBe⟩ : ∃ B, plN x.rs.length bot = B := ⟨_, rfl⟩
  rw [hTe] at hT hneT hP
  rw [hBe] at hB hneB hP
  obtain ⟨N1, hN1⟩ : ∃ N, min top ((n : Int) - 1) = N := ⟨_, rfl⟩
  have hM1 : max 0 N1 = (T : Int) := by rw [← hN1]; unfold nearG at hneT; omega
  obtain ⟨N2, hN2⟩ : ∃ N, min bot ((n : Int) - 1) = N := ⟨_, rfl⟩
  have hM2 : max 0 N2 = (B : Int) := by rw [← hN2]; unfold nearG at hneB; omega
  have gc0 := hg3.c0
  have gc1 := hg3.c1
  have q0 := hr3.c0
  have q1 := hr3.c1
  have qf0 := hr3.fr 0
  have qf1 := hr3.fr 1
  have c1 := (hg1.belowAll b12).c1
  have HW1 := Lib.hid hw1
  have HW2 := Lib.hid hw2
  have HW3 := Lib.hid hw3
  have HRb := Lib.hid hrb
  have HS2 := Lib.hid hs2
  have HS3 := Lib.hid hs3
  have HL := Lib.hid hL
  have HRl := Lib.hid hrl
  have HIn := Lib.hid hin
  have HRv := Lib.hid hrv
  have HOff := Lib.hid hoff
  have HXo := Lib.hid hx
  have HNl := Lib.hid hn
  have HUl := Lib.hid hul
  have HB03 : Hid (Below w.heap.size w w3) := Lib.hid (by rw [hrb]; exact b03)
  have HG3 := Lib.hid hg3
  have HR3 := Lib.hid hr3
  have HGo3 := Lib.hid hgo3
  have hn1 : n ≤ 1000 := by omega
  have hTn : T < n := by omega
  have hBn : B < n := by omega
  have hlt0 : rb < w3.heap.size := by omega
  have hlt1 : rb + 1 < w3.heap.size := by omega
  clear hw1 hw2 hw3 hs1 hs2 hs3 b01 b12 b23 b03 hg1 hg3 hr2 hr3 hgo3 hrb hL hrl hin hrv hoff hbq hat hx hn hx1 hx2 hul hneT hneB hTe hBe hT hB
  by_cases hBT : B < T
  · rw [if_pos hBT] at hP
    have HP := Lib.hid hP
    have d1 : decide (B < T) = true := decide_eq_true hBT
    have d2 : decide ((B : Int) < (T : Int)) = true := decide_eq_true (by omega)
    clear hP
    go_enter Tryd.func68, Tryd.ntmps68
    go_upto_region 1 with fail
    rw [HW1.out, HRb.out, HW2.out]
    go_upto_region 5 with fail
    rw [HW3.out, HS2.out]
    go_wp2_with fail
    refine bodyPost_ret (v := .tuple #[.agg #[.int .i64 (x.W : Int), .slice (some ⟨bq, off, none⟩) n c], .slice (some ⟨rb + 2, 0, none⟩) 0 0]) (by rw [results_cell_tmp (fn := Tryd.f68) rfl]; go_simp <;> rfl) rfl ?_
    rw [← HP.out]
    have hrbw := HRb.out
    have hk9 : KeepB [rb + 1] w3 ((w3.setCell ⟨rb + 1, 0, none⟩ (.int .i64 (x.W : Int))).setCell ⟨rb + 1, 1, none⟩ (.slice (some ⟨bq, off, none⟩) n c)) := (KeepB.setCell _).trans (KeepB.setCell _)
    refine ⟨_, _, _, _, rfl, ⟨_, n, c, rfl, (((HRl.out.cons (q := rb + 1) (by omega)).below HB03.out).keptB (hk9.mono (fun i hi => by rw [List.mem_singleton.1 hi]; simp))).sub (fun p hp => List.mem_cons_of_mem _ hp)⟩, ⟨⟨[], ⟨rfl, Nat.le_refl _, by decide, .inl rfl⟩, RowsV.nil _ _, fun u hu => (by cases hu)⟩, fun e => (by cases e), fun h => absurd rfl h⟩, ?_⟩
    exact hk9.below (fun i hi => by rw [List.mem_singleton.1 hi]; omega) HB03.out HB03.out.size
  · rw [if_neg hBT] at hP
    have HP := Lib.hid hP
    have d1 : decide (B < T) = false := decide_eq_false hBT
    have d2 : decide ((B : Int) < (T : Int)) = false := decide_eq_false (by omega)
    have hTB : T ≤ B := by omega
    obtain ⟨m, hm⟩ : ∃ m, B - T = m := ⟨_, rfl⟩
    have hmI : (B : Int) - (T : Int) = (m : Int) := by omega
    have HM := Lib.hid hm
    have hK := cntN_le n0 (B + 1 - T)
    obtain ⟨K, hKe⟩ : ∃ K, cntN n0 (B + 1 - T) = K := ⟨_, rfl⟩
    have HKe := Lib.hid hKe
    rw [hKe] at hK
    have hb34 : Below w3.heap.size w3 (w3.alloc (.cells #[] 38)) := (Below.refl _ _).alloc (Nat.le_refl _) _
    have HO0 := Lib.hid (OwnV.lit 38 w3 w3.heap.size (Nat.le_refl _))
    have HI4 := Lib.hid ((HIn.out.belowAll HB03.out).belowAll hb34)
    have HB34 := Lib.hid hb34
    have HLn : Hid ((us.length : Int) ≤ 1000000) := Lib.hid (by have := HUl.out; omega)
    clear hP hb34 hBT hm hKe
    go_enter Tryd.func68, Tryd.ntmps68
    go_upto_region 1 with fail
    rw [HW1.out, HRb.out, HW2.out]
    go_upto_region 5 with fail
    rw [HW3.out, HS2.out]
    go_wp2_with (refine wpList_append_rows refRowsT rfl _ _ rfl rfl w3.heap.size _ [] (some ⟨bq, off, none⟩) n c us rfl rfl HO0.out HI4.out (fun e => by cases e) (by simp) HLn.out HB34.out.size ?_)
    intro v5 w5 ho5 hg5
    try rw [List.nil_append] at ho5
    have hul := HUl.out
    have hb35 : Below w3.heap.size w3 w5 := HB34.out.grown hg5 HB34.out.size (fun j hj => (HO0.out.ownBlock j hj).1)
    obtain ⟨q, c5, rfl⟩ : ∃ q c5, v5 = .slice (some ⟨q, 0, none⟩) n c5 := by
      rcases ho5.2 with ⟨h0, h1⟩ | ⟨g', cap', cur, he, _⟩
      · omega
      · exact ⟨g', cap', by rw [he, ← hul]⟩
    have hq5 := ho5.ownBlock q rfl
    have gc0 := (HG3.out.belowAll hb35).c0
    have HO5 := Lib.hid ho5
    have HB35 := Lib.hid hb35
    have HQ5 := Lib.hid hq5
    have HBl := Lib.hid (refBlank_any (x.W : Int) s w5)
    clear ho5 hg5 hb35 hq5 hul q0 q1 qf0 qf1 gc1
    go_wp2_with fail
    refine HBl.out.mono ?_
    rintro e w6 ⟨v6, rfl, hC6, hb6⟩
    have hnW : nearN (x.W : Int) = x.W := by have := HXo.out.w2; unfold nearN; omega
    rw [hnW] at hC6
    obtain ⟨x6, y6, rfl, -⟩ := hC6.shape
    rw [blanks_length] at hC6 ⊢
    have hrb0 := HRb.out
    have hs30 := HS3.out
    obtain ⟨pk, hpk⟩ : ∃ pk, w6.heap.size = pk := ⟨_, rfl⟩
    obtain ⟨w7, hw7⟩ : ∃ w7, w6.alloc (.cells #[.slice x6 x.W y6, .bool false] 38) = w7 := ⟨_, rfl⟩
    have hb67 : Below w6.heap.size w6 w7 := by rw [← hw7]; exact (Below.refl _ _).alloc (Nat.le_refl _) _
    obtain ⟨ub, hub⟩ : ∃ ub : Rv, ub = ⟨x6, x.W, y6, false⟩ := ⟨_, rfl⟩
    have hm0 : MvI rb q pk n c5 x.W (.slice (some ⟨bq, off, none⟩) n c) ub x.W s us [] (.slice (some ⟨rb + 2, 0, none⟩) 0 0) w w7 := by
      have h35 := HB35.out
      have h3s := h35.size
      have h5s := hb6.size
      have h36 : Below w3.heap.size w3 w6 := h35.trans (hb6.mono h3s)
      have h37 : Below w3.heap.size w3 w7 := h36.trans (hb67.mono (by omega))
      have hC7 := hC6.belowAll hb67
      subst hub
      refine ⟨((HO5.out.belowAll hb6).belowAll hb67).weaken (by omega), HGo3.out.belowAll h37, fun k hk => ?_, by rw [← hw7, ← hpk]; exact RoB.new _ _ _ _, hC7.rowVk (r := blankR x.W s), fun b off e => ?_, HG3.out.belowAll h37, HR3.out.belowAll h37, ?_⟩
      · have hk2 : rb + 2 = k := by simpa [Value.ownBlock] using hk
        have h1 := HQ5.out
        omega
      · obtain ⟨_, _, hh⟩ := U.own_type hC7 (g := b) (by rw [show x6 = some ⟨b, off, none⟩ from e]; exact (by
          obtain ⟨a', c', e1, -, h2, -⟩ := hC7.shape
          have e2 : x6 = a' := by injection e1
          have := h2 b off (by rw [← e2]; exact e)
          rw [this.2.2]; rfl))
        exact ⟨by omega, _, by assumption⟩
      · rw [← hrb0]
        exact HB03.out.trans (h37.mono (by omega))
    have hpq : pk ≠ q ∧ rb + 2 ≤ q ∧ rb + 2 ≤ pk := by have := HQ5.out; have := hb6.size; have := HB35.out.size; omega
    have HM0 : Hid (MvI rb q pk n c5 x.W (.slice (some ⟨bq, off, none⟩) n c) ub x.W s (D.inL us T B fun R => D.upR R (0) ub) (((us.take (B + 1)).drop T).take (0)) (.slice (some ⟨rb + 2, 0, none⟩) 0 0) w w7) := Lib.hid (by
      have e1 : (D.inL us T B fun R => D.upR R (0) ub) = us := by
        simp only [D.upR_zero]
        exact D.inL_id us hTB
      have e2 : (((us.take (B + 1)).drop T).take (0)) = [] := by rw [List.take_zero]
      rw [e1, e2]
      exact hm0)
    have HPq := Lib.hid hpq
    have HW7 := Lib.hid hw7
    have HPk := Lib.hid hpk
    have HUb := Lib.hid hub
    have HUln : Hid (n = us.length) := HUl
    clear hm0 hw7 hpk hub hpq hC6 hb6 hb67 hnW hrb0 hs30 HBl HO5 HB34 HO0 HI4 c1 hlt0 hlt1
    go_upto_region 9 with fail
    rw [HW7.out, HPk.out]
    go_wp2_with fail
    go_loopw [15, 18] (fun g i wr => ∃ j : Nat, i = .int .i64 (j : Int) ∧ j ≤ K ∧ Hid (MvI rb q pk n c5 x.W (.slice (some ⟨bq, off, none⟩) n c) ub x.W s (D.inL us T B fun R => D.upR R (j) ub) (((us.take (B + 1)).drop T).take (j)) g w wr)) (fun _ i _ => K - (intOf i).toNat)
    case atStart => exact ⟨0, rfl, Nat.zero_le _, HM0⟩
    case round =>
      obtain ⟨j, rfl, hj, HF⟩ := hrel
      obtain ⟨wv, hwv⟩ : ∃ wv, wv = wr := ⟨_, rfl⟩
      subst hwv
      by_cases hlt : j < K
      · have hjm : j ≤ m := by have := HM.out; omega
        have hjn : (j : Int) < n0 := by have h := HKe.out; unfold cntN at h; omega
        have d3 : decide (j ≤ m) = true := decide_eq_true hjm
        have d4 : decide ((j : Int) ≤ (m : Int)) = true := decide_eq_true (by omega)
        have d5 : decide ((j : Int) < n0) = true := decide_eq_true hjn
        have hju : j ≤ B - T := by have := HM.out; omega
        have hBu : B < us.length := by have := HUln.out; omega
        have hclen : (D.inL us T B fun R => D.upR R (j) ub).length = us.length := D.inL_length hTB hBu (fun R => D.upR_length R _ _)
        have hgo : us[T + j]? = some (us[T + j]'(by omega)) := List.getElem?_eq_getElem _
        have hfst := up_first (us := us) (j := j) ub hTB hBu hju
        obtain ⟨u1, hu1⟩ : ∃ u1, us[T + j]'(by omega) = u1 := ⟨_, rfl⟩
        rw [hu1] at hgo
        rw [hgo] at hfst
        have hat1 := HF.out.own.at (by rw [hclen]; exact HUln.out) hfst
        have hgone := gone_up (us := us) (T := T) (B := B) (j := j) (by omega) hgo
        have hgl : (((us.take (B + 1)).drop T).take (j)).length ≤ 1000 := by rw [List.length_take, List.length_drop, List.length_take]; omega
        obtain ⟨cc, hcc0⟩ : ∃ cc, (D.inL us T B fun R => D.upR R (j) ub) = cc := ⟨_, rfl⟩
        obtain ⟨gg, hgg0⟩ : ∃ gg, (((us.take (B + 1)).drop T).take (j)) = gg := ⟨_, rfl⟩
        have hF := HF.out
        rw [hcc0, hgg0] at hF
        rw [hcc0] at hclen
        rw [hgg0] at hgone hgl
        obtain ⟨ha1, ha2⟩ := hat1
        have HFm := Lib.hid hF
        have HCc := Lib.hid hcc0
        have HCl : Hid (cc.length = us.length) := Lib.hid hclen
        have HGone := Lib.hid hgone
        have HGl := Lib.hid hgl
        have hrbs : rb + 2 ≤ wv.heap.size := by have := (hF.own.ownBlock q rfl).2; have := HPq.out; omega
        have HRbs := Lib.hid hrbs
        have hbs : Below wv.heap.size wv (wv.alloc (.cells #[.slice u1.a u1.n u1.c, .bool u1.b] 38)) := (Below.refl _ _).alloc (Nat.le_refl _) _
        have HMa := Lib.hid (hF.laid hbs)
        have HRoA := Lib.hid (RoB.new 38 wv (.slice u1.a u1.n u1.c) u1.b)
        clear hclen hgo hfst hu1 hgone hgl hcc0 hgg0 hF hbs hrbs
        go_wp2_with (refine wpList_append_one refRowsT rfl _ _ rfl rfl (rb + 2) _ gg wv.heap.size u1 rfl rfl HMa.out.gone HRoA.out HGl.out (Nat.le_trans HRbs.out (by simp)) ?_)
        intro g5 w8 ho8 hg8 hbl8
        rw [← HGone.out] at ho8
        have hM8 := HMa.out.went ho8 hg8 (fun k hk => (hbl8 k hk).imp id (fun h => by rw [World.size_alloc]; exact h))
        have HM8 := Lib.hid hM8
        clear ho8 hg8 hbl8 hM8 HMa HRoA ha1 ha2
        go_wp2_with fail
        go_loopw [19] (fun Y wi => ∃ y : Nat, Y = .int .i64 (y : Int) ∧ T ≤ y ∧ y ≤ B ∧ Hid (OwnV 38 (rb + 2) (.slice (some ⟨q, 0, none⟩) n c5) (upd cc T (T + 1) (y - T)) wi ∧ KeepB [q] w8 wi)) (fun Y _ => B - (intOf Y).toNat)
        case atStart => exact ⟨T, rfl, by omega, by omega, Lib.hid (by
          have e : upd cc T (T + 1) (T - T) = cc := by rw [Nat.sub_self, upd_zero]
          rw [e]; exact ⟨HM8.out.own, KeepB.refl _ _⟩)⟩
        case round =>
          obtain ⟨y, rfl, hy1, hy2, HI⟩ := hrel
          obtain ⟨wi, hwi⟩ : ∃ wi, wi = wr := ⟨_, rfl⟩
          subst hwi
          have hcl := HCl.out
          have hunl := HUln.out
          by_cases hlt2 : y < B
          · have dlt : decide (y < B) = true := decide_eq_true hlt2
            have dlt2 : decide ((y : Int) < (B : Int)) = true := decide_eq_true (by omega)
            have hget : (upd cc T (T + 1) (y - T))[y + 1]? = some (cc[y + 1]'(by rw [HCl.out]; omega)) := by
              rw [upd_after (by rw [HCl.out]; omega) (by rw [HCl.out]; omega) (by omega)]
              exact List.getElem?_eq_getElem _
            obtain ⟨d, hd5⟩ : ∃ d, cc[y + 1]'(by rw [HCl.out]; omega) = d := ⟨_, rfl⟩
            rw [hd5] at hget
            have hcc : cc[T + 1 + (y - T)]? = some d := by rw [← hd5, show T + 1 + (y - T) = y + 1 by omega]; exact List.getElem?_eq_getElem _
            have hstep := upd_succ (us := cc) (t := T) (s := T + 1) (i := y - T) (by rw [HCl.out]; omega) hcc
            rw [show T + (y - T) = y by omega, show y - T + 1 = y + 1 - T by omega] at hstep
            have hln : (upd cc T (T + 1) (y - T)).length = cc.length := upd_length (by omega) (by omega)
            obtain ⟨e0, e1⟩ := HI.out.1.at (by omega) hget
            have HOi := Lib.hid HI.out.1
            have HLi : Hid (n = (upd cc T (T + 1) (y - T)).length) := Lib.hid (by omega)
            have HIi : Hid (y < (upd cc T (T + 1) (y - T)).length) := Lib.hid (by omega)
            have HSt := Lib.hid hstep
            have hyn : y < n := by omega
            have hyn2 : y + 1 < n := by omega
            have hynI : ((y + 1 : Nat) : Int) < n := by omega
            clear hget hd5 hcc hstep hln hcl hunl
            go_wp2_with (refine wpList_store_rowAt refRowsT rfl rfl _ _ rfl (rb + 2) q c5 _ (y) d _ n ?hoff rfl rfl HOi.out HLi.out HIi.out ?_)
            case hoff => first | rfl | omega
            intro w9 ho9 hg9
            rw [HSt.out] at ho9
            have HN : Hid (OwnV 38 (rb + 2) (.slice (some ⟨q, 0, none⟩) n c5) (upd cc T (T + 1) (y + 1 - T)) w9 ∧ KeepB [q] w8 w9) := Lib.hid ⟨ho9, HI.out.2.trans (KeepB.of_grown hg9)⟩
            clear ho9 hg9 HOi e0 e1
            go_wp2
            go_roundw
            case rel => exact ⟨y + 1, by go_num, by omega, by omega, HN⟩
            case measure => first | (simp [intOf]; omega) | simp [intOf]
          · have hye : y = B := by omega
            subst hye
            have dlt : decide (y < y) = false := by simp
            have dlt2 : decide ((y : Int) < (y : Int)) = false := by simp
            have hM9 := HM8.out.stored (us' := upd cc T (T + 1) (y - T)) HPq.out.2.1 HPq.out.1 HI.out.1 HI.out.2
            have HM9 := Lib.hid hM9
            have p0 := hM9.bk.c0
            have p1 := hM9.bk.c1
            have hln : (upd cc T (T + 1) (y - T)).length = cc.length := upd_length (by omega) (by omega)
            have HLi : Hid (n = (upd cc T (T + 1) (y - T)).length) := Lib.hid (by omega)
            have HIi : Hid (y < (upd cc T (T + 1) (y - T)).length) := Lib.hid (by omega)
            have hst := up_step (us := us) (j := j) ub hTB (by omega) (by have := HM.out; omega)
            rw [HCc.out] at hst
            have HSt := Lib.hid hst
            clear hM9 hln hst hcl hunl
            go_wp2_with (refine wpList_store_rowAt refRowsT rfl rfl _ _ rfl (rb + 2) q c5 _ y ub _ n ?hoff rfl rfl HM9.out.own HLi.out HIi.out ?_)
            case hoff => first | rfl | omega
            intro w10 ho10 hg10
            rw [HSt.out] at ho10
            have HN : Hid (MvI rb q pk n c5 x.W (.slice (some ⟨bq, off, none⟩) n c) ub x.W s (D.inL us T y fun R => D.upR R (j + 1) ub) (((us.take (y + 1)).drop T).take (j + 1)) g5 w w10) := Lib.hid (HM9.out.stored HPq.out.2.1 HPq.out.1 ho10 (KeepB.of_grown hg10))
            clear ho10 hg10 p0 p1 HM9
            go_wp2_with fail
            go_roundw
            case rel => exact ⟨j + 1, by go_num, by omega, HN⟩
            case measure => simp [intOf]; omega
      · obtain rfl : j = K := by omega
        have hF := HF.out
        obtain ⟨ga, gcap, rfl, -⟩ := hF.gone.shape
        obtain ⟨gl, hgl⟩ : ∃ gl, (((us.take (B + 1)).drop T).take (j)).length = gl := ⟨_, rfl⟩
        rw [hgl] at hF ⊢
        have HGl := Lib.hid hgl
        have gc0 := hF.g1.c0
        have q0 := hF.g2.c0
        have q1 := hF.g2.c1
        have qf0 := hF.g2.fr 0
        have qf1 := hF.g2.fr 1
        have HFm := Lib.hid hF
        have hcs : decide ((j : Int) < n0) = false ∨ (decide ((j : Int) < n0) = true ∧ decide (j ≤ m) = false ∧ decide ((j : Int) ≤ (m : Int)) = false) := by
          have h1 := HKe.out
          have h2 := HM.out
          by_cases h3 : (j : Int) < n0
          · right
            have h4 : ¬ j ≤ m := by unfold cntN at h1; omega
            exact ⟨decide_eq_true h3, decide_eq_false h4, decide_eq_false (by omega)⟩
          · exact .inl (decide_eq_false h3)
        clear hF hgl HF
        rcases hcs with d3 | ⟨d3, d4, d5⟩
        all_goals
          go_wp2_with fail
          refine bodyPost_ret (v := .tuple #[.agg #[.int .i64 (x.W : Int), .slice (some ⟨q, 0, none⟩) n c5], .slice ga gl gcap]) (by rw [results_cell_tmp (fn := Tryd.f68) rfl]; go_simp <;> rfl) rfl ?_
          rw [← HP.out, HKe.out]
          have hF := HFm.out
          have hrbw := HRb.out
          have hk9 : KeepB [rb + 1] wv ((wv.setCell ⟨rb + 1, 0, none⟩ (.int .i64 (x.W : Int))).setCell ⟨rb + 1, 1, none⟩ (.slice (some ⟨q, 0, none⟩) n c5)) := (KeepB.setCell _).trans (KeepB.setCell _)
          have hbw : Below w.heap.size w wv := by rw [hrbw]; exact hF.b
          have hou : ∀ u ∈ us, Off ((rb + 1) :: L) u := fun u hu => by
            obtain ⟨i, hi, rfl⟩ := List.mem_iff_getElem.1 hu
            have hi' : i < x.rs.length := by rw [← HRv.out.1]; exact hi
            exact (HOff.out _ hu).cons (HRv.out.2 i _ _ (List.getElem?_eq_getElem hi) (List.getElem?_eq_getElem hi')) (by omega)
          have hob : Off ((rb + 1) :: L) ub := fun hn b off e hb => by
            obtain ⟨h1, cs, h2⟩ := hF.bt b off e
            rcases List.mem_cons.1 hb with rfl | hb
            · rw [show wv.heap[rb + 1]? = _ from hF.g2] at h2
              injection h2 with h2
              injection h2 with h2 h3
              exact absurd h3 (by decide)
            · have := HL.out b hb; omega
          have hLb : ∀ p ∈ (rb + 1) :: L, p < rb + 2 := fun p hp => by
            rcases List.mem_cons.1 hp with rfl | hp
            · omega
            · have := HL.out p hp; omega
          have hrv := HRv.out.belowAll hbw
          have hl1 := hF.own.rowsL (hrv.inL T B (fun _ _ h => h.upR hF.bv j)) (mem_inL (p := Off ((rb + 1) :: L)) hou (fun R hR => mem_upR (p := Off ((rb + 1) :: L)) hob R hR)) hLb
          have hl2 := hF.gone.rowsL (((hrv.take (B + 1)).drop T).take j) (fun u hu => hou u (List.mem_of_mem_take (List.mem_of_mem_drop (List.mem_of_mem_take hu)))) hLb
          have hs9 : ∀ p ∈ [rb + 1], p ∈ (rb + 1) :: L := fun p hp => by rw [List.mem_singleton.1 hp]; simp
          refine ⟨_, _, _, _, rfl, ⟨_, _, _, rfl, (hl1.keptB (hk9.mono hs9)).sub (fun p hp => List.mem_cons_of_mem _ hp)⟩, (hl2.keptB (hk9.mono hs9)).sub (fun p hp => List.mem_cons_of_mem _ hp), ?_⟩
          exact hk9.below (fun i hi => by rw [List.mem_singleton.1 hi]; omega) hbw hbw.size
end Go.Proofs.YtkggmcnocpgnbaaDoor.K
