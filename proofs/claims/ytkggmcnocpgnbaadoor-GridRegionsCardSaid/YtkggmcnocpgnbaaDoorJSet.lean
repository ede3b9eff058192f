/- The document's grid: Set. -/
import Derived.Test.YtkggmcnocpgnbaaDoorJRsz
namespace Go.Proofs.YtkggmcnocpgnbaaDoor.K
open Go.RowKit

def SetPost (L : List Nat) (x : Gd) (y : Int) (r : Ro) (w : World) (e : Ending) (w' : World) : Prop := ∃ v, e = .returned (.tuple #[v, .bool (decide (0 ≤ y ∧ y < (x.rs.length : Int)))]) ∧ RefG L v (setG x y r) w' ∧ Below w.heap.size w w'
set_option maxRecDepth 100000 in
set_option maxHeartbeats 16000000 in
theorem refSet_any {L : List Nat} {x : Gd} {v : Value} (y : Int) {p : Rv} {r : Ro} (w : World) (hv : RefG L v x w) (hx : GdOk x) (hp : RowV .i64 p.val r w) (hpo : Off L p) (hrn : r.l.length ≤ 1000) (hL : ∀ p ∈ L, p < w.heap.size) :
    Calls Tryd.prog 67 #[v, .int .i64 y, p.val] w (SetPost L x y r w) := by
  obtain ⟨a, n, c, rfl, hrl⟩ := hv
  have hn := hrl.len
  have hx1 := hx.h1
  have hx2 := hx.h2
  obtain ⟨us, hin, hrv, hoff⟩ := hrl.ex
  have hul : n = us.length := hin.len
  obtain ⟨bq, off, rfl, hbq, hat⟩ := hin.at_.resolve_left (by intro e; rw [e] at hul; simp at hul; omega)
  obtain ⟨rb, hrb⟩ : ∃ rb, w.heap.size = rb := ⟨_, rfl⟩
  obtain ⟨pa, pn, pc, pb⟩ := p
  have hpl : pn ≠ 0 → ∀ b off, pa = some ⟨b, off, none⟩ → b < w.heap.size := fun hn b off e => hp.lt hn b off e
  unfold Rv.val at hp ⊢
  simp only at hp ⊢
  unfold refV
  obtain ⟨w1, hw1⟩ : ∃ w1, w.alloc (.cells #[.int .i64 (x.W : Int), .slice (some ⟨bq, off, none⟩) n c] 82) = w1 := ⟨_, rfl⟩
  have hs1 : w1.heap.size = rb + 1 := by rw [← hw1, World.size_alloc, hrb]
  obtain ⟨w2, hw2⟩ : ∃ w2, w1.alloc (.cells #[.slice pa pn pc, .bool pb] 38) = w2 := ⟨_, rfl⟩
  have hs2 : w2.heap.size = rb + 2 := by rw [← hw2, World.size_alloc, hs1]
  obtain ⟨w3, hw3⟩ : ∃ w3, w2.alloc (.cells #[.int .i64 0, .slice none 0 0] 82) = w3 := ⟨_, rfl⟩
  have hs3 : w3.heap.size = rb + 3 := by rw [← hw3, World.size_alloc, hs2]
  have b01 : Below w.heap.size w w1 := by rw [← hw1]; exact (Below.refl _ _).alloc (Nat.le_refl _) _
  have b12 : Below w1.heap.size w1 w2 := by rw [← hw2]; exact (Below.refl _ _).alloc (Nat.le_refl _) _
  have b23 : Below w2.heap.size w2 w3 := by rw [← hw3]; exact (Below.refl _ _).alloc (Nat.le_refl _) _
  have b03 : Below w.heap.size w w3 := (b01.trans (b12.mono (by omega))).trans (b23.mono (by omega))
  have hg1 : GrB rb x.W (.slice (some ⟨bq, off, none⟩) n c) w1 := by rw [← hw1, ← hrb]; exact GrB.new w x.W _
  have hg3 := (hg1.belowAll b12).belowAll b23
  have hr2 : RoB 38 (rb + 1) (.slice pa pn pc) pb w2 := by rw [← hw2, ← hs1]; exact RoB.new _ _ _ _
  have hr3 := hr2.belowAll b23
  have hq3 : GrB (rb + 2) 0 (.slice none 0 0) w3 := by rw [← hw3, ← hs2]; exact GrB.new w2 0 _
  have gc0 := hg3.c0
  have gc1 := hg3.c1
  have q0 := hq3.c0
  have q1 := hq3.c1
  have qf0 := hq3.fr 0
  have qf1 := hq3.fr 1
  obtain ⟨P, hP⟩ : ∃ P, SetPost L x y r w = P := ⟨_, rfl⟩
  rw [hP]
  have HP := Lib.hid hP
  have HW1 := Lib.hid hw1
  have HW2 := Lib.hid hw2
  have HW3 := Lib.hid hw3
  have HRb := Lib.hid hrb
  have HS3 := Lib.hid hs3
  have HL := Lib.hid hL
  have HRl := Lib.hid hrl
  have HIn := Lib.hid hin
  have HRv := Lib.hid hrv
  have HOff := Lib.hid hoff
  have HXo := Lib.hid hx
  have HNl := Lib.hid hn
  have HUl := Lib.hid hul
  have HB03 := Lib.hid b03
  have HG3 := Lib.hid hg3
  have HR3 := Lib.hid hr3
  have HQ3 := Lib.hid hq3
  have HPv := Lib.hid hp
  have HPo := Lib.hid hpo
  have HPl := Lib.hid hpl
  have HRn := Lib.hid hrn
  have hn1 : n ≤ 1000 := by omega
  have hlt0 : rb < w3.heap.size := by omega
  have hlt1 : rb + 1 < w3.heap.size := by omega
  clear hw1 hw2 hw3 hs1 hs2 hs3 b01 b12 b23 b03 hg1 hg3 hr2 hr3 hq3 hrb hL hrl hin hrv hoff hbq hat hx hn hx1 hx2 hul hP hp hpo hpl hrn
  by_cases hy : 0 ≤ y ∧ y < (n : Int)
  · obtain ⟨k, rfl⟩ : ∃ k : Nat, y = (k : Int) := ⟨y.toNat, by omega⟩
    have hkn : k < n := by omega
    have d1 : decide ((k : Int) < 0) = false := decide_eq_false (by omega)
    have d2 : decide (n ≤ k) = false := decide_eq_false (by omega)
    have d3 : decide ((n : Int) ≤ (k : Int)) = false := decide_eq_false (by omega)
    have HY := Lib.hid hy
    have hb34 : Below w3.heap.size w3 (w3.alloc (.cells #[] 38)) := (Below.refl _ _).alloc (Nat.le_refl _) _
    have HO0 := Lib.hid (OwnV.lit 38 w3 w3.heap.size (Nat.le_refl _))
    have HI4 := Lib.hid ((HIn.out.belowAll HB03.out).belowAll hb34)
    have HB34 := Lib.hid hb34
    have HLn : Hid ((us.length : Int) ≤ 1000000) := Lib.hid (by have := HUl.out; omega)
    clear hy hb34
    go_enter Tryd.func67, Tryd.ntmps67
    go_upto_region 1 with fail
    rw [HW1.out, HRb.out, HW2.out, HW3.out]
    go_wp2_with (refine wpList_append_rows refRowsT rfl _ _ rfl rfl w3.heap.size _ [] (some ⟨bq, off, none⟩) n c us rfl rfl HO0.out HI4.out (fun e => by cases e) (by simp) HLn.out HB34.out.size ?_)
    intro v5 w5 ho5 hg5
    try rw [List.nil_append] at ho5
    have hul := HUl.out
    have hb35 : Below w3.heap.size w3 w5 := HB34.out.grown hg5 HB34.out.size (fun j hj => (HO0.out.ownBlock j hj).1)
    obtain ⟨q, c5, rfl⟩ : ∃ q c5, v5 = .slice (some ⟨q, 0, none⟩) n c5 := by
      rcases ho5.2 with ⟨h0, h1⟩ | ⟨g', cap', cur, he, _⟩
      · omega
      · exact ⟨g', cap', by rw [he, ← hul]⟩
    have hq5 := ho5.ownBlock q rfl
    have hb05 : Below w.heap.size w w5 := HB03.out.trans (hb35.mono (HB03.out.size))
    have hg5' := HG3.out.belowAll hb35
    have hr5' := HR3.out.belowAll hb35
    have hqq5 := HQ3.out.belowAll hb35
    have gc0 := hg5'.c0
    have r0 := hr5'.c0
    have r1 := hr5'.c1
    have hp5 := HPv.out.belowAll hb05
    obtain ⟨hpb, hce, hnil, hfit, hmx, hpn⟩ := hp5.of
    have hn1000 : pn ≤ 1000 := by rw [hpn]; exact HRn.out
    have hres := refResize_any pa pn pc pb r.l (x.W : Int) w5 hce hnil hfit hmx (by omega)
    have hre : (⟨r.l, pb⟩ : Ro) = r := by rw [hpb]
    rw [hre] at hres
    have HRes := Lib.hid hres
    have HO5 := Lib.hid ho5
    have HB35 := Lib.hid hb35
    have HB05 := Lib.hid hb05
    have HQ5 := Lib.hid hq5
    have HQQ5 := Lib.hid hqq5
    clear ho5 hg5 hb35 hb05 hg5' hr5' hqq5 hp5 hpb hce hnil hfit hmx hpn hn1000 hres hre hq5 hul q0 q1 qf0 qf1 gc1
    go_wp2_with fail
    refine HRes.out.mono ?_
    rintro e w6 ⟨a6, c6, rfl, k1, k2, k3, k4, hb6, k5⟩
    have hv6 : RowV .i64 (Rv.val ⟨a6, (resizeS r x.W).l.length, c6, (resizeS r x.W).wrapped⟩) (resizeS r x.W) w6 := ⟨a6, c6, rfl, k1, k2, k3, k4⟩
    have hre2 : (⟨(resizeS r x.W).l, (resizeS r x.W).wrapped⟩ : Ro) = resizeS r x.W := rfl
    obtain ⟨l6, hl6⟩ : ∃ l6, (resizeS r x.W).l.length = l6 := ⟨_, rfl⟩
    obtain ⟨b6, hbe6⟩ : ∃ b6, (resizeS r x.W).wrapped = b6 := ⟨_, rfl⟩
    rw [hl6, hbe6] at hv6
    rw [hl6] at k5
    have ho6 := HO5.out.belowAll hb6
    have gc0 := ((HG3.out.belowAll HB35.out).belowAll hb6).c0
    have HV6 := Lib.hid hv6
    have HK5 := Lib.hid k5
    have HO6 := Lib.hid ho6
    have HB6 := Lib.hid hb6
    rw [hl6, hbe6]
    clear k1 k2 k3 k4 k5 hb6 hv6 ho6 HRes hl6 hbe6 hre2
    go_wp2_with (refine wpList_store_rowAt refRowsT rfl rfl _ _ rfl w3.heap.size q c5 us k ⟨a6, l6, c6, b6⟩ _ n rfl rfl rfl HO6.out HUl.out (by rw [← HUl.out]; exact hkn) ?_)
    intro w7 ho7 hg7
    have hqn : q ≠ rb ∧ q ≠ rb + 2 := by have := HQ5.out.1; have := HS3.out; omega
    have hgg7 : GrB rb x.W (.slice (some ⟨bq, off, none⟩) n c) w7 := ((HG3.out.belowAll HB35.out).belowAll HB6.out).kept (hg7.block rb (by have := HB6.out.size; have := HB35.out.size; omega) (fun e => hqn.1 (by cases e; rfl)))
    have hqq7 : GrB (rb + 2) 0 (.slice none 0 0) w7 := (HQQ5.out.belowAll HB6.out).kept (hg7.block (rb + 2) (by have := HB6.out.size; have := HB35.out.size; have := HS3.out; omega) (fun e => hqn.2 (by cases e; rfl)))
    have gc0 := hgg7.c0
    have q0 := hqq7.c0
    have q1 := hqq7.c1
    have qf0 := hqq7.fr 0
    have qf1 := hqq7.fr 1
    have HO7 := Lib.hid ho7
    have HG7 := Lib.hid hg7
    have HQ7 := Lib.hid hqq7
    clear ho7 hg7 hgg7 hqq7
    go_wp2_with fail
    refine bodyPost_ret (v := .tuple #[.agg #[.int .i64 (x.W : Int), .slice (some ⟨q, 0, none⟩) n c5], .bool true]) (by rw [results_cell_tmp (fn := Tryd.f67) rfl]; go_simp <;> rfl) rfl ?_
    rw [← HP.out]
    have hrbw := HRb.out
    have hlen := HNl.out
    have hset6 : RowsV .i64 (us.set k ⟨a6, l6, c6, b6⟩) (x.rs.set k (resizeS r x.W)) w6 := ((HRv.out.belowAll HB05.out).belowAll HB6.out).set HV6.out k
    have hq3 := HQ5.out.1
    have hs3 := HS3.out
    have hall : ∀ u ∈ us.set k ⟨a6, l6, c6, b6⟩, u.n ≠ 0 → ∀ b off, u.a = some ⟨b, off, none⟩ → b ≠ q ∧ b ≠ rb + 2 ∧ b ∉ L := fun u hu hn b off e => by
      rcases List.mem_or_eq_of_mem_set hu with hu | rfl
      · obtain ⟨i, hi, rfl⟩ := List.mem_iff_getElem.1 hu
        have hi' : i < x.rs.length := by rw [← HRv.out.1]; exact hi
        have h1 := (HRv.out.2 i _ _ (List.getElem?_eq_getElem hi) (List.getElem?_eq_getElem hi')).lt hn b off e
        exact ⟨by omega, by omega, HOff.out _ (List.getElem_mem hi) hn b off e⟩
      · rcases HK5.out with ⟨h1, h2⟩ | h1
        · have h3 := HPl.out (by rw [← h2]; exact hn) b off (by rw [← h1]; exact e)
          exact ⟨by omega, by omega, HPo.out (by rw [← h2]; exact hn) b off (by rw [← h1]; exact e)⟩
        · have h3 := h1 b off e
          have h4 := HQ5.out.2
          have h5 := HB35.out.size
          exact ⟨by omega, by omega, fun hb => by have := HL.out b hb; omega⟩
    have hG7 : Gath 38 ((rb + 2) :: L) w3.heap.size (.slice (some ⟨q, 0, none⟩) n c5) (x.rs.set k (resizeS r x.W)) w7 := by
      refine ⟨us.set k ⟨a6, l6, c6, b6⟩, HO7.out, ⟨hset6.1, fun i u d hu hd => (hset6.2 i u d hu hd).apart HG7.out (fun hn b off e e' => (hall u (List.mem_of_getElem? hu) hn b off e).1 (by cases e'; rfl))⟩, fun u hu hn b off e hb => ?_, fun u hu hn b off e e' => (hall u hu hn b off e).1 (by simp only [Value.ownBlock] at e'; cases e'; rfl)⟩
      have h := hall u hu hn b off e
      rcases List.mem_cons.1 hb with rfl | hb
      · exact h.2.1 rfl
      · exact h.2.2 hb
    have hk9 : KeepB [rb + 2] w7 ((w7.setCell ⟨rb + 2, 0, none⟩ (.int .i64 (x.W : Int))).setCell ⟨rb + 2, 1, none⟩ (.slice (some ⟨q, 0, none⟩) n c5)) := (KeepB.setCell _).trans (KeepB.setCell _)
    have hG9 := hG7.keptB (hk9.mono (fun i hi => by rw [List.mem_singleton.1 hi]; simp)) (fun j hj hm => by
      have h1 := (hG7.own j hj).1
      rcases List.mem_cons.1 hm with rfl | hm
      · omega
      · have := HL.out j hm; omega)
    have hrl9 := hG9.rowsL (L' := L) (fun p hp => List.mem_cons_of_mem _ hp) (fun p hp => by have := HL.out p hp; omega)
    have hse : setG x (k : Int) r = ⟨x.W, x.rs.set k (resizeS r x.W)⟩ := by unfold setG; rw [if_pos ⟨by omega, by omega⟩]; rfl
    refine ⟨_, by rw [decide_eq_true (show 0 ≤ (k : Int) ∧ (k : Int) < (x.rs.length : Int) from ⟨by omega, by omega⟩)], ?_, ?_⟩
    · rw [hse]
      exact ⟨some ⟨q, 0, none⟩, n, c5, rfl, hrl9⟩
    · have hb6 : Below w.heap.size w w6 := HB05.out.trans (HB6.out.mono HB05.out.size)
      have hb7 := (KeepB.of_grown HG7.out).below (base := w.heap.size) (fun i hi => by rw [List.mem_singleton.1 hi]; omega) hb6 hb6.size
      exact hk9.below (fun i hi => by rw [List.mem_singleton.1 hi]; omega) hb7 hb7.size
  · have HY := Lib.hid hy
    have hcs : decide (y < 0) = true ∨ (decide (y < 0) = false ∧ decide ((n : Int) ≤ y) = true) := by
      by_cases h : y < 0
      · exact .inl (decide_eq_true h)
      · exact .inr ⟨decide_eq_false h, decide_eq_true (by omega)⟩
    clear hy
    rcases hcs with d1 | ⟨d1, d2⟩
    all_goals
      go_enter Tryd.func67, Tryd.ntmps67
      go_upto_region 1 with fail
      rw [HW1.out, HRb.out, HW2.out, HW3.out]
      go_wp2_with fail
      refine bodyPost_ret (v := .tuple #[.agg #[.int .i64 (x.W : Int), .slice (some ⟨bq, off, none⟩) n c], .bool false]) (by rw [results_cell_tmp (fn := Tryd.f67) rfl]; go_simp <;> rfl) rfl ?_
      rw [← HP.out]
      have hrbw := HRb.out
      have hy := HY.out
      rw [HNl.out] at hy
      have hse : setG x y r = x := by unfold setG; rw [if_neg hy]
      have hk9 : KeepB [rb + 2] w3 ((w3.setCell ⟨rb + 2, 0, none⟩ (.int .i64 (x.W : Int))).setCell ⟨rb + 2, 1, none⟩ (.slice (some ⟨bq, off, none⟩) n c)) := (KeepB.setCell _).trans (KeepB.setCell _)
      refine ⟨_, by rw [decide_eq_false hy], ?_, ?_⟩
      · rw [hse]
        exact ⟨_, n, c, rfl, (((HRl.out.cons (q := rb + 2) (by omega)).below HB03.out).keptB (hk9.mono (fun i hi => by rw [List.mem_singleton.1 hi]; simp))).sub (fun p hp => List.mem_cons_of_mem _ hp)⟩
      · exact hk9.below (fun i hi => by rw [List.mem_singleton.1 hi]; omega) HB03.out HB03.out.size
end Go.Proofs.YtkggmcnocpgnbaaDoor.K
