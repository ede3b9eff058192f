/- The contracts of the program's blanks and Blank, and of a rune's cells. -/
import Derived.Test.YtmdnnpcofbhceaaDoorVRep
import Derived.Test.YtmdnnpcofbhceaaDoorWOf
namespace Go.Proofs.YtmdnnpcofbhceaaDoor.K
open Go.RowKit

theorem rep_cells (rk : IntKind) (n : Nat) (c : Cel) : U.rep n (cCells rk c) = flatC rk (List.replicate n c) := by
  induction n with
  | zero => rfl
  | succ n ih =>
    unfold U.rep at ih ⊢
    rw [List.replicate_succ, List.flatten_cons, ih, List.replicate_succ]
    rfl
set_option maxRecDepth 100000 in
set_option maxHeartbeats 4000000 in
theorem blanks_any (n : Nat) (s : Int) (hn : (n : Int) ≤ 1000000) (w : World) : Calls Tryd.prog 44 #[.int .i64 (n : Int), .int .i64 s] w (CelPost 82 w.heap.size (blanks n s) w) := by
  obtain ⟨P, hP⟩ : ∃ P, CelPost 82 w.heap.size (blanks n s) w = P := ⟨_, rfl⟩
  rw [hP]
  have HP := Lib.hid hP
  have HBl := Lib.hid (fun (v : World) => blank_any s v)
  clear hP
  go_enter Tryd.func44, Tryd.ntmps44
  go_wp2_with (go_at_call 56; refine (HBl.out _).mono ?_; rintro e w1 ⟨rfl, hb1⟩)
  obtain ⟨w2, hw2⟩ : ∃ w2, w1.alloc (.cells #[.int .i32 32, .int .i64 s, .int .i64 0] 82) = w2 := ⟨_, rfl⟩
  rw [hw2]
  obtain ⟨g, hg⟩ : ∃ g, w1.heap.size = g := ⟨_, rfl⟩
  rw [hg]
  have hblk : w2.heap[g]? = some (.cells #[.int .i32 32, .int .i64 s, .int .i64 0] 82 (0, 0)) := by rw [← hw2, ← hg]; exact World.alloc_heap_new _ _
  have hb2 : Below w.heap.size w w2 := by rw [← hw2]; exact hb1.alloc hb1.size _
  have hR := repeat_cells g 0 1 n (cCells .i32 (blk s)) w2 rfl (fun j u hj => by
    have hadd : ((⟨g, 0, none⟩ : Addr).add j) = ⟨g, 0 + j, none⟩ := by unfold Addr.add; split <;> simp_all
    rw [hadd, Nat.zero_add]
    simp only [World.cell?, hblk]
    simpa [cCells, blk] using hj) ((Array.getElem?_eq_some_iff.1 hblk).1) (fun u hu => flatC_one .i32 [blk s] u (by simpa [flatC] using hu)) hn
  rw [rep_cells] at hR
  have HR := Lib.hid hR
  have HB2 := Lib.hid hb2
  clear hblk hb2 hR hw2 hg hb1
  go_wp2_with fail
  refine HR.out.mono ?_
  rintro e w3 ⟨rfl, ho3, hb3⟩
  have HF : Hid (OwnC .i32 82 w.heap.size (.slice (some ⟨w2.heap.size, 0, none⟩) n n) (blanks n s) w3 ∧ Below w.heap.size w w3) := Lib.hid ⟨by
    have h : OwnC .i32 82 w2.heap.size (.slice (some ⟨w2.heap.size, 0, none⟩) n n) (blanks n s) w3 := by unfold OwnC; rw [blanks_length]; exact ho3
    exact h.weaken HB2.out.size, HB2.out.trans (hb3.mono HB2.out.size)⟩
  clear ho3 hb3 HR
  go_wp2_with fail
  rw [← HP.out]
  exact ⟨_, rfl, HF.out.1, HF.out.2⟩
theorem nearS_N (w : Int) : nearS w 1000 = (nearN w : Int) := by unfold nearS nearN; omega
set_option maxRecDepth 100000 in
set_option maxHeartbeats 4000000 in
theorem rowBlank_any (n s : Int) (w : World) : Calls Tryd.prog 14 #[.int .i64 n, .int .i64 s] w (RowPost .i32 82 w.heap.size (blanks (nearN n) s) false w) := by
  obtain ⟨rb, hrb⟩ : ∃ rb, w.heap.size = rb := ⟨_, rfl⟩
  rw [hrb]
  obtain ⟨N, hN⟩ : ∃ N, nearN n = N := ⟨_, rfl⟩
  have hN1 : N ≤ 1000 := by rw [← hN]; exact nearN_le n
  obtain ⟨P, hP⟩ : ∃ P, RowPost .i32 82 rb (blanks N s) false w = P := ⟨_, rfl⟩
  rw [hN, hP]
  have HP := Lib.hid hP
  have HNear := Lib.hid (fun (v : World) => nearest_any n 1000 v)
  rw [nearS_N, hN] at HNear
  obtain ⟨w1, hw1⟩ : ∃ w1, w.alloc (.cells #[.slice none 0 0, .bool false] 26) = w1 := ⟨_, rfl⟩
  have hb1 : Below rb w w1 := by rw [← hw1, ← hrb]; exact (Below.refl _ _).alloc (Nat.le_refl _) _
  have hr1 : RoB 26 rb (.slice none 0 0) false w1 := by rw [← hw1, ← hrb]; exact RoB.new _ _ _ _
  have HBs := Lib.hid (blanks_any N s (by omega) w1)
  have hs1 : w1.heap.size = rb + 1 := by rw [← hw1, World.size_alloc, hrb]
  rw [hs1] at HBs
  have HB1 := Lib.hid hb1
  have HR1 := Lib.hid hr1
  have HW1 := Lib.hid hw1
  have HRb := Lib.hid hrb
  clear hP hN hw1 hb1 hr1 hrb hs1
  go_enter Tryd.func14, Tryd.ntmps14
  go_upto_region 1 with fail
  rw [HW1.out, HRb.out]
  go_wp2_with (go_at_call 45; refine (HNear.out _).mono ?_; rintro e w' ⟨rfl, rfl⟩)
  refine HBs.out.mono ?_
  rintro e w2 ⟨v2, rfl, ho2, hb2⟩
  obtain ⟨a2, c2, rfl, -⟩ := ho2.shape
  have HO2 := Lib.hid ho2
  have HB2 : Hid (Below rb w w2) := Lib.hid (HB1.out.trans (hb2.mono (Nat.le_succ _)))
  have hr2 := HR1.out.below hb2 (Nat.lt_succ_self rb)
  have c0 := hr2.c0
  have c1 := hr2.c1
  have f0 := hr2.fr 0
  have f1 := hr2.fr 1
  clear ho2 hb2 hr2 HBs
  go_wp2_with fail
  refine bodyPost_ret (v := .agg #[.slice a2 (blanks N s).length c2, .bool false]) (by rw [results_cell (fn := Tryd.f14) rfl]; go_simp <;> rfl) rfl ?_
  rw [← HP.out]
  exact ⟨_, rfl, (HO2.out.set2 (Nat.lt_succ_self rb) _ _).weaken (by omega), below_set2 HB2.out (Nat.le_refl _)⟩
end Go.Proofs.YtmdnnpcofbhceaaDoor.K
