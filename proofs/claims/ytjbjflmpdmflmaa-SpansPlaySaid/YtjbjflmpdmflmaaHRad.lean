/- The document's Add, Cut, In, Missing. -/
import Derived.Test.YtjbjflmpdmflmaaHBuW
namespace Go.Proofs.Ytjbjflmpdmflmaa.H
open Go.RowKit

/-- a slice of spans of the document's, in new memory -/
def RpPost (l : List Sp) (w : World) (e : Ending) (w' : World) : Prop := ∃ v, e = .returned v ∧ OwnP .i64 24 w.heap.size v l w' ∧ Below w.heap.size w w'
theorem oneS_len (x : Sp) : (oneS x).length ≤ 1 := by
  unfold oneS
  split <;> simp
set_option maxRecDepth 100000 in
set_option maxHeartbeats 4000000 in
theorem radd_any (a : Option Addr) (n c : Nat) (l : List Sp) (x1 x2 : Int) (w : World) (h : PairsIn .i64 a n c l w) (hnil : a = none → c = 0) (hn : Nm l) (hl : n ≤ 1000) :
    Calls Try.prog 20 #[.slice a n c, .agg #[.int .i64 x1, .int .i64 x2]] w (RpPost (addS l (x1, x2)) w) := by
  obtain ⟨P, hP⟩ : ∃ P, RpPost (addS l (x1, x2)) w = P := ⟨_, rfl⟩
  rw [hP]
  have HP := Lib.hid hP
  obtain ⟨w1, hw1⟩ : ∃ w1, w1 = w.alloc (.cells #[.int .i64 x1, .int .i64 x2] 24) := ⟨_, rfl⟩
  have hb1 : Below w.heap.size w w1 := by rw [hw1]; exact alloc_below w _
  have H := Lib.hid (And.intro (h.belowAll hb1) hnil)
  have HNm := Lib.hid hn
  have HB1 := Lib.hid hb1
  have HO := Lib.hid (one_any x1 x2 w1)
  have HW1 := Lib.hid hw1
  clear hP h hnil hn hb1 hw1
  go_enter Try.func20, Try.ntmps20
  go_wp2_with fail
  rw [← HW1.out]
  refine HO.out.mono ?_
  rintro e w2 ⟨a2, c2, rfl, hI2, hn2, hb2⟩
  have hC : Calls Try.prog 45 #[.slice a n c, .slice a2 (oneS (x1, x2)).length c2, .int .i64 0] w2 _ := build_any 0 (by decide) a n c l a2 _ c2 (oneS (x1, x2)) w2 (H.out.1.belowAll hb2) hI2 H.out.2 hn2 hl (by have := oneS_len (x1, x2); omega)
  rw [build_add HNm.out] at hC
  have HC := Lib.hid hC
  have HB2 : Hid (Below w.heap.size w w2) := Lib.hid (HB1.out.trans (hb2.mono HB1.out.size))
  clear hI2 hn2 hb2 hC HO
  go_wp2_with fail
  refine HC.out.mono ?_
  rintro e w3 ⟨v, rfl, ho, hb3⟩
  have hfin : OwnP .i64 24 w.heap.size v (addS l (x1, x2)) w3 ∧ Below w.heap.size w w3 := ⟨ho.weaken HB2.out.size, HB2.out.trans (hb3.mono HB2.out.size)⟩
  have HF := Lib.hid hfin
  clear ho hb3 hfin HC
  go_wp2_with fail
  rw [← HP.out]
  exact ⟨v, rfl, HF.out.1, HF.out.2⟩
set_option maxRecDepth 100000 in
set_option maxHeartbeats 4000000 in
theorem rcut_any (a : Option Addr) (n c : Nat) (l : List Sp) (x1 x2 : Int) (w : World) (h : PairsIn .i64 a n c l w) (hnil : a = none → c = 0) (hn : Nm l) (hl : n ≤ 1000) :
    Calls Try.prog 18 #[.slice a n c, .agg #[.int .i64 x1, .int .i64 x2]] w (RpPost (cutS l (x1, x2)) w) := by
  obtain ⟨P, hP⟩ : ∃ P, RpPost (cutS l (x1, x2)) w = P := ⟨_, rfl⟩
  rw [hP]
  have HP := Lib.hid hP
  obtain ⟨w1, hw1⟩ : ∃ w1, w1 = w.alloc (.cells #[.int .i64 x1, .int .i64 x2] 24) := ⟨_, rfl⟩
  have hb1 : Below w.heap.size w w1 := by rw [hw1]; exact alloc_below w _
  have H := Lib.hid (And.intro (h.belowAll hb1) hnil)
  have HNm := Lib.hid hn
  have HB1 := Lib.hid hb1
  have HO := Lib.hid (one_any x1 x2 w1)
  have HW1 := Lib.hid hw1
  clear hP h hnil hn hb1 hw1
  go_enter Try.func18, Try.ntmps18
  go_wp2_with fail
  rw [← HW1.out]
  refine HO.out.mono ?_
  rintro e w2 ⟨a2, c2, rfl, hI2, hn2, hb2⟩
  have hC : Calls Try.prog 45 #[.slice a n c, .slice a2 (oneS (x1, x2)).length c2, .int .i64 1] w2 _ := build_any 1 (by decide) a n c l a2 _ c2 (oneS (x1, x2)) w2 (H.out.1.belowAll hb2) hI2 H.out.2 hn2 hl (by have := oneS_len (x1, x2); omega)
  rw [build_cut HNm.out] at hC
  have HC := Lib.hid hC
  have HB2 : Hid (Below w.heap.size w w2) := Lib.hid (HB1.out.trans (hb2.mono HB1.out.size))
  clear hI2 hn2 hb2 hC HO
  go_wp2_with fail
  refine HC.out.mono ?_
  rintro e w3 ⟨v, rfl, ho, hb3⟩
  have hfin : OwnP .i64 24 w.heap.size v (cutS l (x1, x2)) w3 ∧ Below w.heap.size w w3 := ⟨ho.weaken HB2.out.size, HB2.out.trans (hb3.mono HB2.out.size)⟩
  have HF := Lib.hid hfin
  clear ho hb3 hfin HC
  go_wp2_with fail
  rw [← HP.out]
  exact ⟨v, rfl, HF.out.1, HF.out.2⟩
set_option maxRecDepth 100000 in
set_option maxHeartbeats 4000000 in
theorem rin_any (a : Option Addr) (n c : Nat) (l : List Sp) (x1 x2 : Int) (w : World) (h : PairsIn .i64 a n c l w) (hnil : a = none → c = 0) (hn : Nm l) (hl : n ≤ 1000) :
    Calls Try.prog 26 #[.slice a n c, .agg #[.int .i64 x1, .int .i64 x2]] w (RpPost (inS l (x1, x2)) w) := by
  obtain ⟨P, hP⟩ : ∃ P, RpPost (inS l (x1, x2)) w = P := ⟨_, rfl⟩
  rw [hP]
  have HP := Lib.hid hP
  obtain ⟨w1, hw1⟩ : ∃ w1, w1 = w.alloc (.cells #[.int .i64 x1, .int .i64 x2] 24) := ⟨_, rfl⟩
  have hb1 : Below w.heap.size w w1 := by rw [hw1]; exact alloc_below w _
  have H := Lib.hid (And.intro (h.belowAll hb1) hnil)
  have HNm := Lib.hid hn
  have HB1 := Lib.hid hb1
  have HO := Lib.hid (one_any x1 x2 w1)
  have HW1 := Lib.hid hw1
  clear hP h hnil hn hb1 hw1
  go_enter Try.func26, Try.ntmps26
  go_wp2_with fail
  rw [← HW1.out]
  refine HO.out.mono ?_
  rintro e w2 ⟨a2, c2, rfl, hI2, hn2, hb2⟩
  have hC : Calls Try.prog 45 #[.slice a n c, .slice a2 (oneS (x1, x2)).length c2, .int .i64 2] w2 _ := build_any 2 (by decide) a n c l a2 _ c2 (oneS (x1, x2)) w2 (H.out.1.belowAll hb2) hI2 H.out.2 hn2 hl (by have := oneS_len (x1, x2); omega)
  rw [build_in HNm.out] at hC
  have HC := Lib.hid hC
  have HB2 : Hid (Below w.heap.size w w2) := Lib.hid (HB1.out.trans (hb2.mono HB1.out.size))
  clear hI2 hn2 hb2 hC HO
  go_wp2_with fail
  refine HC.out.mono ?_
  rintro e w3 ⟨v, rfl, ho, hb3⟩
  have hfin : OwnP .i64 24 w.heap.size v (inS l (x1, x2)) w3 ∧ Below w.heap.size w w3 := ⟨ho.weaken HB2.out.size, HB2.out.trans (hb3.mono HB2.out.size)⟩
  have HF := Lib.hid hfin
  clear ho hb3 hfin HC
  go_wp2_with fail
  rw [← HP.out]
  exact ⟨v, rfl, HF.out.1, HF.out.2⟩
set_option maxRecDepth 100000 in
set_option maxHeartbeats 4000000 in
theorem rmiss_any (a : Option Addr) (n c : Nat) (l : List Sp) (x1 x2 : Int) (w : World) (h : PairsIn .i64 a n c l w) (hnil : a = none → c = 0) (hn : Nm l) (hl : n ≤ 1000) :
    Calls Try.prog 28 #[.slice a n c, .agg #[.int .i64 x1, .int .i64 x2]] w (RpPost (missS l (x1, x2)) w) := by
  obtain ⟨P, hP⟩ : ∃ P, RpPost (missS l (x1, x2)) w = P := ⟨_, rfl⟩
  rw [hP]
  have HP := Lib.hid hP
  obtain ⟨w1, hw1⟩ : ∃ w1, w1 = w.alloc (.cells #[.int .i64 x1, .int .i64 x2] 24) := ⟨_, rfl⟩
  have hb1 : Below w.heap.size w w1 := by rw [hw1]; exact alloc_below w _
  have H := Lib.hid (And.intro (h.belowAll hb1) hnil)
  have HNm := Lib.hid hn
  have HB1 := Lib.hid hb1
  have HO := Lib.hid (one_any x1 x2 w1)
  have HW1 := Lib.hid hw1
  clear hP h hnil hn hb1 hw1
  go_enter Try.func28, Try.ntmps28
  go_wp2_with fail
  rw [← HW1.out]
  refine HO.out.mono ?_
  rintro e w2 ⟨a2, c2, rfl, hI2, hn2, hb2⟩
  have hC : Calls Try.prog 45 #[.slice a n c, .slice a2 (oneS (x1, x2)).length c2, .int .i64 3] w2 _ := build_any 3 (by decide) a n c l a2 _ c2 (oneS (x1, x2)) w2 (H.out.1.belowAll hb2) hI2 H.out.2 hn2 hl (by have := oneS_len (x1, x2); omega)
  rw [build_miss HNm.out] at hC
  have HC := Lib.hid hC
  have HB2 : Hid (Below w.heap.size w w2) := Lib.hid (HB1.out.trans (hb2.mono HB1.out.size))
  clear hI2 hn2 hb2 hC HO
  go_wp2_with fail
  refine HC.out.mono ?_
  rintro e w3 ⟨v, rfl, ho, hb3⟩
  have hfin : OwnP .i64 24 w.heap.size v (missS l (x1, x2)) w3 ∧ Below w.heap.size w w3 := ⟨ho.weaken HB2.out.size, HB2.out.trans (hb3.mono HB2.out.size)⟩
  have HF := Lib.hid hfin
  clear ho hb3 hfin HC
  go_wp2_with fail
  rw [← HP.out]
  exact ⟨v, rfl, HF.out.1, HF.out.2⟩
end Go.Proofs.Ytjbjflmpdmflmaa.H
