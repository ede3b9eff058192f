/- The document's one: a span, as it counts; none, if it is empty. -/
import Derived.Test.YtjbjflmpdmflmaaHRef
namespace Go.Proofs.Ytjbjflmpdmflmaa.H
open Go.RowKit

def oneS (x : Sp) : List Sp := if (cnt x).1 < (cnt x).2 then [cnt x] else []
/-- a slice of spans, which no one changes -/
def PsPost (l : List Sp) (w : World) (e : Ending) (w' : World) : Prop := ∃ a c, e = .returned (.slice a l.length c) ∧ PairsIn .i64 a l.length c l w' ∧ (a = none → c = 0) ∧ Below w.heap.size w w'
theorem pair_oneR' {g : Nat} {X1 X2 : Int} {w : World} (h : w.heap[g]? = some (.cells #[.int .i64 X1, .int .i64 X2] 24 (0, 0))) : PairsIn .i64 (some ⟨g, 0, none⟩) 1 1 [(X1, X2)] w :=
  ⟨rfl, Nat.le_refl _, by decide, .inr ⟨g, 0, rfl, (Array.getElem?_eq_some_iff.1 h).1, fun i u hi => by
    match i, hi with
    | 0, hi => cases hi; exact ⟨by rw [cell_block h]; rfl, by rw [cell_block h]; rfl⟩
    | i + 1, hi => simp at hi⟩⟩
set_option maxRecDepth 100000 in
set_option maxHeartbeats 4000000 in
theorem one_any (x1 x2 : Int) (w : World) : Calls Try.prog 46 #[.agg #[.int .i64 x1, .int .i64 x2]] w (PsPost (oneS (x1, x2)) w) := by
  obtain ⟨P, hP⟩ : ∃ P, PsPost (oneS (x1, x2)) w = P := ⟨_, rfl⟩
  rw [hP]
  have HP := Lib.hid hP
  obtain ⟨X1, hX1⟩ : ∃ X, near x1 = X := ⟨_, rfl⟩
  obtain ⟨X2, hX2⟩ : ∃ X, near x2 = X := ⟨_, rfl⟩
  obtain ⟨p, hp⟩ : ∃ p, p = w.heap.size := ⟨_, rfl⟩
  obtain ⟨w1, hw1⟩ : ∃ w1, w1 = w.alloc (.cells #[.int .i64 x1, .int .i64 x2] 24) := ⟨_, rfl⟩
  have HX : Hid (w1.heap[p]? = some (.cells #[.int .i64 x1, .int .i64 x2] 24 (0, 0))) := Lib.hid (by rw [hw1, hp]; exact heap_alloc_new w _)
  have HB : Hid (Below w.heap.size w w1) := Lib.hid (by rw [hw1]; exact alloc_below w _)
  have hF := fit_any x1 x2 w1
  have HF := Lib.hid hF
  have HXX : Hid (near x1 = X1 ∧ near x2 = X2) := Lib.hid ⟨hX1, hX2⟩
  have HPp := Lib.hid hp
  have HW1 := Lib.hid hw1
  clear hP hX1 hX2 hp hw1 hF
  go_enter Try.func46, Try.ntmps46
  go_wp2_with fail
  rw [← HW1.out, ← HPp.out]
  refine HF.out.mono ?_
  rintro e w2 ⟨rfl, hb2⟩
  simp only
  rw [HXX.out.1, HXX.out.2]
  have hx2 := heap_moved HX.out hb2
  have f0 : w2.frozen? ⟨p, 0, none⟩ = false := frozen_block hx2 0
  have f1 : w2.frozen? ⟨p, 1, none⟩ = false := frozen_block hx2 1
  have c0 : w2.cell? ⟨p, 0, none⟩ = some (.int .i64 x1) := by rw [cell_block hx2]; rfl
  have c1 : w2.cell? ⟨p, 1, none⟩ = some (.int .i64 x2) := by rw [cell_block hx2]; rfl
  have HX2 := Lib.hid hx2
  have HB2 : Hid (Below w.heap.size w w2) := Lib.hid (HB.out.trans (hb2.mono HB.out.size))
  clear hx2 hb2 HF
  go_upto_region 2 with fail
  obtain ⟨w3, hw3⟩ : ∃ w3, w3 = (w2.setCell ⟨p, 0, none⟩ (.int .i64 X1)).setCell ⟨p, 1, none⟩ (.int .i64 X2) := ⟨_, rfl⟩
  rw [← hw3]
  have hx3 : w3.heap[p]? = some (.cells #[.int .i64 X1, .int .i64 X2] 24 (0, 0)) := by rw [hw3]; simp [World.setCell, Array.getElem?_modify, HX2.out]
  have hb3 : Below w.heap.size w w3 := by rw [hw3]; exact (HB2.out.setCell (p := ⟨p, 0, none⟩) (by rw [HPp.out]; exact Nat.le_refl _) _).setCell (p := ⟨p, 1, none⟩) (by rw [HPp.out]; exact Nat.le_refl _) _
  have c0 : w3.cell? ⟨p, 0, none⟩ = some (.int .i64 X1) := by rw [cell_block hx3]; rfl
  have c1 : w3.cell? ⟨p, 1, none⟩ = some (.int .i64 X2) := by rw [cell_block hx3]; rfl
  have HB3 := Lib.hid hb3
  clear hw3 hx3 hb3 HX2 HB2
  by_cases hlt : X1 < X2
  · have hd : decide (X2 ≤ X1) = false := decide_eq_false (by omega)
    have HO : Hid (oneS (x1, x2) = [(X1, X2)]) := Lib.hid (by unfold oneS cnt; simp only [HXX.out.1, HXX.out.2]; rw [if_pos hlt])
    obtain ⟨w4, hw4⟩ : ∃ w4, w4 = w3.alloc (.cells #[.int .i64 X1, .int .i64 X2] 24) := ⟨_, rfl⟩
    have hend : P (.returned (.slice (some ⟨w3.heap.size, 0, none⟩) 1 1)) w4 := by
      rw [← HP.out]
      refine ⟨_, 1, by rw [HO.out]; rfl, ?_, (by intro e; cases e), HB3.out.trans ((by rw [hw4]; exact alloc_below w3 _ : Below w3.heap.size w3 w4).mono HB3.out.size)⟩
      rw [HO.out]
      exact pair_oneR' (by rw [hw4]; exact heap_alloc_new w3 _)
    have HE := Lib.hid hend
    have HW4 := Lib.hid hw4
    clear hend hw4 hlt
    go_wp2_with fail
    rw [← HW4.out]
    exact HE.out
  · have hd : decide (X2 ≤ X1) = true := decide_eq_true (by omega)
    have HO : Hid (oneS (x1, x2) = []) := Lib.hid (by unfold oneS cnt; simp only [HXX.out.1, HXX.out.2]; rw [if_neg hlt])
    clear hlt
    go_wp2_with fail
    rw [← HP.out]
    refine ⟨none, 0, by rw [HO.out]; rfl, ?_, (fun _ => rfl), HB3.out⟩
    rw [HO.out]
    exact ⟨rfl, Nat.le_refl _, by decide, .inl rfl⟩
end Go.Proofs.Ytjbjflmpdmflmaa.H
