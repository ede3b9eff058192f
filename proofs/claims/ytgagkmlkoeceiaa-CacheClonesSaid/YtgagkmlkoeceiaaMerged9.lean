/- The document's Has, keep, one. -/
import Derived.Test.YtgagkmlkoeceiaaHFit
namespace Go.Proofs.Ytgagkmlkoeceiaa.H
open Go.RowKit

theorem hasS_take (n : Int) (l : List Sp) (k : Nat) (x : Sp) (hx : l[k]? = some x) : hasS n (l.take (k + 1)) = (hasS n (l.take k) || (decide (x.1 ≤ n) && decide (n < x.2))) := by
  have hk := (List.getElem?_eq_some_iff.1 hx)
  rw [List.take_succ_eq_append_getElem hk.1, hk.2]
  simp [hasS]
theorem hasS_found (n : Int) (l : List Sp) (k : Nat) (x : Sp) (hx : l[k]? = some x) (h1 : x.1 ≤ n) (h2 : n < x.2) : hasS n l = true :=
  (hasS_mem n l).2 ((mem_get n l).2 ⟨k, x, hx, h1, h2⟩)
set_option maxRecDepth 100000 in
set_option maxHeartbeats 4000000 in
theorem hasR_any (a : Option Addr) (N c : Nat) (l : List Sp) (n : Int) (w : World) (h : PairsIn .i64 a N c l w) (hl : N ≤ 1000000) :
    Calls Try.prog 62 #[.slice a N c, .int .i64 n] w (BPost (hasS n l) w) := by
  obtain ⟨P, hP⟩ : ∃ P, BPost (hasS n l) w = P := ⟨_, rfl⟩
  rw [hP]
  have HP := Lib.hid hP
  have H1 := Lib.hid h
  clear hP h
  go_enter Try.func62, Try.ntmps62
  go_wp2_with fail
  go_loopw [9] (fun i wr => ∃ k : Nat, i = .int .i64 (k : Int) ∧ k ≤ N ∧ Hid (Below w.heap.size w wr ∧ hasS n (l.take k) = false)) (fun i _ => N - (intOf i).toNat)
  case atStart => exact ⟨0, rfl, by omega, Lib.hid ⟨Below.refl _ _, rfl⟩⟩
  case round =>
    obtain ⟨k, rfl, hk, HB⟩ := hrel
    by_cases hlt : k < N
    · have hd : decide (k < N) = true := decide_eq_true hlt
      have hkI : (k : Int) < N := by omega
      obtain ⟨g, off, x, rfl, hg, hx, k0, k1⟩ := H1.out.one hlt
      have k0 := (HB.out.1.cell (p := ⟨g, off + k * 2, none⟩) hg).trans k0
      have k1 := (HB.out.1.cell (p := ⟨g, off + k * 2 + 1, none⟩) hg).trans k1
      have HX := Lib.hid hx
      obtain ⟨x1, x2⟩ := x
      simp only at k0 k1
      obtain ⟨w4, hw4⟩ : ∃ w4, w4 = wr.alloc (.cells #[.int .i64 x1, .int .i64 x2] 80) := ⟨_, rfl⟩
      have HB4 : Hid (Below w.heap.size w w4) := Lib.hid (by rw [hw4]; exact HB.out.1.trans ((alloc_below _ _).mono HB.out.1.size))
      have HW4 := Lib.hid hw4
      clear hx hg hw4
      by_cases h1 : x1 ≤ n
      · have hd1 : decide (x1 ≤ n) = true := decide_eq_true h1
        by_cases h2 : n < x2
        · have hd2 : decide (n < x2) = true := decide_eq_true h2
          have HE := Lib.hid (hasS_found n l k _ HX.out h1 h2)
          clear h1 h2 HX
          go_wp2_with fail
          try rw [← HW4.out]
          rw [← HP.out]
          exact ⟨by rw [HE.out], HB4.out⟩
        · have hd2 : decide (n < x2) = false := decide_eq_false h2
          have HE : Hid (hasS n (l.take (k + 1)) = false) := Lib.hid (by rw [hasS_take n l k _ HX.out, HB.out.2]; simp [hd2])
          clear h1 h2 HX HB
          go_wp2_with fail
          go_roundw
          case rel => exact ⟨k + 1, by go_num, by omega, Lib.hid ⟨by first | exact HB4.out | (rw [← HW4.out]; exact HB4.out), HE.out⟩⟩
          case measure => simp [intOf]; omega
      · have hd1 : decide (x1 ≤ n) = false := decide_eq_false h1
        have HE : Hid (hasS n (l.take (k + 1)) = false) := Lib.hid (by rw [hasS_take n l k _ HX.out, HB.out.2]; simp [hd1])
        clear h1 HX HB
        go_wp2_with fail
        go_roundw
        case rel => exact ⟨k + 1, by go_num, by omega, Lib.hid ⟨by first | exact HB4.out | (rw [← HW4.out]; exact HB4.out), HE.out⟩⟩
        case measure => simp [intOf]; omega
    · obtain rfl : k = N := by omega
      have hd : decide (k < k) = false := decide_eq_false hlt
      have HE : Hid (hasS n l = false) := Lib.hid (by have := HB.out.2; rw [H1.out.len, List.take_length] at this; exact this)
      go_wp2_with fail
      rw [← HP.out]
      exact ⟨by rw [HE.out]; rfl, HB.out.1⟩
/-- is it kept -/
def kp : Nat → Bool → Bool → Bool
  | 0, x, y => x || y
  | 1, x, y => x && !y
  | 2, x, y => x && y
  | _, x, y => !x && y
set_option maxRecDepth 100000 in
set_option maxHeartbeats 8000000 in
theorem keep_any (m : Nat) (hm : m < 4) (x y : Bool) (w : World) :
    Calls Try.prog 61 #[.int .i64 (m : Int), .bool x, .bool y] w (BPost (kp m x y) w) := by
  obtain ⟨r, hr⟩ : ∃ r, kp m x y = r := ⟨_, rfl⟩
  rw [hr]
  obtain ⟨P, hP⟩ : ∃ P, BPost r w = P := ⟨_, rfl⟩
  rw [hP]
  have HP := Lib.hid hP
  have HR := Lib.hid hr
  clear hP hr
  match m, hm with
  | 0, _ => cases x <;> cases y <;> (go_enter Try.func61, Try.ntmps61; go_wp2_with fail; rw [← HP.out]; exact ⟨by rw [← HR.out]; rfl, Below.refl _ _⟩)
  | 1, _ => cases x <;> cases y <;> (go_enter Try.func61, Try.ntmps61; go_wp2_with fail; rw [← HP.out]; exact ⟨by rw [← HR.out]; rfl, Below.refl _ _⟩)
  | 2, _ => cases x <;> cases y <;> (go_enter Try.func61, Try.ntmps61; go_wp2_with fail; rw [← HP.out]; exact ⟨by rw [← HR.out]; rfl, Below.refl _ _⟩)
  | 3, _ => cases x <;> cases y <;> (go_enter Try.func61, Try.ntmps61; go_wp2_with fail; rw [← HP.out]; exact ⟨by rw [← HR.out]; rfl, Below.refl _ _⟩)
end Go.Proofs.Ytgagkmlkoeceiaa.H

/- The document's one: a span, as it counts; none, if it is empty. -/
namespace Go.Proofs.Ytgagkmlkoeceiaa.H
open Go.RowKit

def oneS (x : Sp) : List Sp := if (cnt x).1 < (cnt x).2 then [cnt x] else []
/-- a slice of spans, which no one changes -/
def PsPost (l : List Sp) (w : World) (e : Ending) (w' : World) : Prop := ∃ a c, e = .returned (.slice a l.length c) ∧ PairsIn .i64 a l.length c l w' ∧ (a = none → c = 0) ∧ Below w.heap.size w w'
theorem pair_oneR' {g : Nat} {X1 X2 : Int} {w : World} (h : w.heap[g]? = some (.cells #[.int .i64 X1, .int .i64 X2] 80 (0, 0))) : PairsIn .i64 (some ⟨g, 0, none⟩) 1 1 [(X1, X2)] w :=
  ⟨rfl, Nat.le_refl _, by decide, .inr ⟨g, 0, rfl, (Array.getElem?_eq_some_iff.1 h).1, fun i u hi => by
    match i, hi with
    | 0, hi => cases hi; exact ⟨by rw [cell_block h]; rfl, by rw [cell_block h]; rfl⟩
    | i + 1, hi => simp at hi⟩⟩
set_option maxRecDepth 100000 in
set_option maxHeartbeats 4000000 in
theorem one_any (x1 x2 : Int) (w : World) : Calls Try.prog 43 #[.agg #[.int .i64 x1, .int .i64 x2]] w (PsPost (oneS (x1, x2)) w) := by
  obtain ⟨P, hP⟩ : ∃ P, PsPost (oneS (x1, x2)) w = P := ⟨_, rfl⟩
  rw [hP]
  have HP := Lib.hid hP
  obtain ⟨X1, hX1⟩ : ∃ X, near x1 = X := ⟨_, rfl⟩
  obtain ⟨X2, hX2⟩ : ∃ X, near x2 = X := ⟨_, rfl⟩
  obtain ⟨p, hp⟩ : ∃ p, p = w.heap.size := ⟨_, rfl⟩
  obtain ⟨w1, hw1⟩ : ∃ w1, w1 = w.alloc (.cells #[.int .i64 x1, .int .i64 x2] 80) := ⟨_, rfl⟩
  have HX : Hid (w1.heap[p]? = some (.cells #[.int .i64 x1, .int .i64 x2] 80 (0, 0))) := Lib.hid (by rw [hw1, hp]; exact heap_alloc_new w _)
  have HB : Hid (Below w.heap.size w w1) := Lib.hid (by rw [hw1]; exact alloc_below w _)
  have hF := fit_any x1 x2 w1
  have HF := Lib.hid hF
  have HXX : Hid (near x1 = X1 ∧ near x2 = X2) := Lib.hid ⟨hX1, hX2⟩
  have HPp := Lib.hid hp
  have HW1 := Lib.hid hw1
  clear hP hX1 hX2 hp hw1 hF
  go_enter Try.func43, Try.ntmps43
  go_wp2_with fail
  rw [← HW1.out, ← HPp.out]
  refine HF.out.mono ?_
  rintro e w2 ⟨rfl, hb2⟩
  simp only
  rw [HXX.out.1, HXX.out.2]
  have hx2 := heap_moved HX.out hb2
  have f0 : w2.frozen? ⟨p, 0, none⟩ = false := frozen_block hx2 0
  have f1 : w2.frozen? ⟨p, 1, none⟩ = false := frozen_block hx2 1
  have c0 : w2.cell? ⟨p, 0, none⟩ = some (.int .i64 x1) := by rw [cell_block hx2]; rfl
  have c1 : w2.cell? ⟨p, 1, none⟩ = some (.int .i64 x2) := by rw [cell_block hx2]; rfl
  have HX2 := Lib.hid hx2
  have HB2 : Hid (Below w.heap.size w w2) := Lib.hid (HB.out.trans (hb2.mono HB.out.size))
  clear hx2 hb2 HF
  go_upto_region 2 with fail
  obtain ⟨w3, hw3⟩ : ∃ w3, w3 = (w2.setCell ⟨p, 0, none⟩ (.int .i64 X1)).setCell ⟨p, 1, none⟩ (.int .i64 X2) := ⟨_, rfl⟩
  rw [← hw3]
  have hx3 : w3.heap[p]? = some (.cells #[.int .i64 X1, .int .i64 X2] 80 (0, 0)) := by rw [hw3]; simp [World.setCell, Array.getElem?_modify, HX2.out]
  have hb3 : Below w.heap.size w w3 := by rw [hw3]; exact (HB2.out.setCell (p := ⟨p, 0, none⟩) (by rw [HPp.out]; exact Nat.le_refl _) _).setCell (p := ⟨p, 1, none⟩) (by rw [HPp.out]; exact Nat.le_refl _) _
  have c0 : w3.cell? ⟨p, 0, none⟩ = some (.int .i64 X1) := by rw [cell_block hx3]; rfl
  have c1 : w3.cell? ⟨p, 1, none⟩ = some (.int .i64 X2) := by rw [cell_block hx3]; rfl
  have HB3 := Lib.hid hb3
  clear hw3 hx3 hb3 HX2 HB2
  by_cases hlt : X1 < X2
  · have hd : decide (X2 ≤ X1) = false := decide_eq_false (by omega)
    have HO : Hid (oneS (x1, x2) = [(X1, X2)]) := Lib.hid (by unfold oneS cnt; simp only [HXX.out.1, HXX.out.2]; rw [if_pos hlt])
    obtain ⟨w4, hw4⟩ : ∃ w4, w4 = w3.alloc (.cells #[.int .i64 X1, .int .i64 X2] 80) := ⟨_, rfl⟩
    have hend : P (.returned (.slice (some ⟨w3.heap.size, 0, none⟩) 1 1)) w4 := by
      rw [← HP.out]
      refine ⟨_, 1, by rw [HO.out]; rfl, ?_, (by intro e; cases e), HB3.out.trans ((by rw [hw4]; exact alloc_below w3 _ : Below w3.heap.size w3 w4).mono HB3.out.size)⟩
      rw [HO.out]
      exact pair_oneR' (by rw [hw4]; exact heap_alloc_new w3 _)
    have HE := Lib.hid hend
    have HW4 := Lib.hid hw4
    clear hend hw4 hlt
    go_wp2_with fail
    rw [← HW4.out]
    exact HE.out
  · have hd : decide (X2 ≤ X1) = true := decide_eq_true (by omega)
    have HO : Hid (oneS (x1, x2) = []) := Lib.hid (by unfold oneS cnt; simp only [HXX.out.1, HXX.out.2]; rw [if_neg hlt])
    clear hlt
    go_wp2_with fail
    rw [← HP.out]
    refine ⟨none, 0, by rw [HO.out]; rfl, ?_, (fun _ => rfl), HB3.out⟩
    rw [HO.out]
    exact ⟨rfl, Nat.le_refl _, by decide, .inl rfl⟩
end Go.Proofs.Ytgagkmlkoeceiaa.H
