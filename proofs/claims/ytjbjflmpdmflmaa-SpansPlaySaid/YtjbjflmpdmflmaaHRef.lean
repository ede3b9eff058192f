/- The document's Has, keep, one. -/
import Derived.Test.YtjbjflmpdmflmaaHFit
namespace Go.Proofs.Ytjbjflmpdmflmaa.H
open Go.RowKit

theorem hasS_take (n : Int) (l : List Sp) (k : Nat) (x : Sp) (hx : l[k]? = some x) : hasS n (l.take (k + 1)) = (hasS n (l.take k) || (decide (x.1 ≤ n) && decide (n < x.2))) := by
  have hk := (List.getElem?_eq_some_iff.1 hx)
  rw [List.take_succ_eq_append_getElem hk.1, hk.2]
  simp [hasS]
theorem hasS_found (n : Int) (l : List Sp) (k : Nat) (x : Sp) (hx : l[k]? = some x) (h1 : x.1 ≤ n) (h2 : n < x.2) : hasS n l = true :=
  (hasS_mem n l).2 ((mem_get n l).2 ⟨k, x, hx, h1, h2⟩)
set_option maxRecDepth 100000 in
set_option maxHeartbeats 4000000 in
theorem hasR_any (a : Option Addr) (N c : Nat) (l : List Sp) (n : Int) (w : World) (h : PairsIn .i64 a N c l w) (hl : N ≤ 1000000) :
    Calls Try.prog 24 #[.slice a N c, .int .i64 n] w (BPost (hasS n l) w) := by
  obtain ⟨P, hP⟩ : ∃ P, BPost (hasS n l) w = P := ⟨_, rfl⟩
  rw [hP]
  have HP := Lib.hid hP
  have H1 := Lib.hid h
  clear hP h
  go_enter Try.func24, Try.ntmps24
  go_wp2_with fail
  go_loopw [9] (fun i wr => ∃ k : Nat, i = .int .i64 (k : Int) ∧ k ≤ N ∧ Hid (Below w.heap.size w wr ∧ hasS n (l.take k) = false)) (fun i _ => N - (intOf i).toNat)
  case atStart => exact ⟨0, rfl, by omega, Lib.hid ⟨Below.refl _ _, rfl⟩⟩
  case round =>
    obtain ⟨k, rfl, hk, HB⟩ := hrel
    by_cases hlt : k < N
    · have hd : decide (k < N) = true := decide_eq_true hlt
      have hkI : (k : Int) < N := by omega
      obtain ⟨g, off, x, rfl, hg, hx, k0, k1⟩ := H1.out.one hlt
      have k0 := (HB.out.1.cell (p := ⟨g, off + k * 2, none⟩) hg).trans k0
      have k1 := (HB.out.1.cell (p := ⟨g, off + k * 2 + 1, none⟩) hg).trans k1
      have HX := Lib.hid hx
      obtain ⟨x1, x2⟩ := x
      simp only at k0 k1
      obtain ⟨w4, hw4⟩ : ∃ w4, w4 = wr.alloc (.cells #[.int .i64 x1, .int .i64 x2] 24) := ⟨_, rfl⟩
      have HB4 : Hid (Below w.heap.size w w4) := Lib.hid (by rw [hw4]; exact HB.out.1.trans ((alloc_below _ _).mono HB.out.1.size))
      have HW4 := Lib.hid hw4
      clear hx hg hw4
      by_cases h1 : x1 ≤ n
      · have hd1 : decide (x1 ≤ n) = true := decide_eq_true h1
        by_cases h2 : n < x2
        · have hd2 : decide (n < x2) = true := decide_eq_true h2
          have HE := Lib.hid (hasS_found n l k _ HX.out h1 h2)
          clear h1 h2 HX
          go_wp2_with fail
          try rw [← HW4.out]
          rw [← HP.out]
          exact ⟨by rw [HE.out], HB4.out⟩
        · have hd2 : decide (n < x2) = false := decide_eq_false h2
          have HE : Hid (hasS n (l.take (k + 1)) = false) := Lib.hid (by rw [hasS_take n l k _ HX.out, HB.out.2]; simp [hd2])
          clear h1 h2 HX HB
          go_wp2_with fail
          go_roundw
          case rel => exact ⟨k + 1, by go_num, by omega, Lib.hid ⟨by first | exact HB4.out | (rw [← HW4.out]; exact HB4.out), HE.out⟩⟩
          case measure => simp [intOf]; omega
      · have hd1 : decide (x1 ≤ n) = false := decide_eq_false h1
        have HE : Hid (hasS n (l.take (k + 1)) = false) := Lib.hid (by rw [hasS_take n l k _ HX.out, HB.out.2]; simp [hd1])
        clear h1 HX HB
        go_wp2_with fail
        go_roundw
        case rel => exact ⟨k + 1, by go_num, by omega, Lib.hid ⟨by first | exact HB4.out | (rw [← HW4.out]; exact HB4.out), HE.out⟩⟩
        case measure => simp [intOf]; omega
    · obtain rfl : k = N := by omega
      have hd : decide (k < k) = false := decide_eq_false hlt
      have HE : Hid (hasS n l = false) := Lib.hid (by have := HB.out.2; rw [H1.out.len, List.take_length] at this; exact this)
      go_wp2_with fail
      rw [← HP.out]
      exact ⟨by rw [HE.out]; rfl, HB.out.1⟩
/-- is it kept -/
def kp : Nat → Bool → Bool → Bool
  | 0, x, y => x || y
  | 1, x, y => x && !y
  | 2, x, y => x && y
  | _, x, y => !x && y
set_option maxRecDepth 100000 in
set_option maxHeartbeats 8000000 in
theorem keep_any (m : Nat) (hm : m < 4) (x y : Bool) (w : World) :
    Calls Try.prog 66 #[.int .i64 (m : Int), .bool x, .bool y] w (BPost (kp m x y) w) := by
  obtain ⟨r, hr⟩ : ∃ r, kp m x y = r := ⟨_, rfl⟩
  rw [hr]
  obtain ⟨P, hP⟩ : ∃ P, BPost r w = P := ⟨_, rfl⟩
  rw [hP]
  have HP := Lib.hid hP
  have HR := Lib.hid hr
  clear hP hr
  match m, hm with
  | 0, _ => cases x <;> cases y <;> (go_enter Try.func66, Try.ntmps66; go_wp2_with fail; rw [← HP.out]; exact ⟨by rw [← HR.out]; rfl, Below.refl _ _⟩)
  | 1, _ => cases x <;> cases y <;> (go_enter Try.func66, Try.ntmps66; go_wp2_with fail; rw [← HP.out]; exact ⟨by rw [← HR.out]; rfl, Below.refl _ _⟩)
  | 2, _ => cases x <;> cases y <;> (go_enter Try.func66, Try.ntmps66; go_wp2_with fail; rw [← HP.out]; exact ⟨by rw [← HR.out]; rfl, Below.refl _ _⟩)
  | 3, _ => cases x <;> cases y <;> (go_enter Try.func66, Try.ntmps66; go_wp2_with fail; rw [← HP.out]; exact ⟨by rw [← HR.out]; rfl, Below.refl _ _⟩)
end Go.Proofs.Ytjbjflmpdmflmaa.H
