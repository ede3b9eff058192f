/- The contract of the program's some; slices of cells, as they are put together. -/
import Derived.Test.YtkggmcnocpgnbaaDoorVCat
import Derived.Test.YtkggmcnocpgnbaaDoorRelV
namespace Go.Proofs.YtkggmcnocpgnbaaDoor.K
open Go.RowKit

def someS (n : Nat) (at_ k : Int) : Nat × Nat := if at_ < 0 ∨ (n : Int) ≤ at_ then (0, 0) else (at_.toNat, (nearS k (n - at_)).toNat)
theorem someS_le (n : Nat) (at_ k : Int) : (someS n at_ k).1 + (someS n at_ k).2 ≤ n := by
  unfold someS nearS
  split
  · simp
  · simp only; omega
set_option maxRecDepth 100000 in
set_option maxHeartbeats 4000000 in
theorem some_any (a : Option Addr) (n c : Nat) (wr0 : Bool) (at_ k : Int) (w : World) (hn : (n : Int) ≤ 1000000) :
    Calls Tryd.prog 118 #[.agg #[.slice a n c, .bool wr0], .int .i64 at_, .int .i64 k] w fun e w' => e = .returned (.tuple #[.int .i64 ((someS n at_ k).1 : Int), .int .i64 ((someS n at_ k).2 : Int)]) ∧ Below w.heap.size w w' := by
  obtain ⟨rb, hrb⟩ : ∃ rb, w.heap.size = rb := ⟨_, rfl⟩
  rw [hrb]
  obtain ⟨w1, hw1⟩ : ∃ w1, w.alloc (.cells #[.slice a n c, .bool wr0] 27) = w1 := ⟨_, rfl⟩
  have hb1 : Below rb w w1 := by rw [← hw1, ← hrb]; exact (Below.refl _ _).alloc (Nat.le_refl _) _
  have hr1 : RoB 27 rb (.slice a n c) wr0 w1 := by rw [← hw1, ← hrb]; exact RoB.new _ _ _ _
  have c0 := hr1.c0
  have HB1 := Lib.hid hb1
  have HW1 := Lib.hid hw1
  have HRb := Lib.hid hrb
  clear hb1 hr1 hw1 hrb
  by_cases h1 : at_ < 0
  · have hS : someS n at_ k = (0, 0) := by unfold someS; rw [if_pos (.inl h1)]
    rw [hS]
    have d1 : decide (at_ < 0) = true := decide_eq_true h1
    clear h1 hS
    go_enter Tryd.func118, Tryd.ntmps118
    go_upto_region 1 with fail
    rw [HW1.out, HRb.out]
    go_wp2_with fail
    exact bodyPost_ret (results_tmp2 rfl _ _ _) rfl ⟨rfl, HB1.out⟩
  · have d1 : decide (at_ < 0) = false := decide_eq_false h1
    by_cases h2 : (n : Int) ≤ at_
    · have hS : someS n at_ k = (0, 0) := by unfold someS; rw [if_pos (.inr h2)]
      rw [hS]
      have d2 : decide ((n : Int) ≤ at_) = true := decide_eq_true h2
      clear h1 h2 hS
      go_enter Tryd.func118, Tryd.ntmps118
      go_upto_region 1 with fail
      rw [HW1.out, HRb.out]
      go_wp2_with fail
      exact bodyPost_ret (results_tmp2 rfl _ _ _) rfl ⟨rfl, HB1.out⟩
    · obtain ⟨A, rfl⟩ : ∃ A : Nat, at_ = (A : Int) := ⟨at_.toNat, by omega⟩
      have d2 : decide (n ≤ A) = false := decide_eq_false (by omega)
      obtain ⟨M, hM⟩ : ∃ M : Nat, (n : Int) - (A : Int) = (M : Int) := ⟨n - A, by omega⟩
      obtain ⟨q, hq, hqM⟩ := nearS_nat k M
      have hS : someS n A k = (A, q) := by
        unfold someS
        rw [if_neg (by omega), hM, hq]
        rfl
      rw [hS]
      have HNe := Lib.hid (fun (v : World) => nearest_any k M v)
      rw [hq] at HNe
      clear h1 h2 hS hq
      go_enter Tryd.func118, Tryd.ntmps118
      go_upto_region 1 with fail
      rw [HW1.out, HRb.out]
      go_wp2_with (go_at_call 49; refine (HNe.out _).mono ?_; rintro e w' ⟨rfl, rfl⟩)
      exact bodyPost_ret (results_tmp2 rfl _ _ _) rfl ⟨rfl, HB1.out⟩
/-- a slice of these cells -/
def SegAt (v : Value) (l : List Cel) (w : World) : Prop := ∃ x n c, v = .slice x n c ∧ CelsIn .i32 x n l w ∧ (x = none → c = 0) ∧ n ≤ c
theorem SegAt.belowAll {v : Value} {l : List Cel} {w w' : World} (h : SegAt v l w) (hb : Below w.heap.size w w') : SegAt v l w' := by
  obtain ⟨x, n, c, rfl, h1, h2, h3⟩ := h
  exact ⟨x, n, c, rfl, h1.belowAll hb, h2, h3⟩
theorem OwnC.seg {T : TypeId} {base : Nat} {v : Value} {l : List Cel} {w : World} (h : OwnC .i32 T base v l w) : SegAt v l w := by
  obtain ⟨a, c, rfl, h1, _, h2, h3, _⟩ := h.shape
  exact ⟨a, _, c, rfl, h1, h2, h3⟩
theorem CelsIn.dropOf {rk : IntKind} {a : Option Addr} {n : Nat} {l : List Cel} {w : World} (h : CelsIn rk a n l w) {k : Nat} (hk : k ≤ n) (c : Nat) (hc : n ≤ c) : CelsIn rk (if c = k then a else a.map (fun x => x.add (k * 3))) (n - k) (l.drop k) w := by
  have hl := h.len
  rcases h.at_ with e | ⟨b, off, ha, hb, hi⟩
  · refine ⟨by rw [List.length_drop]; omega, .inl (by rw [e]; simp)⟩
  · by_cases hck : c = k
    · rw [if_pos hck]
      refine ⟨by rw [List.length_drop]; omega, .inl (List.eq_nil_of_length_eq_zero (by rw [List.length_drop]; omega))⟩
    · rw [if_neg hck, ha]
      have hadd : ((⟨b, off, none⟩ : Addr).add (k * 3)) = ⟨b, off + k * 3, none⟩ := by unfold Addr.add; split <;> simp_all
      show CelsIn rk (some ((⟨b, off, none⟩ : Addr).add (k * 3))) _ _ _
      rw [hadd]
      rw [ha] at h
      exact CelsIn.drop h hk
theorem SegAt.cut {a : Option Addr} {n c : Nat} {l : List Cel} {w : World} (h : CelsIn .i32 a n l w) (h0 : a = none → c = 0) (hc : n ≤ c) {lo hi : Nat} (h1 : lo ≤ hi) (h2 : hi ≤ n) : SegAt (.slice (if c = lo then a else a.map (fun x => x.add (lo * 3))) (hi - lo) (c - lo)) ((l.take hi).drop lo) w := by
  refine ⟨_, _, _, rfl, (h.take h2).dropOf h1 c (by omega), fun e => ?_, by omega⟩
  split at e
  · omega
  · cases a with
    | none => have := h0 rfl; omega
    | some x => cases e
theorem SegAt.front {a : Option Addr} {n c : Nat} {l : List Cel} {w : World} (h : CelsIn .i32 a n l w) (h0 : a = none → c = 0) (hc : n ≤ c) {hi : Nat} (h2 : hi ≤ n) : SegAt (.slice a hi c) (l.take hi) w := ⟨_, _, _, rfl, h.take h2, h0, by omega⟩
theorem SegAt.back {a : Option Addr} {n c : Nat} {l : List Cel} {w : World} (h : CelsIn .i32 a n l w) (h0 : a = none → c = 0) (hc : n ≤ c) {lo : Nat} (h1 : lo ≤ n) : SegAt (.slice (if c = lo then a else a.map (fun x => x.add (lo * 3))) (n - lo) (c - lo)) (l.drop lo) w := by
  have := SegAt.cut h h0 hc h1 (Nat.le_refl n)
  rw [List.take_of_length_le (Nat.le_of_eq h.len.symm)] at this
  exact this
/-- put together out of a new slice of slices -/
theorem concat3 (v1 v2 v3 : Value) (l1 l2 l3 : List Cel) (w : World) (T : TypeId) (h1 : SegAt v1 l1 w) (h2 : SegAt v2 l2 w) (h3 : SegAt v3 l3 w) (hn : ((l1.length + l2.length + l3.length : Nat) : Int) ≤ 1000000) :
    Calls Tryd.prog 107 #[.slice (some ⟨w.heap.size, 0, none⟩) 3 3] (w.alloc (.cells #[v1, v2, v3] T)) (CelPost 105 (w.heap.size + 1) (l1 ++ l2 ++ l3) (w.alloc (.cells #[v1, v2, v3] T))) := by
  have hb : Below w.heap.size w (w.alloc (.cells #[v1, v2, v3] T)) := (Below.refl _ _).alloc (Nat.le_refl _) _
  obtain ⟨x1, n1, c1, rfl, i1, z1, -⟩ := h1.belowAll hb
  obtain ⟨x2, n2, c2, rfl, i2, z2, -⟩ := h2.belowAll hb
  obtain ⟨x3, n3, c3, rfl, i3, z3, -⟩ := h3.belowAll hb
  have h := concat_any w.heap.size 3 3 [⟨x1, n1, c1, l1⟩, ⟨x2, n2, c2, l2⟩, ⟨x3, n3, c3, l3⟩] (w.alloc (.cells #[.slice x1 n1 c1, .slice x2 n2 c2, .slice x3 n3 c3] T)) rfl (by rw [World.size_alloc]; exact Nat.lt_succ_self _)
    (fun i hi => by
      rw [World.cell?_alloc_new]
      match i, hi with
      | 0, _ => rfl
      | 1, _ => rfl
      | 2, _ => rfl)
    (fun i hi => by
      match i, hi with
      | 0, _ => exact ⟨i1, z1⟩
      | 1, _ => exact ⟨i2, z2⟩
      | 2, _ => exact ⟨i3, z3⟩)
    (by unfold totL; simp; have := i1.len; have := i2.len; have := i3.len; omega) (by decide) (Nat.le_refl _)
  rw [World.size_alloc] at h
  have e : catL [⟨x1, n1, c1, l1⟩, ⟨x2, n2, c2, l2⟩, ⟨x3, n3, c3, l3⟩] = l1 ++ l2 ++ l3 := by unfold catL; simp
  rw [e] at h
  exact h
theorem concat2 (v1 v2 : Value) (l1 l2 : List Cel) (w : World) (T : TypeId) (h1 : SegAt v1 l1 w) (h2 : SegAt v2 l2 w) (hn : ((l1.length + l2.length : Nat) : Int) ≤ 1000000) :
    Calls Tryd.prog 107 #[.slice (some ⟨w.heap.size, 0, none⟩) 2 2] (w.alloc (.cells #[v1, v2] T)) (CelPost 105 (w.heap.size + 1) (l1 ++ l2) (w.alloc (.cells #[v1, v2] T))) := by
  have hb : Below w.heap.size w (w.alloc (.cells #[v1, v2] T)) := (Below.refl _ _).alloc (Nat.le_refl _) _
  obtain ⟨x1, n1, c1, rfl, i1, z1, -⟩ := h1.belowAll hb
  obtain ⟨x2, n2, c2, rfl, i2, z2, -⟩ := h2.belowAll hb
  have h := concat_any w.heap.size 2 2 [⟨x1, n1, c1, l1⟩, ⟨x2, n2, c2, l2⟩] (w.alloc (.cells #[.slice x1 n1 c1, .slice x2 n2 c2] T)) rfl (by rw [World.size_alloc]; exact Nat.lt_succ_self _)
    (fun i hi => by
      rw [World.cell?_alloc_new]
      match i, hi with
      | 0, _ => rfl
      | 1, _ => rfl)
    (fun i hi => by
      match i, hi with
      | 0, _ => exact ⟨i1, z1⟩
      | 1, _ => exact ⟨i2, z2⟩)
    (by unfold totL; simp; have := i1.len; have := i2.len; omega) (by decide) (Nat.le_refl _)
  rw [World.size_alloc] at h
  have e : catL [⟨x1, n1, c1, l1⟩, ⟨x2, n2, c2, l2⟩] = l1 ++ l2 := by unfold catL; simp
  rw [e] at h
  exact h
end Go.Proofs.YtkggmcnocpgnbaaDoor.K
