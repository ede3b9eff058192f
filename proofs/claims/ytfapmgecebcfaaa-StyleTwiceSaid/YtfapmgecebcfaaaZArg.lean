/- A style that was handed in; the contract of awake. -/
import Derived.Test.YtfapmgecebcfaaaZRef
import Derived.Test.YtfapmgecebcfaaaWIArg
namespace Go.Proofs.Ytfapmgecebcfaaa.Z
open Go.RowKit Go.ChangeShapes Go.WideShapes
open Go.Proofs.Ytfapmgecebcfaaa.W (OwnI IntsIn ArgI)

set_option maxRecDepth 100000 in
theorem open_style {H : Type} {enc : TypeId × Value → H} {W : World} {base : Nat} {v : Value} {x : DataW H × List MemPlace} (hv : Value.okWide Try.prog W .any base 23 v) (h : ∃ m, DataW.trod enc Try.prog W 0 (fun _ => true) true m 23 v.cells.toList = some x) :
    ∃ s : Sty, v = sV s := by
  obtain ⟨cs, rfl, hsz⟩ := okWide_struct Try.underlying23 hv
  have c4 : Try.prog.cellsOf 23 = 5 := by kernel_rfl
  have c1 : Try.prog.cellsOf 3 = 1 := by kernel_rfl
  have c2 : Try.prog.cellsOf 4 = 1 := by kernel_rfl
  rw [c4] at hsz
  obtain ⟨m, hm⟩ := h
  obtain ⟨l⟩ := cs
  match l, hsz with
  | [v0, v1, v2, v3, v4], _ =>
    simp only [Value.cells] at hm
    obtain ⟨xs, n, hn, hxy, _, hxl, hf⟩ := DataW.trod_struct Try.underlying23 hm
    match xs, hxl with
    | [y0, y1, y2, y3, y4], _ =>
      have g0 := hf 0 _ rfl
      have g1 := hf 1 _ rfl
      have g2 := hf 2 _ rfl
      have g3 := hf 3 _ rfl
      have g4 := hf 4 _ rfl
      simp [c1, c2] at g0 g1 g2 g3 g4
      obtain ⟨k0, e0, _, _⟩ := DataW.trod_int Try.underlying3 g0
      obtain ⟨k1, e1, _, _⟩ := DataW.trod_int Try.underlying3 g1
      obtain ⟨k2, e2, _⟩ := DataW.trod_bool Try.underlying4 g2
      obtain ⟨k3, e3, _⟩ := DataW.trod_bool Try.underlying4 g3
      obtain ⟨k4, e4, _⟩ := DataW.trod_bool Try.underlying4 g4
      simp at e0 e1 e2 e3 e4
      subst e0 e1 e2 e3 e4
      exact ⟨⟨k0, k1, k2, k3, k4⟩, rfl⟩

theorem setS_awake : setS .zero [1, 31] = ⟨2, 0, true, false, false⟩ := by rw [set_ref]; rfl
theorem ints_two (w : World) (y z : Int) (t : TypeId) : IntsIn (some ⟨w.heap.size, 0, none⟩) 2 [y, z] (w.alloc (.cells #[.int .i64 y, .int .i64 z] t)) :=
  ⟨rfl, .inr ⟨w.heap.size, 0, rfl, by simp, fun i hi => by
    have hi' : i < 2 := by simpa using hi
    rcases (show i = 0 ∨ i = 1 by omega) with rfl | rfl
    · rw [World.cell?_alloc_new]; rfl
    · rw [World.cell?_alloc_new]; rfl⟩⟩

set_option maxRecDepth 100000 in
set_option maxHeartbeats 4000000 in
theorem awake_any (w : World) : Calls Try.prog 8 #[] w fun e w' => e = .returned (.bool true) ∧ Below w.heap.size w w' := by
  obtain ⟨rb, hrb⟩ : ∃ rb, w.heap.size = rb := ⟨_, rfl⟩
  obtain ⟨w1, hw1⟩ : ∃ w1, w.alloc (.cells #[.int .i64 1, .int .i64 31] 3) = w1 := ⟨_, rfl⟩
  have hb1 : Below rb w w1 := by rw [← hw1, ← hrb]; exact (Below.refl _ _).alloc (Nat.le_refl _) _
  have hi1 : IntsIn (some ⟨rb, 0, none⟩) 2 [1, 31] w1 := by rw [← hw1, ← hrb]; exact ints_two _ _ _ _
  have HB1 := Lib.hid hb1
  have H1 := Lib.hid (set_any .zero (some ⟨rb, 0, none⟩) 2 2 [1, 31] (by decide) (by decide) w1 hi1)
  rw [setS_awake] at H1
  have hs1 : rb < w1.heap.size := by rw [← hw1, World.size_alloc, hrb]; omega
  have HW1 := Lib.hid hw1
  have HRb := Lib.hid hrb
  clear hb1 hi1 hw1 hrb
  unfold sV Sty.zero at H1
  simp only at H1
  go_enter Try.func8, Try.ntmps8
  go_wp2_with fail
  rw [HW1.out, HRb.out]
  refine H1.out.mono ?_
  rintro e w2 ⟨rfl, hb2⟩
  have HB2 := Lib.hid (HB1.out.trans (hb2.mono (by omega)))
  have hs2 : rb < w2.heap.size := Nat.lt_of_lt_of_le hs1 hb2.size
  have H2 := Lib.hid (num_any ⟨2, 0, true, false, false⟩)
  rw [show numS ⟨2, 0, true, false, false⟩ = 83 by decide] at H2
  have H3 := Lib.hid (fun w => set_any ⟨0, 0, true, false, false⟩ none 0 0 [] (by decide) (by decide) w ⟨rfl, .inl rfl⟩)
  simp only [show setS ⟨0, 0, true, false, false⟩ [] = .zero from rfl] at H3
  unfold sV Sty.zero at H3
  unfold sV at H2
  simp only at H2 H3
  clear hb2 H1
  go_wp2_with fail
  refine (H2.out _).mono ?_
  rintro e w3 ⟨rfl, hb3⟩
  have HB3 : Hid (Below rb w w3) := Lib.hid ((HB2.out.alloc (Nat.le_of_lt hs2) _).trans (hb3.mono (by simp; omega)))
  clear hb3 H2
  go_wp2_with fail
  refine (H3.out _).mono ?_
  rintro e w4 ⟨rfl, hb4⟩
  have HB4 : Hid (Below rb w w4) := Lib.hid (HB3.out.trans (hb4.mono (by have := HB3.out.size; rw [HRb.out] at this; exact this)))
  clear hb4 H3
  go_wp2
  go_ret
  exact ⟨rfl, by rw [HRb.out]; exact HB4.out⟩
end Go.Proofs.Ytfapmgecebcfaaa.Z
