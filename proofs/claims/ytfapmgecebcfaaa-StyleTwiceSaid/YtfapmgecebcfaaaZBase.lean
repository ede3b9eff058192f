/- The contracts of style's small functions: colour, with, mayBe, and the document's May. -/
import Derived.Test.YtfapmgecebcfaaaZMath
import Derived.Test.YtfapmgecebcfaaaWInts
import Derived.Laws.ResultCell
import Derived.Deep.Cut
import Derived.Deep.CutBlock
namespace Go.Proofs.Ytfapmgecebcfaaa.Z
open Go.RowKit

theorem results_cell {fn : Func} {p : Tmp} {ty : TypeId} (h : fn.results = #[.cell p ty]) (tmps : Array Value) (P : Program) (w : World) :
    (results fn tmps).run P w = ((asAddr (tmps.getD p undef)).run P w).andThen fun a w₁ => (loadVar ty a).run P w₁ := by
  simp only [results, h]
  simp [Sem.run_bind, Result.andThen]
def sV (s : Sty) : Value := .agg #[.int .i64 s.fore, .int .i64 s.back, .bool s.bold, .bool s.under, .bool s.inv]
def inI (z : Int) : Prop := -9223372036854775808 ≤ z ∧ z ≤ 9223372036854775807

set_option maxRecDepth 100000 in
set_option maxHeartbeats 2000000 in
theorem colour_any (n first was : Int) (hf1 : 30 ≤ first) (hf2 : first ≤ 40) (w : World) : Calls Try.prog 19 #[.int .i64 n, .int .i64 first, .int .i64 was] w fun e w' => e = .returned (.int .i64 (colS n first was)) ∧ w = w' := by
  unfold colS
  by_cases h1 : n = first + 9
  · rw [if_pos h1]
    go_enter Try.func19, Try.ntmps19
    go_wp2
    go_ret
    exact ⟨rfl, rfl⟩
  · rw [if_neg h1]
    by_cases h2 : first ≤ n
    · by_cases h3 : n < first + 8
      · rw [if_pos ⟨h2, h3⟩]
        go_enter Try.func19, Try.ntmps19
        go_wp2
        go_ret
        exact ⟨rfl, rfl⟩
      · rw [if_neg (fun e => h3 e.2)]
        go_enter Try.func19, Try.ntmps19
        go_wp2
        go_ret
        exact ⟨rfl, rfl⟩
    · rw [if_neg (fun e => h2 e.1)]
      go_enter Try.func19, Try.ntmps19
      go_wp2
      go_ret
      exact ⟨rfl, rfl⟩

/-- A style in a block. -/
def SBlk (t : TypeId) (p : Nat) (s : Sty) (w : World) : Prop := w.heap[p]? = some (.cells #[.int .i64 s.fore, .int .i64 s.back, .bool s.bold, .bool s.under, .bool s.inv] t (0, 0))
theorem SBlk.new (t : TypeId) (w : World) (s : Sty) : SBlk t w.heap.size s (w.alloc (.cells #[.int .i64 s.fore, .int .i64 s.back, .bool s.bold, .bool s.under, .bool s.inv] t)) := World.alloc_heap_new w _
theorem SBlk.lt {t : TypeId} {p : Nat} {s : Sty} {w : World} (h : SBlk t p s w) : p < w.heap.size := (Array.getElem?_eq_some_iff.1 h).1
theorem SBlk.c0 {t : TypeId} {p : Nat} {s : Sty} {w : World} (h : SBlk t p s w) : w.cell? ⟨p, 0, none⟩ = some (.int .i64 s.fore) := by simp [World.cell?, show w.heap[p]? = _ from h]
theorem SBlk.c1 {t : TypeId} {p : Nat} {s : Sty} {w : World} (h : SBlk t p s w) : w.cell? ⟨p, 1, none⟩ = some (.int .i64 s.back) := by simp [World.cell?, show w.heap[p]? = _ from h]
theorem SBlk.c2 {t : TypeId} {p : Nat} {s : Sty} {w : World} (h : SBlk t p s w) : w.cell? ⟨p, 2, none⟩ = some (.bool s.bold) := by simp [World.cell?, show w.heap[p]? = _ from h]
theorem SBlk.c3 {t : TypeId} {p : Nat} {s : Sty} {w : World} (h : SBlk t p s w) : w.cell? ⟨p, 3, none⟩ = some (.bool s.under) := by simp [World.cell?, show w.heap[p]? = _ from h]
theorem SBlk.c4 {t : TypeId} {p : Nat} {s : Sty} {w : World} (h : SBlk t p s w) : w.cell? ⟨p, 4, none⟩ = some (.bool s.inv) := by simp [World.cell?, show w.heap[p]? = _ from h]
theorem SBlk.fr {t : TypeId} {p : Nat} {s : Sty} {w : World} (h : SBlk t p s w) (o : Nat) : w.frozen? ⟨p, o, none⟩ = false := by simp [World.frozen?, show w.heap[p]? = _ from h]
theorem SBlk.below {t : TypeId} {p : Nat} {s : Sty} {w w' : World} {B : Nat} (h : SBlk t p s w) (hb : Below B w w') (hp : p < B) : SBlk t p s w' := (hb.block p hp).trans h
theorem SBlk.alloc {t : TypeId} {p : Nat} {s : Sty} {w : World} (h : SBlk t p s w) (o : Obj) : SBlk t p s (w.alloc o) := (World.grownBy_alloc w o none).block p h.lt (by simp) |>.trans h
theorem SBlk.other {t : TypeId} {p k o : Nat} {s : Sty} {w : World} (h : SBlk t p s w) (hne : p ≠ k) (v : Value) : SBlk t p s (w.setCell ⟨k, o, none⟩ v) :=
  (Below.heap_setCell w ⟨k, o, none⟩ v p hne).trans h
/-- a style's five cells are laid -/
def set5 (w : World) (p : Nat) (s : Sty) : World := ((((w.setCell ⟨p, 0, none⟩ (.int .i64 s.fore)).setCell ⟨p, 1, none⟩ (.int .i64 s.back)).setCell ⟨p, 2, none⟩ (.bool s.bold)).setCell ⟨p, 3, none⟩ (.bool s.under)).setCell ⟨p, 4, none⟩ (.bool s.inv)
theorem below_set5 {base p : Nat} {w0 w : World} {s : Sty} (h : Below base w0 w) (hp : base ≤ p) : Below base w0 (set5 w p s) :=
  ((((h.setCell (p := ⟨p, 0, none⟩) hp _).setCell (p := ⟨p, 1, none⟩) hp _).setCell (p := ⟨p, 2, none⟩) hp _).setCell (p := ⟨p, 3, none⟩) hp _).setCell (p := ⟨p, 4, none⟩) hp _
theorem SBlk.laid5 {t : TypeId} {p : Nat} {s s' : Sty} {w : World} (h : SBlk t p s w) : SBlk t p s' (set5 w p s') := by
  unfold SBlk set5 at *; simp [World.setCell, Array.getElem?_modify, h]
theorem size_set5 {p : Nat} {s' : Sty} {w : World} : (set5 w p s').heap.size = w.heap.size := by
  unfold set5; simp

set_option maxRecDepth 100000 in
set_option maxHeartbeats 2000000 in
theorem mayBe_any (s : Sty) (w : World) : Calls Try.prog 18 #[sV s] w fun e w' => e = .returned (.bool (decide s.may)) ∧ Below w.heap.size w w' := by
  obtain ⟨M, hM⟩ : ∃ M, decide s.may = M := ⟨_, rfl⟩
  rw [hM]
  obtain ⟨f, b, u, v, i⟩ := s
  unfold sV
  simp only
  have hb : Below w.heap.size w (w.alloc (.cells #[.int .i64 f, .int .i64 b, .bool u, .bool v, .bool i] 26)) := (Below.refl _ _).alloc (Nat.le_refl _) _
  have HB := Lib.hid hb
  clear hb
  have hcase : (M = true ∧ 0 ≤ f ∧ f ≤ 8 ∧ 0 ≤ b ∧ b ≤ 8) ∨ (M = false ∧ f < 0) ∨ (M = false ∧ 0 ≤ f ∧ 8 < f) ∨ (M = false ∧ 0 ≤ f ∧ f ≤ 8 ∧ b < 0) ∨ (M = false ∧ 0 ≤ f ∧ f ≤ 8 ∧ 0 ≤ b ∧ 8 < b) := by
    by_cases h : Sty.may ⟨f, b, u, v, i⟩
    · exact .inl ⟨by rw [← hM]; exact decide_eq_true h, h.1, h.2.1, h.2.2.1, h.2.2.2⟩
    · have hf : M = false := by rw [← hM]; exact decide_eq_false h
      have h' : ¬ (0 ≤ f ∧ f ≤ 8 ∧ 0 ≤ b ∧ b ≤ 8) := h
      simp only [hf, true_and]
      right
      omega
  clear hM
  rcases hcase with ⟨rfl, h1, h2, h3, h4⟩ | ⟨rfl, h1⟩ | ⟨rfl, h1, h2⟩ | ⟨rfl, h1, h2, h3⟩ | ⟨rfl, h1, h2, h3, h4⟩
  all_goals
    go_enter Try.func18, Try.ntmps18
    go_wp2
    go_ret
    first | exact ⟨rfl, HB.out⟩ | (refine ⟨?_, HB.out⟩; show Ending.returned (.bool (decide (b < 9))) = .returned (.bool _); congr 2; simp; omega)

set_option maxRecDepth 100000 in
set_option maxHeartbeats 2000000 in
theorem refMay_any (s : Sty) (w : World) : Calls Try.prog 14 #[sV s] w fun e w' => e = .returned (.bool (decide s.may)) ∧ Below w.heap.size w w' := by
  obtain ⟨M, hM⟩ : ∃ M, decide s.may = M := ⟨_, rfl⟩
  rw [hM]
  obtain ⟨f, b, u, v, i⟩ := s
  unfold sV
  simp only
  have hb : Below w.heap.size w (w.alloc (.cells #[.int .i64 f, .int .i64 b, .bool u, .bool v, .bool i] 23)) := (Below.refl _ _).alloc (Nat.le_refl _) _
  have HB := Lib.hid hb
  clear hb
  have hcase : (M = true ∧ 0 ≤ f ∧ f ≤ 8 ∧ 0 ≤ b ∧ b ≤ 8) ∨ (M = false ∧ f < 0) ∨ (M = false ∧ 0 ≤ f ∧ 8 < f) ∨ (M = false ∧ 0 ≤ f ∧ f ≤ 8 ∧ b < 0) ∨ (M = false ∧ 0 ≤ f ∧ f ≤ 8 ∧ 0 ≤ b ∧ 8 < b) := by
    by_cases h : Sty.may ⟨f, b, u, v, i⟩
    · exact .inl ⟨by rw [← hM]; exact decide_eq_true h, h.1, h.2.1, h.2.2.1, h.2.2.2⟩
    · have hf : M = false := by rw [← hM]; exact decide_eq_false h
      have h' : ¬ (0 ≤ f ∧ f ≤ 8 ∧ 0 ≤ b ∧ b ≤ 8) := h
      simp only [hf, true_and]
      right
      omega
  clear hM
  rcases hcase with ⟨rfl, h1, h2, h3, h4⟩ | ⟨rfl, h1⟩ | ⟨rfl, h1, h2⟩ | ⟨rfl, h1, h2, h3⟩ | ⟨rfl, h1, h2, h3, h4⟩
  all_goals
    go_enter Try.func14, Try.ntmps14
    go_wp2
    go_ret
    first | exact ⟨rfl, HB.out⟩ | (refine ⟨?_, HB.out⟩; show Ending.returned (.bool (decide (b ≤ 8))) = .returned (.bool _); congr 2; simp; omega)

set_option maxRecDepth 100000 in
set_option maxHeartbeats 4000000 in
theorem with_any (s : Sty) (n : Int) (w : World) : Calls Try.prog 17 #[sV s, .int .i64 n] w fun e w' => e = .returned (sV (withS s n)) ∧ Below w.heap.size w w' := by
  obtain ⟨R, hR⟩ : ∃ R, withS s n = R := ⟨_, rfl⟩
  rw [hR]
  obtain ⟨f, b, u, v, i⟩ := s
  obtain ⟨rb, hrb⟩ : ∃ rb, w.heap.size = rb := ⟨_, rfl⟩
  obtain ⟨w1, hw1⟩ : ∃ w1, (w.alloc (.cells #[.int .i64 f, .int .i64 b, .bool u, .bool v, .bool i] 26)).alloc (.cells #[.int .i64 0, .int .i64 0, .bool false, .bool false, .bool false] 26) = w1 := ⟨_, rfl⟩
  have hb1 : Below rb w w1 := by rw [← hw1, ← hrb]; exact ((Below.refl _ _).alloc (Nat.le_refl _) _).alloc (by simp) _
  have hd1 : SBlk 26 rb ⟨f, b, u, v, i⟩ w1 := by rw [← hw1, ← hrb]; exact (SBlk.new _ _ _).alloc _
  have hr1 : SBlk 26 (rb + 1) .zero w1 := by
    have h := SBlk.new 26 (w.alloc (.cells #[.int .i64 f, .int .i64 b, .bool u, .bool v, .bool i] 26)) .zero
    rw [World.size_alloc, hrb] at h
    rw [← hw1]; exact h
  have hs1 : rb + 1 < w1.heap.size := hr1.lt
  have HB1 := Lib.hid hb1
  have HR1 := Lib.hid hr1
  have HW1 := Lib.hid hw1
  have HRb := Lib.hid hrb
  have HRR := Lib.hid hR
  have c0 := hd1.c0
  have c1 := hd1.c1
  have c2 := hd1.c2
  have c3 := hd1.c3
  have c4 := hd1.c4
  have f0 := hd1.fr 0
  have f1 := hd1.fr 1
  have f2 := hd1.fr 2
  have f3 := hd1.fr 3
  have f4 := hd1.fr 4
  have z0 := hr1.c0
  have z1 := hr1.c1
  have z2 := hr1.c2
  have z3 := hr1.c3
  have z4 := hr1.c4
  simp only [Sty.zero] at z0 z1 z2 z3 z4
  have k0 := hr1.fr 0
  have k1 := hr1.fr 1
  have k2 := hr1.fr 2
  have k3 := hr1.fr 3
  have k4 := hr1.fr 4
  simp only at c0 c1 c2 c3 c4
  clear hb1 hd1 hr1 hw1 hrb hR
  unfold sV
  simp only
  by_cases h0 : n = 0
  · subst h0
    have hz : R = .zero := by rw [← HRR.out]; unfold withS; rw [if_pos rfl]
    subst hz
    go_enter Try.func17, Try.ntmps17
    go_upto_region 1 with fail
    rw [HW1.out, HRb.out]
    go_wp2
    refine bodyPost_ret (v := sV .zero) (by rw [results_cell (fn := Try.f17) rfl]; go_simp; rfl) rfl ?_
    exact ⟨rfl, by rw [HRb.out]; exact below_set5 (s := .zero) HB1.out (by omega)⟩
  · have hw : withS ⟨f, b, u, v, i⟩ n = ⟨colS n 30 f, colS n 40 b, if n = 1 then true else if n = 22 then false else u, if n = 4 then true else if n = 24 then false else v, if n = 7 then true else if n = 27 then false else i⟩ := by
      unfold withS; rw [if_neg h0]
    rw [hw] at HRR
    clear hw
    have h3 := fun w => colour_any n 30 f (by decide) (by decide) w
    have h4 := fun w => colour_any n 40 b (by decide) (by decide) w
    obtain ⟨F, hF⟩ : ∃ F, colS n 30 f = F := ⟨_, rfl⟩
    obtain ⟨B, hB⟩ : ∃ B, colS n 40 b = B := ⟨_, rfl⟩
    rw [hF] at h3 HRR
    rw [hB] at h4 HRR
    have H3 := Lib.hid h3
    have H4 := Lib.hid h4
    clear h3 h4 hF hB
    rcases (show (n ≠ 1 ∧ n ≠ 22 ∧ n ≠ 4 ∧ n ≠ 24 ∧ n ≠ 7 ∧ n ≠ 27) ∨ (n = 1 ∨ n = 22 ∨ n = 4 ∨ n = 24 ∨ n = 7 ∨ n = 27) by omega) with ⟨n1, n2, n3, n4, n5, n6⟩ | (rfl | rfl | rfl | rfl | rfl | rfl)
    · rw [if_neg n1, if_neg n2, if_neg n3, if_neg n4, if_neg n5, if_neg n6] at HRR
      go_enter Try.func17, Try.ntmps17
      go_upto_region 1 with fail
      rw [HW1.out, HRb.out]
      go_wp2_with fail
      refine (H3.out _).mono ?_
      rintro e w2 ⟨rfl, rfl⟩
      go_wp2_with fail
      refine (H4.out _).mono ?_
      rintro e w2 ⟨rfl, rfl⟩
      go_wp2
      refine bodyPost_ret (v := sV ⟨F, B, u, v, i⟩) (by rw [results_cell (fn := Try.f17) rfl]; go_simp; rfl) rfl ?_
      rw [← HRR.out]
      exact ⟨rfl, by rw [HRb.out]; exact below_set5 (s := ⟨F, B, u, v, i⟩) (((HB1.out.setCell (p := ⟨rb, 0, none⟩) (Nat.le_refl _) _).setCell (p := ⟨rb, 1, none⟩) (Nat.le_refl _) _)) (by omega)⟩
    · simp (decide := true) only [if_true, if_false] at HRR
      go_enter Try.func17, Try.ntmps17
      go_upto_region 1 with fail
      rw [HW1.out, HRb.out]
      go_wp2_with fail
      refine (H3.out _).mono ?_
      rintro e w2 ⟨rfl, rfl⟩
      go_wp2_with fail
      refine (H4.out _).mono ?_
      rintro e w2 ⟨rfl, rfl⟩
      go_wp2
      refine bodyPost_ret (v := sV ⟨F, B, true, v, i⟩) (by rw [results_cell (fn := Try.f17) rfl]; go_simp; rfl) rfl ?_
      rw [← HRR.out]
      exact ⟨rfl, by rw [HRb.out]; exact below_set5 (s := ⟨F, B, true, v, i⟩) (((HB1.out.setCell (p := ⟨rb, 2, none⟩) (Nat.le_refl _) _).setCell (p := ⟨rb, 0, none⟩) (Nat.le_refl _) _).setCell (p := ⟨rb, 1, none⟩) (Nat.le_refl _) _) (by omega)⟩
    · simp (decide := true) only [if_true, if_false] at HRR
      go_enter Try.func17, Try.ntmps17
      go_upto_region 1 with fail
      rw [HW1.out, HRb.out]
      go_wp2_with fail
      refine (H3.out _).mono ?_
      rintro e w2 ⟨rfl, rfl⟩
      go_wp2_with fail
      refine (H4.out _).mono ?_
      rintro e w2 ⟨rfl, rfl⟩
      go_wp2
      refine bodyPost_ret (v := sV ⟨F, B, false, v, i⟩) (by rw [results_cell (fn := Try.f17) rfl]; go_simp; rfl) rfl ?_
      rw [← HRR.out]
      exact ⟨rfl, by rw [HRb.out]; exact below_set5 (s := ⟨F, B, false, v, i⟩) (((HB1.out.setCell (p := ⟨rb, 2, none⟩) (Nat.le_refl _) _).setCell (p := ⟨rb, 0, none⟩) (Nat.le_refl _) _).setCell (p := ⟨rb, 1, none⟩) (Nat.le_refl _) _) (by omega)⟩
    · simp (decide := true) only [if_true, if_false] at HRR
      go_enter Try.func17, Try.ntmps17
      go_upto_region 1 with fail
      rw [HW1.out, HRb.out]
      go_wp2_with fail
      refine (H3.out _).mono ?_
      rintro e w2 ⟨rfl, rfl⟩
      go_wp2_with fail
      refine (H4.out _).mono ?_
      rintro e w2 ⟨rfl, rfl⟩
      go_wp2
      refine bodyPost_ret (v := sV ⟨F, B, u, true, i⟩) (by rw [results_cell (fn := Try.f17) rfl]; go_simp; rfl) rfl ?_
      rw [← HRR.out]
      exact ⟨rfl, by rw [HRb.out]; exact below_set5 (s := ⟨F, B, u, true, i⟩) (((HB1.out.setCell (p := ⟨rb, 3, none⟩) (Nat.le_refl _) _).setCell (p := ⟨rb, 0, none⟩) (Nat.le_refl _) _).setCell (p := ⟨rb, 1, none⟩) (Nat.le_refl _) _) (by omega)⟩
    · simp (decide := true) only [if_true, if_false] at HRR
      go_enter Try.func17, Try.ntmps17
      go_upto_region 1 with fail
      rw [HW1.out, HRb.out]
      go_wp2_with fail
      refine (H3.out _).mono ?_
      rintro e w2 ⟨rfl, rfl⟩
      go_wp2_with fail
      refine (H4.out _).mono ?_
      rintro e w2 ⟨rfl, rfl⟩
      go_wp2
      refine bodyPost_ret (v := sV ⟨F, B, u, false, i⟩) (by rw [results_cell (fn := Try.f17) rfl]; go_simp; rfl) rfl ?_
      rw [← HRR.out]
      exact ⟨rfl, by rw [HRb.out]; exact below_set5 (s := ⟨F, B, u, false, i⟩) (((HB1.out.setCell (p := ⟨rb, 3, none⟩) (Nat.le_refl _) _).setCell (p := ⟨rb, 0, none⟩) (Nat.le_refl _) _).setCell (p := ⟨rb, 1, none⟩) (Nat.le_refl _) _) (by omega)⟩
    · simp (decide := true) only [if_true, if_false] at HRR
      go_enter Try.func17, Try.ntmps17
      go_upto_region 1 with fail
      rw [HW1.out, HRb.out]
      go_wp2_with fail
      refine (H3.out _).mono ?_
      rintro e w2 ⟨rfl, rfl⟩
      go_wp2_with fail
      refine (H4.out _).mono ?_
      rintro e w2 ⟨rfl, rfl⟩
      go_wp2
      refine bodyPost_ret (v := sV ⟨F, B, u, v, true⟩) (by rw [results_cell (fn := Try.f17) rfl]; go_simp; rfl) rfl ?_
      rw [← HRR.out]
      exact ⟨rfl, by rw [HRb.out]; exact below_set5 (s := ⟨F, B, u, v, true⟩) (((HB1.out.setCell (p := ⟨rb, 4, none⟩) (Nat.le_refl _) _).setCell (p := ⟨rb, 0, none⟩) (Nat.le_refl _) _).setCell (p := ⟨rb, 1, none⟩) (Nat.le_refl _) _) (by omega)⟩
    · simp (decide := true) only [if_true, if_false] at HRR
      go_enter Try.func17, Try.ntmps17
      go_upto_region 1 with fail
      rw [HW1.out, HRb.out]
      go_wp2_with fail
      refine (H3.out _).mono ?_
      rintro e w2 ⟨rfl, rfl⟩
      go_wp2_with fail
      refine (H4.out _).mono ?_
      rintro e w2 ⟨rfl, rfl⟩
      go_wp2
      refine bodyPost_ret (v := sV ⟨F, B, u, v, false⟩) (by rw [results_cell (fn := Try.f17) rfl]; go_simp; rfl) rfl ?_
      rw [← HRR.out]
      exact ⟨rfl, by rw [HRb.out]; exact below_set5 (s := ⟨F, B, u, v, false⟩) (((HB1.out.setCell (p := ⟨rb, 4, none⟩) (Nat.le_refl _) _).setCell (p := ⟨rb, 0, none⟩) (Nat.le_refl _) _).setCell (p := ⟨rb, 1, none⟩) (Nat.le_refl _) _) (by omega)⟩
end Go.Proofs.Ytfapmgecebcfaaa.Z
