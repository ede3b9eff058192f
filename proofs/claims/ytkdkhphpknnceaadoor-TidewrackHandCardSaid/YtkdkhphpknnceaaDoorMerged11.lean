/- What the cache's laws are handed: glyphs, and acts. -/
import Derived.Test.YtkdkhphpknnceaaDoorMerged9
import Derived.Deep.Slices
import Derived.ProofKit
import Derived.Test.YtkdkhphpknnceaaDoorMerged10
namespace Go.Proofs.YtkdkhphpknnceaaDoor.C
open Go.RowKit Go.ChangeShapes Go.WideShapes Go.Proofs.YtkdkhphpknnceaaDoor.H

theorem cI : Tryd.prog.cellsOf 3 = 1 := by kernel_rfl
theorem cR : Tryd.prog.cellsOf 21 = 1 := by kernel_rfl
theorem cG : Tryd.prog.cellsOf 31 = 1 := by kernel_rfl
theorem rng_of {k : Int} (h : (Lit.wf (.int .i32 k)) = true) : -2147483648 ≤ k ∧ k ≤ 2147483647 := by
  simp [Lit.wf, IntKind.min, IntKind.max, IntKind.signed, IntKind.bits] at h
  omega
theorem addN (b off j : Nat) : (⟨b, off, none⟩ : Addr).add j = ⟨b, off + j, none⟩ := by unfold Addr.add; split <;> simp_all
theorem cGlu : Tryd.prog.cellsOf 44 = 2 := by kernel_rfl
set_option maxRecDepth 100000 in
theorem trod_glu {H : Type} {enc : TypeId × Value → H} {W : World} {m : Nat} {cs : List Value} {x : DataW H × List MemPlace} {b0 : Nat} {f0 : Nat → Bool} {t0 : Bool} (h : DataW.trod enc Tryd.prog W b0 f0 t0 m 44 cs = some x) (hl : cs.length = 2) :
    ∃ c : Int × Int, cs = [.int .i32 c.1, .int .i64 c.2] ∧ -2147483648 ≤ c.1 ∧ c.1 ≤ 2147483647 := by
  match cs, hl with
  | [v0, v1], _ =>
    obtain ⟨xs, n, hn, hxy, _, hxl, hf⟩ := DataW.trod_struct Tryd.underlying44 h
    match xs, hxl with
    | [y0, y1], _ =>
      have g0 := hf 0 _ rfl
      have g1 := hf 1 _ rfl
      simp [cI, cR] at g0 g1
      obtain ⟨k0, e0, _, hw⟩ := DataW.trod_int Tryd.underlying21 g0
      obtain ⟨k1, e1, _, _⟩ := DataW.trod_int Tryd.underlying3 g1
      simp at e0 e1
      subst e0 e1
      exact ⟨⟨k0, k1⟩, rfl, rng_of hw⟩
set_option maxRecDepth 100000 in
theorem trod_glus {H : Type} {enc : TypeId × Value → H} {W : World} {m : Nat} {v : Value} {x : DataW H × List MemPlace} (h : DataW.trod enc Tryd.prog W 0 (fun _ => true) true m 31 [v] = some x) :
    ∃ (a : Option Addr) (len cap : Nat) (l : List (Int × Int)), v = .slice a len cap ∧ PairsIn .i32 a len cap l W ∧ (∀ g ∈ l, -2147483648 ≤ g.1 ∧ g.1 ≤ 2147483647) ∧ (a = none → cap = 0) := by
  rcases Deep.open_slice Tryd.underlying31 h with ⟨hc, _⟩ | ⟨a', len, cap, m', n', D, Pl, hc, _, hl, hcm, hmm, _, hx⟩
  · simp at hc
    subst hc
    exact ⟨none, 0, 0, [], rfl, ⟨rfl, Nat.le_refl _, by omega, .inl rfl⟩, (fun _ h => by cases h), fun _ => rfl⟩
  · simp at hc
    subst hc
    simp only [if_true] at hmm
    subst hmm
    have hcap : (m' : Int) ≤ 9223372036854775807 := by unfold maxLen at hcm; omega
    have each : ∀ i, i < len → ∃ A : Int × Int, (-2147483648 ≤ A.1 ∧ A.1 ≤ 2147483647) ∧ ∀ j u, [Value.int .i32 A.1, .int .i64 A.2][j]? = some u → W.cell? (a'.add (i * 2 + j)) = some u := by
      intro i hi
      obtain ⟨cs', h1, h2⟩ := hx i (by omega)
      rw [cGlu] at h1
      obtain ⟨_, hlen, hcell⟩ := World.cells?_some h1
      obtain ⟨A, he, hA⟩ := trod_glu h2 hlen
      refine ⟨A, hA, fun j u hj => ?_⟩
      have hj5 : j < 2 := by have := (List.getElem?_eq_some_iff.1 hj).1; simpa using this
      have f := hcell j (by omega)
      rw [Deep.add_add] at f
      rw [← he] at hj
      rw [f, hj]
    by_cases hl0 : len = 0
    · subst hl0
      exact ⟨some a', 0, m', [], rfl, ⟨rfl, by omega, hcap, .inl rfl⟩, (fun _ h => by cases h), (fun e => by cases e)⟩
    · obtain ⟨q, hq⟩ := Deep.choose_lt each
      obtain ⟨b, off, spot⟩ := a'
      have hc0 := (hq 0 (by omega)).2 0 _ rfl
      have hspot : spot = none := by simpa [Addr.add] using World.cell?_spot hc0
      subst hspot
      rw [addN] at hc0
      have hblt := World.block_lt_of_cell? W _ hc0
      refine ⟨some ⟨b, off, none⟩, len, m', (List.range len).map q, rfl, ⟨by simp, hl, hcap, .inr ⟨b, off, rfl, hblt, fun i A hA => ?_⟩⟩, (fun A hA => ?_), (fun e => by cases e)⟩
      · have hi : i < len := by have := (List.getElem?_eq_some_iff.1 hA).1; simpa using this
        have e : q i = A := by simpa [hi] using hA
        have f := (hq i hi).2
        rw [e] at f
        have fj := fun j u h => by have := f j u h; rw [addN, ← Nat.add_assoc] at this; exact this
        exact ⟨fj 0 _ rfl, fj 1 _ rfl⟩
      · obtain ⟨i, hi, rfl⟩ := List.mem_map.1 hA
        exact (hq i (List.mem_range.1 hi)).1
end Go.Proofs.YtkdkhphpknnceaaDoor.C

/- Lines that the cache's laws are handed. -/
namespace Go.Proofs.YtkdkhphpknnceaaDoor.C
open Go.RowKit Go.ChangeShapes Go.WideShapes Go.Proofs.YtkdkhphpknnceaaDoor.H

theorem trod_line {H : Type} {enc : TypeId × Value → H} {W : World} {m : Nat} {cs : List Value} {x : DataW H × List MemPlace} (h : DataW.trod enc Tryd.prog W 0 (fun _ => true) true m 31 cs = some x) (hl : cs.length = 1) :
    ∃ A : LArg, cs = [.slice A.sa A.sn A.sc] ∧ PairsIn .i32 A.sa A.sn A.sc A.g W ∧ (A.sa = none → A.sc = 0) ∧ RngG A.g := by
  match cs, hl with
  | [v0], _ =>
    obtain ⟨a, len, cap, l, rfl, h1, h2, h3⟩ := trod_glus h
    exact ⟨⟨a, len, cap, l⟩, rfl, h1, h3, h2⟩
end Go.Proofs.YtkdkhphpknnceaaDoor.C

/- Lines, a range of them and a width, handed in. -/
namespace Go.Proofs.YtkdkhphpknnceaaDoor.C
open Go.RowKit Go.ChangeShapes Go.WideShapes Go.Proofs.YtkdkhphpknnceaaDoor.H

theorem cHand : Tryd.prog.cellsOf 24 = 4 := by kernel_rfl
theorem cLinesH : Tryd.prog.cellsOf 22 = 1 := by kernel_rfl
theorem cIH : Tryd.prog.cellsOf 3 = 1 := by kernel_rfl
set_option maxRecDepth 100000 in
theorem trod_linesH {H : Type} {enc : TypeId × Value → H} {W : World} {m : Nat} {v : Value} {x : DataW H × List MemPlace} (hm : DataW.trod enc Tryd.prog W 0 (fun _ => true) true m 22 [v] = some x) :
    ∃ (a : Option Addr) (len cap : Nat) (l : List LArg), v = .slice a len cap ∧ LArgsIn a len cap l W := by
  rcases Deep.open_slice Tryd.underlying22 hm with ⟨hc, _⟩ | ⟨a', len, cap, m', n', D, Pl, hc, _, hl, hcm, hmm, _, hx⟩
  · simp at hc
    subst hc
    exact ⟨none, 0, 0, [], rfl, rfl, Nat.le_refl _, by omega, .inl rfl, fun A hA => by cases hA⟩
  · simp at hc
    subst hc
    simp only [if_true] at hmm
    subst hmm
    have hcap : (m' : Int) ≤ 9223372036854775807 := by unfold maxLen at hcm; omega
    have each : ∀ i, i < len → ∃ A : LArg, (PairsIn .i32 A.sa A.sn A.sc A.g W ∧ (A.sa = none → A.sc = 0) ∧ RngG A.g) ∧ ∀ j u, [Value.slice A.sa A.sn A.sc][j]? = some u → W.cell? (a'.add (i * 1 + j)) = some u := by
      intro i hi
      obtain ⟨cs', h1, h2⟩ := hx i (by omega)
      rw [cG] at h1
      obtain ⟨_, hlen, hcell⟩ := World.cells?_some h1
      obtain ⟨A, he, hA⟩ := trod_line h2 hlen
      refine ⟨A, hA, fun j u hj => ?_⟩
      have hj5 : j < 1 := by have := (List.getElem?_eq_some_iff.1 hj).1; simpa using this
      have f := hcell j (by omega)
      rw [Deep.add_add] at f
      rw [← he] at hj
      rw [f, hj]
    by_cases hl0 : len = 0
    · subst hl0
      exact ⟨some a', 0, m', [], rfl, rfl, by omega, hcap, .inl rfl, fun A hA => by cases hA⟩
    · haveI : Inhabited LArg := ⟨⟨none, 0, 0, []⟩⟩
      obtain ⟨q, hq⟩ := Deep.choose_lt each
      obtain ⟨b, off, spot⟩ := a'
      have hc0 := (hq 0 (by omega)).2 0 _ rfl
      have hspot : spot = none := by simpa [Addr.add] using World.cell?_spot hc0
      subst hspot
      rw [addN] at hc0
      have hblt := World.block_lt_of_cell? W _ hc0
      refine ⟨some ⟨b, off, none⟩, len, m', (List.range len).map q, rfl, by simp, hl, hcap, .inr ⟨b, off, rfl, hblt, fun i A hA => ?_⟩, fun A hA => ?_⟩
      · have hi : i < len := by have := (List.getElem?_eq_some_iff.1 hA).1; simpa using this
        have e : q i = A := by simpa [hi] using hA
        have f := (hq i hi).2
        rw [e] at f
        have fj := f 0 _ rfl
        rw [addN, Nat.mul_one, Nat.add_zero] at fj
        exact fj
      · obtain ⟨i, hi, rfl⟩ := List.mem_map.1 hA
        exact (hq i (List.mem_range.1 hi)).1
theorem wf64 {k : Int} (h : (Lit.wf (.int .i64 k)) = true) : -9223372036854775808 ≤ k ∧ k ≤ 9223372036854775807 := by
  simp [Lit.wf, IntKind.min, IntKind.max, IntKind.signed, IntKind.bits] at h
  omega
set_option maxRecDepth 100000 in
theorem open_hand {H : Type} {enc : TypeId × Value → H} {W : World} {base : Nat} {v : Value} {x : DataW H × List MemPlace} (hv : Value.okWide Tryd.prog W .any base 24 v) (h : ∃ m, DataW.trod enc Tryd.prog W 0 (fun _ => true) true m 24 v.cells.toList = some x) :
    ∃ (a : Option Addr) (n c : Nat) (l : List LArg) (m1 m2 m3 : Int), v = .agg #[.slice a n c, .int .i64 m1, .int .i64 m2, .int .i64 m3] ∧ LArgsIn a n c l W ∧ (-9223372036854775808 ≤ m1 ∧ m1 ≤ 9223372036854775807) ∧ (-9223372036854775808 ≤ m2 ∧ m2 ≤ 9223372036854775807) := by
  obtain ⟨cs, rfl, hsz⟩ := okWide_struct Tryd.underlying24 hv
  rw [cHand] at hsz
  obtain ⟨m, hm⟩ := h
  obtain ⟨l4, hl4⟩ : ∃ l : List Value, cs.toList = l := ⟨_, rfl⟩
  have hm4 : DataW.trod enc Tryd.prog W 0 (fun _ => true) true m 24 l4 = some x := by rw [← hl4]; exact hm
  have hlen : l4.length = 4 := by rw [← hl4]; simpa using hsz
  have key : ∃ (a : Option Addr) (n c : Nat) (l : List LArg) (m1 m2 m3 : Int), l4 = [.slice a n c, .int .i64 m1, .int .i64 m2, .int .i64 m3] ∧ LArgsIn a n c l W ∧ (-9223372036854775808 ≤ m1 ∧ m1 ≤ 9223372036854775807) ∧ (-9223372036854775808 ≤ m2 ∧ m2 ≤ 9223372036854775807) := by
    match l4, hlen with
    | [v0, v1, v2, v3], _ =>
      obtain ⟨xs, n, hn, hxy, _, hxl, hf⟩ := DataW.trod_struct Tryd.underlying24 hm4
      match xs, hxl with
      | [y0, y1, y2, y3], _ =>
        have g0 := hf 0 _ rfl
        have g1 := hf 1 _ rfl
        have g2 := hf 2 _ rfl
        have g3 := hf 3 _ rfl
        simp [cIH, cLinesH] at g0 g1 g2 g3
        obtain ⟨a, len, cap, l, rfl, hA⟩ := trod_linesH g0
        obtain ⟨k1, e1, _, hw1⟩ := DataW.trod_int Tryd.underlying3 g1
        obtain ⟨k2, e2, _, hw2⟩ := DataW.trod_int Tryd.underlying3 g2
        obtain ⟨k3, e3, _, _⟩ := DataW.trod_int Tryd.underlying3 g3
        simp at e1 e2 e3
        subst e1 e2 e3
        exact ⟨a, len, cap, l, k1, k2, k3, rfl, hA, wf64 hw1, wf64 hw2⟩
  obtain ⟨a, n, c, l, m1, m2, m3, e4, h4⟩ := key
  refine ⟨a, n, c, l, m1, m2, m3, ?_, h4⟩
  congr 1
  apply Array.ext'
  rw [hl4, e4]
end Go.Proofs.YtkdkhphpknnceaaDoor.C
