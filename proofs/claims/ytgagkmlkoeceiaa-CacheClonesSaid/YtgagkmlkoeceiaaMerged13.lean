/- What the cache's laws are handed: glyphs, and acts. -/
import Derived.Test.YtgagkmlkoeceiaaMerged12
import Derived.Deep.Slices
import Derived.ProofKit
namespace Go.Proofs.Ytgagkmlkoeceiaa.C
open Go.RowKit Go.ChangeShapes Go.WideShapes Go.Proofs.Ytgagkmlkoeceiaa.H

theorem cI : Try.prog.cellsOf 3 = 1 := by kernel_rfl
theorem cR : Try.prog.cellsOf 21 = 1 := by kernel_rfl
theorem cG : Try.prog.cellsOf 32 = 1 := by kernel_rfl
theorem cCact : Try.prog.cellsOf 34 = 3 := by kernel_rfl
theorem rng_of {k : Int} (h : (Lit.wf (.int .i32 k)) = true) : -2147483648 ≤ k ∧ k ≤ 2147483647 := by
  simp [Lit.wf, IntKind.min, IntKind.max, IntKind.signed, IntKind.bits] at h
  omega
theorem addN (b off j : Nat) : (⟨b, off, none⟩ : Addr).add j = ⟨b, off + j, none⟩ := by unfold Addr.add; split <;> simp_all
theorem cGlu : Try.prog.cellsOf 43 = 2 := by kernel_rfl
set_option maxRecDepth 100000 in
theorem trod_glu {H : Type} {enc : TypeId × Value → H} {W : World} {m : Nat} {cs : List Value} {x : DataW H × List MemPlace} {b0 : Nat} {f0 : Nat → Bool} {t0 : Bool} (h : DataW.trod enc Try.prog W b0 f0 t0 m 43 cs = some x) (hl : cs.length = 2) :
    ∃ c : Int × Int, cs = [.int .i32 c.1, .int .i64 c.2] ∧ -2147483648 ≤ c.1 ∧ c.1 ≤ 2147483647 := by
  match cs, hl with
  | [v0, v1], _ =>
    obtain ⟨xs, n, hn, hxy, _, hxl, hf⟩ := DataW.trod_struct Try.underlying43 h
    match xs, hxl with
    | [y0, y1], _ =>
      have g0 := hf 0 _ rfl
      have g1 := hf 1 _ rfl
      simp [cI, cR] at g0 g1
      obtain ⟨k0, e0, _, hw⟩ := DataW.trod_int Try.underlying21 g0
      obtain ⟨k1, e1, _, _⟩ := DataW.trod_int Try.underlying3 g1
      simp at e0 e1
      subst e0 e1
      exact ⟨⟨k0, k1⟩, rfl, rng_of hw⟩
set_option maxRecDepth 100000 in
theorem trod_glus {H : Type} {enc : TypeId × Value → H} {W : World} {m : Nat} {v : Value} {x : DataW H × List MemPlace} (h : DataW.trod enc Try.prog W 0 (fun _ => true) true m 32 [v] = some x) :
    ∃ (a : Option Addr) (len cap : Nat) (l : List (Int × Int)), v = .slice a len cap ∧ PairsIn .i32 a len cap l W ∧ (∀ g ∈ l, -2147483648 ≤ g.1 ∧ g.1 ≤ 2147483647) ∧ (a = none → cap = 0) := by
  rcases Deep.open_slice Try.underlying32 h with ⟨hc, _⟩ | ⟨a', len, cap, m', n', D, Pl, hc, _, hl, hcm, hmm, _, hx⟩
  · simp at hc
    subst hc
    exact ⟨none, 0, 0, [], rfl, ⟨rfl, Nat.le_refl _, by omega, .inl rfl⟩, (fun _ h => by cases h), fun _ => rfl⟩
  · simp at hc
    subst hc
    simp only [if_true] at hmm
    subst hmm
    have hcap : (m' : Int) ≤ 9223372036854775807 := by unfold maxLen at hcm; omega
    have each : ∀ i, i < len → ∃ A : Int × Int, (-2147483648 ≤ A.1 ∧ A.1 ≤ 2147483647) ∧ ∀ j u, [Value.int .i32 A.1, .int .i64 A.2][j]? = some u → W.cell? (a'.add (i * 2 + j)) = some u := by
      intro i hi
      obtain ⟨cs', h1, h2⟩ := hx i (by omega)
      rw [cGlu] at h1
      obtain ⟨_, hlen, hcell⟩ := World.cells?_some h1
      obtain ⟨A, he, hA⟩ := trod_glu h2 hlen
      refine ⟨A, hA, fun j u hj => ?_⟩
      have hj5 : j < 2 := by have := (List.getElem?_eq_some_iff.1 hj).1; simpa using this
      have f := hcell j (by omega)
      rw [Deep.add_add] at f
      rw [← he] at hj
      rw [f, hj]
    by_cases hl0 : len = 0
    · subst hl0
      exact ⟨some a', 0, m', [], rfl, ⟨rfl, by omega, hcap, .inl rfl⟩, (fun _ h => by cases h), (fun e => by cases e)⟩
    · obtain ⟨q, hq⟩ := Deep.choose_lt each
      obtain ⟨b, off, spot⟩ := a'
      have hc0 := (hq 0 (by omega)).2 0 _ rfl
      have hspot : spot = none := by simpa [Addr.add] using World.cell?_spot hc0
      subst hspot
      rw [addN] at hc0
      have hblt := World.block_lt_of_cell? W _ hc0
      refine ⟨some ⟨b, off, none⟩, len, m', (List.range len).map q, rfl, ⟨by simp, hl, hcap, .inr ⟨b, off, rfl, hblt, fun i A hA => ?_⟩⟩, (fun A hA => ?_), (fun e => by cases e)⟩
      · have hi : i < len := by have := (List.getElem?_eq_some_iff.1 hA).1; simpa using this
        have e : q i = A := by simpa [hi] using hA
        have f := (hq i hi).2
        rw [e] at f
        have fj := fun j u h => by have := f j u h; rw [addN, ← Nat.add_assoc] at this; exact this
        exact ⟨fj 0 _ rfl, fj 1 _ rfl⟩
      · obtain ⟨i, hi, rfl⟩ := List.mem_map.1 hA
        exact (hq i (List.mem_range.1 hi)).1
end Go.Proofs.Ytgagkmlkoeceiaa.C

/- What CachePlays and CacheClones are handed: acts, whose numbers are in their kind. -/
namespace Go.Proofs.Ytgagkmlkoeceiaa.C
open Go.RowKit Go.ChangeShapes Go.WideShapes Go.Proofs.Ytgagkmlkoeceiaa.H

theorem rng64 {k : Int} (h : (Lit.wf (.int .i64 k)) = true) : -9223372036854775808 ≤ k ∧ k ≤ 9223372036854775807 := by
  have e1 : IntKind.i64.min = -9223372036854775808 := by decide
  have e2 : IntKind.i64.max = 9223372036854775807 := by decide
  simp only [Lit.wf, e1, e2, Bool.and_eq_true, decide_eq_true_eq] at h
  omega
set_option maxRecDepth 100000 in
theorem trod_cactB {H : Type} {enc : TypeId × Value → H} {W : World} {m : Nat} {cs : List Value} {x : DataW H × List MemPlace} (h : DataW.trod enc Try.prog W 0 (fun _ => true) true m 34 cs = some x) (hl : cs.length = 3) :
    ∃ A : CAct, cs = [.int .i64 A.kd, .int .i64 A.i, .slice A.sa A.sn A.sc] ∧ PairsIn .i32 A.sa A.sn A.sc A.g W ∧ (A.sa = none → A.sc = 0) ∧ (∀ g ∈ A.g, -2147483648 ≤ g.1 ∧ g.1 ≤ 2147483647) ∧ -9223372036854775808 ≤ A.i ∧ A.i ≤ 9223372036854775807 := by
  match cs, hl with
  | [v0, v1, v2], _ =>
    obtain ⟨xs, n, hn, hxy, _, hxl, hf⟩ := DataW.trod_struct Try.underlying34 h
    match xs, hxl with
    | [y0, y1, y2], _ =>
      have g0 := hf 0 _ rfl
      have g1 := hf 1 _ rfl
      have g2 := hf 2 _ rfl
      simp [cI, cG] at g0 g1 g2
      obtain ⟨k0, e0, _, _⟩ := DataW.trod_int Try.underlying3 g0
      obtain ⟨k1, e1, _, hw1⟩ := DataW.trod_int Try.underlying3 g1
      obtain ⟨a, len, cap, l, rfl, h1, h2, h3⟩ := trod_glus g2
      simp at e0 e1
      subst e0 e1
      exact ⟨⟨k0, k1, a, len, cap, l⟩, rfl, h1, h3, h2, rng64 hw1⟩
set_option maxRecDepth 100000 in
theorem open_cactsB {H : Type} {enc : TypeId × Value → H} {W : World} {base : Nat} {v : Value} {x : DataW H × List MemPlace} (hv : Value.okWide Try.prog W .any base 22 v) (h : ∃ m, DataW.trod enc Try.prog W 0 (fun _ => true) true m 22 v.cells.toList = some x) :
    ∃ (a : Option Addr) (len cap : Nat) (l : List CAct), v = .slice a len cap ∧ CActsIn a len cap l W ∧ ∀ A ∈ l, -9223372036854775808 ≤ A.i ∧ A.i ≤ 9223372036854775807 := by
  obtain ⟨a, len, cap, rfl⟩ := okWide_slice Try.underlying22 hv
  obtain ⟨m, hm⟩ := h
  rcases Deep.open_slice Try.underlying22 hm with ⟨hc, _⟩ | ⟨a', len', cap', m', n', D, Pl, hc, _, hl, hcm, hmm, _, hx⟩
  · simp [Value.cells] at hc
    obtain ⟨rfl, rfl, rfl⟩ := hc
    exact ⟨none, 0, 0, [], rfl, ⟨rfl, Nat.le_refl _, by omega, .inl rfl, fun A hA => by cases hA⟩, fun A hA => by cases hA⟩
  · simp [Value.cells] at hc
    obtain ⟨rfl, rfl, rfl⟩ := hc
    simp only [if_true] at hmm
    subst hmm
    have hcap : (m' : Int) ≤ 9223372036854775807 := by unfold maxLen at hcm; omega
    have each : ∀ i, i < len → ∃ A : CAct, (PairsIn .i32 A.sa A.sn A.sc A.g W ∧ (A.sa = none → A.sc = 0) ∧ (∀ g ∈ A.g, -2147483648 ≤ g.1 ∧ g.1 ≤ 2147483647) ∧ -9223372036854775808 ≤ A.i ∧ A.i ≤ 9223372036854775807) ∧ ∀ j u, [Value.int .i64 A.kd, .int .i64 A.i, .slice A.sa A.sn A.sc][j]? = some u → W.cell? (a'.add (i * 3 + j)) = some u := by
      intro i hi
      obtain ⟨cs', h1, h2⟩ := hx i (by omega)
      rw [cCact] at h1
      obtain ⟨_, hlen, hcell⟩ := World.cells?_some h1
      obtain ⟨A, he, hA⟩ := trod_cactB h2 hlen
      refine ⟨A, hA, fun j u hj => ?_⟩
      have hj5 : j < 3 := by have := (List.getElem?_eq_some_iff.1 hj).1; simpa using this
      have f := hcell j (by omega)
      rw [Deep.add_add] at f
      rw [← he] at hj
      rw [f, hj]
    by_cases hl0 : len = 0
    · subst hl0
      exact ⟨some a', 0, m', [], rfl, ⟨rfl, by omega, hcap, .inl rfl, fun A hA => by cases hA⟩, fun A hA => by cases hA⟩
    · haveI : Inhabited CAct := ⟨⟨0, 0, none, 0, 0, []⟩⟩
      obtain ⟨q, hq⟩ := Deep.choose_lt each
      obtain ⟨b, off, spot⟩ := a'
      have hc0 := (hq 0 (by omega)).2 0 _ rfl
      have hspot : spot = none := by simpa [Addr.add] using World.cell?_spot hc0
      subst hspot
      rw [addN] at hc0
      have hblt := World.block_lt_of_cell? W _ hc0
      refine ⟨some ⟨b, off, none⟩, len, m', (List.range len).map q, rfl, ⟨by simp, hl, hcap, .inr ⟨b, off, rfl, hblt, fun i A hA => ?_⟩, fun A hA => ?_⟩, fun A hA => ?_⟩
      · have hi : i < len := by have := (List.getElem?_eq_some_iff.1 hA).1; simpa using this
        have e : q i = A := by simpa [hi] using hA
        have f := (hq i hi).2
        rw [e] at f
        have fj := fun j u h => by have := f j u h; rw [addN, ← Nat.add_assoc] at this; exact this
        exact ⟨fj 0 _ rfl, fj 1 _ rfl, fj 2 _ rfl⟩
      · obtain ⟨i, hi, rfl⟩ := List.mem_map.1 hA
        have h9 := (hq i (List.mem_range.1 hi)).1
        exact ⟨h9.1, h9.2.1, h9.2.2.1⟩
      · obtain ⟨i, hi, rfl⟩ := List.mem_map.1 hA
        exact (hq i (List.mem_range.1 hi)).1.2.2.2
end Go.Proofs.Ytgagkmlkoeceiaa.C
