/- Spans and acts that were handed in. -/
import Derived.Test.YtjbjflmpdmflmaaHAwk
import Derived.Deep.Slices
import Derived.ProofKit
namespace Go.Proofs.Ytjbjflmpdmflmaa.H
open Go.RowKit Go.ChangeShapes Go.WideShapes

theorem cI : Try.prog.cellsOf 3 = 1 := by kernel_rfl
theorem cB : Try.prog.cellsOf 4 = 1 := by kernel_rfl
theorem cSp : Try.prog.cellsOf 24 = 2 := by kernel_rfl
theorem cAct : Try.prog.cellsOf 31 = 3 := by kernel_rfl
theorem addN (b off j : Nat) : (⟨b, off, none⟩ : Addr).add j = ⟨b, off + j, none⟩ := by unfold Addr.add; split <;> simp_all
set_option maxRecDepth 100000 in
theorem trod_span {H : Type} {enc : TypeId × Value → H} {W : World} {m : Nat} {cs : List Value} {x : DataW H × List MemPlace} {b0 : Nat} {f0 : Nat → Bool} {t0 : Bool} (h : DataW.trod enc Try.prog W b0 f0 t0 m 24 cs = some x) (hl : cs.length = 2) :
    ∃ c : Sp, cs = [.int .i64 c.1, .int .i64 c.2] := by
  match cs, hl with
  | [v0, v1], _ =>
    obtain ⟨xs, n, hn, hxy, _, hxl, hf⟩ := DataW.trod_struct Try.underlying24 h
    match xs, hxl with
    | [y0, y1], _ =>
      have g0 := hf 0 _ rfl
      have g1 := hf 1 _ rfl
      simp [cI] at g0 g1
      obtain ⟨k0, e0, _, hw⟩ := DataW.trod_int Try.underlying3 g0
      obtain ⟨k1, e1, _, _⟩ := DataW.trod_int Try.underlying3 g1
      simp at e0 e1
      subst e0 e1
      exact ⟨⟨k0, k1⟩, rfl⟩
set_option maxRecDepth 100000 in
theorem open_span {H : Type} {enc : TypeId × Value → H} {W : World} {base : Nat} {v : Value} {x : DataW H × List MemPlace} (hv : Value.okWide Try.prog W .any base 24 v) (h : ∃ m, DataW.trod enc Try.prog W 0 (fun _ => true) true m 24 v.cells.toList = some x) :
    ∃ x1 x2 : Int, v = .agg #[.int .i64 x1, .int .i64 x2] := by
  obtain ⟨cs, rfl, hsz⟩ := okWide_struct Try.underlying24 hv
  rw [cSp] at hsz
  obtain ⟨m, hm⟩ := h
  obtain ⟨A, he⟩ := trod_span hm (by simpa [Value.cells] using hsz)
  refine ⟨A.1, A.2, ?_⟩
  congr 1
  apply Array.ext'
  simpa [Value.cells] using he
/-- acts: is it cut, and the span -/
structure SActsIn (a : Option Addr) (n c : Nat) (l : List (Bool × Sp)) (w : World) : Prop where
  len : n = l.length
  fit : n ≤ c
  top : (c : Int) ≤ 9223372036854775807
  at_ : l = [] ∨ ∃ b off, a = some ⟨b, off, none⟩ ∧ b < w.heap.size ∧ ∀ i g, l[i]? = some g → w.cell? ⟨b, off + i * 3, none⟩ = some (.bool g.1) ∧ w.cell? ⟨b, off + i * 3 + 1, none⟩ = some (.int .i64 g.2.1) ∧ w.cell? ⟨b, off + i * 3 + 2, none⟩ = some (.int .i64 g.2.2)
set_option maxRecDepth 100000 in
theorem trod_act {H : Type} {enc : TypeId × Value → H} {W : World} {m : Nat} {cs : List Value} {x : DataW H × List MemPlace} {b0 : Nat} {f0 : Nat → Bool} {t0 : Bool} (h : DataW.trod enc Try.prog W b0 f0 t0 m 31 cs = some x) (hl : cs.length = 3) :
    ∃ c : Bool × Sp, cs = [.bool c.1, .int .i64 c.2.1, .int .i64 c.2.2] := by
  match cs, hl with
  | [v0, v1, v2], _ =>
    obtain ⟨xs, n, hn, hxy, _, hxl, hf⟩ := DataW.trod_struct Try.underlying31 h
    match xs, hxl with
    | [y0, y1], _ =>
      have g0 := hf 0 _ rfl
      have g1 := hf 1 _ rfl
      simp [cB, cSp] at g0 g1
      obtain ⟨k0, e0, _⟩ := DataW.trod_bool Try.underlying4 g0
      obtain ⟨A1, e1⟩ := trod_span g1 rfl
      simp at e0 e1
      subst e0
      obtain ⟨rfl, rfl⟩ := e1
      exact ⟨⟨k0, A1⟩, rfl⟩
set_option maxRecDepth 100000 in
theorem open_sacts {H : Type} {enc : TypeId × Value → H} {W : World} {base : Nat} {v : Value} {x : DataW H × List MemPlace} (hv : Value.okWide Try.prog W .any base 22 v) (h : ∃ m, DataW.trod enc Try.prog W 0 (fun _ => true) true m 22 v.cells.toList = some x) :
    ∃ (a : Option Addr) (len cap : Nat) (l : List (Bool × Sp)), v = .slice a len cap ∧ SActsIn a len cap l W := by
  obtain ⟨a, len, cap, rfl⟩ := okWide_slice Try.underlying22 hv
  obtain ⟨m, hm⟩ := h
  rcases Deep.open_slice Try.underlying22 hm with ⟨hc, _⟩ | ⟨a', len', cap', m', n', D, Pl, hc, _, hl, hcm, hmm, _, hx⟩
  · simp [Value.cells] at hc
    obtain ⟨rfl, rfl, rfl⟩ := hc
    exact ⟨none, 0, 0, [], rfl, rfl, Nat.le_refl _, by omega, .inl rfl⟩
  · simp [Value.cells] at hc
    obtain ⟨rfl, rfl, rfl⟩ := hc
    simp only [if_true] at hmm
    subst hmm
    have hcap : (m' : Int) ≤ 9223372036854775807 := by unfold maxLen at hcm; omega
    have each : ∀ i, i < len → ∃ A : Bool × Sp, ∀ j u, [Value.bool A.1, .int .i64 A.2.1, .int .i64 A.2.2][j]? = some u → W.cell? (a'.add (i * 3 + j)) = some u := by
      intro i hi
      obtain ⟨cs', h1, h2⟩ := hx i (by omega)
      rw [cAct] at h1
      obtain ⟨_, hlen, hcell⟩ := World.cells?_some h1
      obtain ⟨A, he⟩ := trod_act h2 hlen
      refine ⟨A, fun j u hj => ?_⟩
      have hj5 : j < 3 := by have := (List.getElem?_eq_some_iff.1 hj).1; simpa using this
      have f := hcell j (by omega)
      rw [Deep.add_add] at f
      rw [← he] at hj
      rw [f, hj]
    by_cases hl0 : len = 0
    · subst hl0
      exact ⟨some a', 0, m', [], rfl, rfl, by omega, hcap, .inl rfl⟩
    · obtain ⟨q, hq⟩ := Deep.choose_lt each
      obtain ⟨b, off, spot⟩ := a'
      have hc0 := hq 0 (by omega) 0 _ rfl
      have hspot : spot = none := by simpa [Addr.add] using World.cell?_spot hc0
      subst hspot
      rw [addN] at hc0
      have hblt := World.block_lt_of_cell? W _ hc0
      refine ⟨some ⟨b, off, none⟩, len, m', (List.range len).map q, rfl, by simp, hl, hcap, .inr ⟨b, off, rfl, hblt, fun i A hA => ?_⟩⟩
      have hi : i < len := by have := (List.getElem?_eq_some_iff.1 hA).1; simpa using this
      have e : q i = A := by simpa [hi] using hA
      have f := hq i hi
      rw [e] at f
      have fj := fun j u h => by have := f j u h; rw [addN, ← Nat.add_assoc] at this; exact this
      exact ⟨fj 0 _ rfl, fj 1 _ rfl, fj 2 _ rfl⟩
end Go.Proofs.Ytjbjflmpdmflmaa.H
