/- Glyphs that were handed in; what the row's list gives: the spans. -/
import Derived.Test.YtjlhinofglokoaaDoorFBase
import Derived.Test.YtjlhinofglokoaaDoorLaid
import Derived.Deep.Slices
import Derived.ProofKit
namespace Go.Proofs.YtjlhinofglokoaaDoor.F
open Go.RowKit Go.ChangeShapes Go.WideShapes H

theorem cI : Tryd.prog.cellsOf 3 = 1 := by kernel_rfl
theorem cR : Tryd.prog.cellsOf 21 = 1 := by kernel_rfl
theorem rng_of {k : Int} (h : (Lit.wf (.int .i32 k)) = true) : -2147483648 ≤ k ∧ k ≤ 2147483647 := by
  simp [Lit.wf, IntKind.min, IntKind.max, IntKind.signed, IntKind.bits] at h
  omega
theorem addN (b off j : Nat) : (⟨b, off, none⟩ : Addr).add j = ⟨b, off + j, none⟩ := by unfold Addr.add; split <;> simp_all
theorem gSpans : Tryd.prog.globalNamed "tidewrack/wide.spans" = some 0 := by kernel_rfl
theorem gSpansType : (Tryd.prog.globals[0]?).map (·.type) = some 128 := by kernel_rfl
theorem cSpan : Tryd.prog.cellsOf 127 = 3 := by kernel_rfl
def spanD (x : Int × Int × Nat) : DataW Unit := .agg [.lit (.int .i32 x.1), .lit (.int .i32 x.2.1), .lit (.int .i64 (x.2.2 : Int))]
theorem spans_data : (Rows.laid_tidewrack_wide_spans : DataW Unit) = .agg (W.tab.map spanD) := rfl
theorem tab_of {rest : List (String × DataW Unit)} {V : World} (h : laidMet Tryd.prog (("tidewrack/wide.spans", Rows.laid_tidewrack_wide_spans) :: rest) V) : W.Tab V := by
  rw [spans_data] at h
  obtain ⟨cs, m, hv, hall⟩ := L.laid_head gSpans gSpansType Tryd.underlying128 h
  intro k hk
  obtain ⟨d, q, hd, ht⟩ := hall k hk
  have hkl : k < W.tab.length := hk
  have e : d = spanD (W.tab.getD k (0, 0, 0)) := by
    rw [List.getElem?_map, List.getElem?_eq_getElem hkl] at hd
    simp only [Option.map_some, Option.some.injEq] at hd
    rw [← hd]
    simp [List.getD_eq_getElem?_getD, hkl]
  subst e
  unfold spanD at ht
  rw [cSpan] at ht
  have f0 := L.trod_field Tryd.underlying127 ht 0 _ rfl Tryd.underlying21 cR rfl
  have f1 := L.trod_field Tryd.underlying127 ht 1 _ rfl Tryd.underlying21 cR rfl
  have f2 := L.trod_field Tryd.underlying127 ht 2 _ rfl Tryd.underlying3 cI rfl
  exact ⟨L.at_cell (k := k) (c := 3) (o := 0) gSpans hv (by decide) f0, L.at_cell (k := k) (c := 3) (o := 1) gSpans hv (by decide) f1, L.at_cell (k := k) (c := 3) (o := 2) gSpans hv (by decide) f2⟩

theorem cGlu : Tryd.prog.cellsOf 42 = 2 := by kernel_rfl
set_option maxRecDepth 100000 in
theorem trod_glu {H : Type} {enc : TypeId × Value → H} {W : World} {m : Nat} {cs : List Value} {x : DataW H × List MemPlace} {b0 : Nat} {f0 : Nat → Bool} {t0 : Bool} (h : DataW.trod enc Tryd.prog W b0 f0 t0 m 42 cs = some x) (hl : cs.length = 2) :
    ∃ c : Int × Int, cs = [.int .i32 c.1, .int .i64 c.2] ∧ -2147483648 ≤ c.1 ∧ c.1 ≤ 2147483647 := by
  match cs, hl with
  | [v0, v1], _ =>
    obtain ⟨xs, n, hn, hxy, _, hxl, hf⟩ := DataW.trod_struct Tryd.underlying42 h
    match xs, hxl with
    | [y0, y1], _ =>
      have g0 := hf 0 _ rfl
      have g1 := hf 1 _ rfl
      simp [cI, cR] at g0 g1
      obtain ⟨k0, e0, _, hw⟩ := DataW.trod_int Tryd.underlying21 g0
      obtain ⟨k1, e1, _, _⟩ := DataW.trod_int Tryd.underlying3 g1
      simp at e0 e1
      subst e0 e1
      exact ⟨⟨k0, k1⟩, rfl, rng_of hw⟩
set_option maxRecDepth 100000 in
theorem open_glus {H : Type} {enc : TypeId × Value → H} {W : World} {base : Nat} {v : Value} {x : DataW H × List MemPlace} (hv : Value.okWide Tryd.prog W .any base 22 v) (h : ∃ m, DataW.trod enc Tryd.prog W 0 (fun _ => true) true m 22 v.cells.toList = some x) :
    ∃ (a : Option Addr) (len cap : Nat) (l : List (Int × Int)), v = .slice a len cap ∧ PairsIn .i32 a len cap l W ∧ RngG l ∧ (a = none → cap = 0) := by
  obtain ⟨a, len, cap, rfl⟩ := okWide_slice Tryd.underlying22 hv
  obtain ⟨m, hm⟩ := h
  rcases Deep.open_slice Tryd.underlying22 hm with ⟨hc, _⟩ | ⟨a', len', cap', m', n', D, Pl, hc, _, hl, hcm, hmm, _, hx⟩
  · simp [Value.cells] at hc
    obtain ⟨rfl, rfl, rfl⟩ := hc
    exact ⟨none, 0, 0, [], rfl, ⟨rfl, Nat.le_refl _, by omega, .inl rfl⟩, (fun _ h => by cases h), fun _ => rfl⟩
  · simp [Value.cells] at hc
    obtain ⟨rfl, rfl, rfl⟩ := hc
    simp only [if_true] at hmm
    subst hmm
    have hcap : (m' : Int) ≤ 9223372036854775807 := by unfold maxLen at hcm; omega
    have each : ∀ i, i < len → ∃ A : Int × Int, (-2147483648 ≤ A.1 ∧ A.1 ≤ 2147483647) ∧ ∀ j u, [Value.int .i32 A.1, .int .i64 A.2][j]? = some u → W.cell? (a'.add (i * 2 + j)) = some u := by
      intro i hi
      obtain ⟨cs', h1, h2⟩ := hx i (by omega)
      rw [cGlu] at h1
      obtain ⟨_, hlen, hcell⟩ := World.cells?_some h1
      obtain ⟨A, he, hA⟩ := trod_glu h2 hlen
      refine ⟨A, hA, fun j u hj => ?_⟩
      have hj5 : j < 2 := by have := (List.getElem?_eq_some_iff.1 hj).1; simpa using this
      have f := hcell j (by omega)
      rw [Deep.add_add] at f
      rw [← he] at hj
      rw [f, hj]
    by_cases hl0 : len = 0
    · subst hl0
      exact ⟨some a', 0, m', [], rfl, ⟨rfl, by omega, hcap, .inl rfl⟩, (fun _ h => by cases h), (fun e => by cases e)⟩
    · obtain ⟨q, hq⟩ := Deep.choose_lt each
      obtain ⟨b, off, spot⟩ := a'
      have hc0 := (hq 0 (by omega)).2 0 _ rfl
      have hspot : spot = none := by simpa [Addr.add] using World.cell?_spot hc0
      subst hspot
      rw [addN] at hc0
      have hblt := World.block_lt_of_cell? W _ hc0
      refine ⟨some ⟨b, off, none⟩, len, m', (List.range len).map q, rfl, ⟨by simp, hl, hcap, .inr ⟨b, off, rfl, hblt, fun i A hA => ?_⟩⟩, (fun A hA => ?_), (fun e => by cases e)⟩
      · have hi : i < len := by have := (List.getElem?_eq_some_iff.1 hA).1; simpa using this
        have e : q i = A := by simpa [hi] using hA
        have f := (hq i hi).2
        rw [e] at f
        have fj := fun j u h => by have := f j u h; rw [addN, ← Nat.add_assoc] at this; exact this
        exact ⟨fj 0 _ rfl, fj 1 _ rfl⟩
      · obtain ⟨i, hi, rfl⟩ := List.mem_map.1 hA
        exact (hq i (List.mem_range.1 hi)).1
end Go.Proofs.YtjlhinofglokoaaDoor.F
