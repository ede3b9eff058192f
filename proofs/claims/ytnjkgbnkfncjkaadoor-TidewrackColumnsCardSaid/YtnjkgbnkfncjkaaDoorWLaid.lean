/- What the row's list gives: the spans. And slices of runes that were handed in. -/
import Derived.Test.YtnjkgbnkfncjkaaDoorWArg
import Derived.Test.YtnjkgbnkfncjkaaDoorLaid
import Derived.Deep.Slices
import Derived.ProofKit
namespace Go.Proofs.YtnjkgbnkfncjkaaDoor.W
open Go.ChangeShapes Go.WideShapes

theorem gSpans : Tryd.prog.globalNamed "tidewrack/wide.spans" = some 0 := by kernel_rfl
theorem gSpansType : (Tryd.prog.globals[0]?).map (·.type) = some 57 := by kernel_rfl
theorem cSpan : Tryd.prog.cellsOf 56 = 3 := by kernel_rfl
theorem cRune : Tryd.prog.cellsOf 21 = 1 := by kernel_rfl
theorem cInt : Tryd.prog.cellsOf 3 = 1 := by kernel_rfl
def spanD (x : Int × Int × Nat) : DataW Unit := .agg [.lit (.int .i32 x.1), .lit (.int .i32 x.2.1), .lit (.int .i64 (x.2.2 : Int))]
theorem spans_data : (Rows.laid_tidewrack_wide_spans : DataW Unit) = .agg (tab.map spanD) := rfl
theorem tab_of {rest : List (String × DataW Unit)} {W : World} (h : laidMet Tryd.prog (("tidewrack/wide.spans", Rows.laid_tidewrack_wide_spans) :: rest) W) : Tab W := by
  rw [spans_data] at h
  obtain ⟨cs, m, hv, hall⟩ := L.laid_head gSpans gSpansType Tryd.underlying57 h
  intro k hk
  obtain ⟨d, q, hd, ht⟩ := hall k hk
  have hkl : k < tab.length := hk
  have e : d = spanD (tab.getD k (0, 0, 0)) := by
    rw [List.getElem?_map, List.getElem?_eq_getElem hkl] at hd
    simp only [Option.map_some, Option.some.injEq] at hd
    rw [← hd]
    simp [List.getD_eq_getElem?_getD, hkl]
  subst e
  unfold spanD at ht
  rw [cSpan] at ht
  have f0 := L.trod_field Tryd.underlying56 ht 0 _ rfl Tryd.underlying21 cRune rfl
  have f1 := L.trod_field Tryd.underlying56 ht 1 _ rfl Tryd.underlying21 cRune rfl
  have f2 := L.trod_field Tryd.underlying56 ht 2 _ rfl Tryd.underlying3 cInt rfl
  exact ⟨L.at_cell (k := k) (c := 3) (o := 0) gSpans hv (by decide) f0, L.at_cell (k := k) (c := 3) (o := 1) gSpans hv (by decide) f1, L.at_cell (k := k) (c := 3) (o := 2) gSpans hv (by decide) f2⟩

set_option maxRecDepth 100000 in
theorem open_runes {H : Type} {enc : TypeId × Value → H} {W : World} {base : Nat} {v : Value} {x : DataW H × List MemPlace} (hv : Value.okWide Tryd.prog W .any base 26 v) (h : ∃ m, DataW.trod enc Tryd.prog W 0 (fun _ => true) true m 26 v.cells.toList = some x) :
    ∃ (a : Option Addr) (len cap : Nat) (zs : List Int), v = .slice a len cap ∧ Arg a len cap zs W := by
  obtain ⟨a, len, cap, rfl⟩ := okWide_slice Tryd.underlying26 hv
  obtain ⟨m, hm⟩ := h
  rcases Deep.open_slice1 Tryd.underlying26 cRune hm with ⟨hc, _⟩ | ⟨a', len', cap', m', n', V, D, Pl, hc, _, hl, hcm, hmm, _, hx⟩
  · simp [Value.cells] at hc
    obtain ⟨rfl, rfl, rfl⟩ := hc
    exact ⟨none, 0, 0, [], rfl, ⟨rfl, .inl rfl⟩, (fun _ h => by cases h), Nat.le_refl _, by omega, fun _ => ⟨rfl, rfl⟩, (fun _ h => by cases h)⟩
  · simp [Value.cells] at hc
    obtain ⟨rfl, rfl, rfl⟩ := hc
    simp only [if_true] at hmm
    subst hmm
    have hcap : (m' : Int) ≤ 9223372036854775807 := by unfold maxLen at hcm; omega
    have each : ∀ i, i < m' → ∃ z : Int, W.cell? (a'.add i) = some (.int .i32 z) ∧ isRune z := by
      intro i hi
      obtain ⟨h1, h2⟩ := hx i (by omega)
      obtain ⟨z, e, _, hw⟩ := DataW.trod_int Tryd.underlying21 h2
      simp at e
      have hb : isRune z := by
        have := hw
        simp [Lit.wf, IntKind.min, IntKind.max, IntKind.signed, IntKind.bits] at this
        unfold isRune
        omega
      exact ⟨z, by rw [h1, e], hb⟩
    by_cases hl0 : len = 0
    · subst hl0
      exact ⟨some a', 0, m', [], rfl, ⟨rfl, .inl rfl⟩, (fun _ h => by cases h), by omega, hcap, (fun e => by cases e), (fun _ h => by cases h)⟩
    · obtain ⟨q, hq⟩ := Deep.choose_lt each
      obtain ⟨b, off, spot⟩ := a'
      have hc0 := (hq 0 (by omega)).1
      have hspot : spot = none := by simpa [Addr.add] using World.cell?_spot hc0
      subst hspot
      have hadd : ∀ j, (⟨b, off, none⟩ : Addr).add j = ⟨b, off + j, none⟩ := fun j => by unfold Addr.add; split <;> simp_all
      have hblt := World.block_lt_of_cell? W _ hc0
      refine ⟨some ⟨b, off, none⟩, len, m', (List.range len).map q, rfl, ⟨by simp, .inr ⟨b, off, rfl, hblt, fun i hi => ?_⟩⟩, fun c hc => ?_, hl, hcap, (fun e => by cases e), fun z hz => ?_⟩
      · have hi' : i < len := by simpa using hi
        have := (hq i (by omega)).1
        rw [hadd] at this
        simp [hi', this]
      · have := blkOf_sub (zs := [0]) (fun _ => by simp) c hc
        simp [blkOf] at this
        subst this
        exact hblt
      · obtain ⟨i, hi, rfl⟩ := List.mem_map.1 hz
        exact (hq i (by have := List.mem_range.1 hi; omega)).2
end Go.Proofs.YtnjkgbnkfncjkaaDoor.W
