/- A list of masks that was handed in: what it holds. -/
import Derived.Test.YtghnkpfnpidncaaDoorTParts
import Derived.Test.YtghnkpfnpidncaaDoorRows
import Derived.Deep.Slices
import Derived.ProofKit
namespace Go.Proofs.YtghnkpfnpidncaaDoor.T
open Go.ChangeShapes Go.WideShapes

set_option maxRecDepth 100000 in
theorem open_masks {H : Type} {enc : TypeId × Value → H} {W : World} {base : Nat} {v : Value} {x : DataW H × List MemPlace} (hv : Value.okWide Tryd.prog W .any base 50 v) (h : ∃ m, DataW.trod enc Tryd.prog W 0 (fun _ => true) true m 50 v.cells.toList = some x) :
    ∃ (a : Option Addr) (len cap : Nat) (ms : List Nat), v = .slice a len cap ∧ Masks a len ms W ∧ (len : Int) ≤ 9223372036854775807 := by
  obtain ⟨a, len, cap, rfl⟩ := okWide_slice Tryd.underlying50 hv
  have c1 : Tryd.prog.cellsOf 44 = 1 := by kernel_rfl
  obtain ⟨m, hm⟩ := h
  rcases Deep.open_slice1 Tryd.underlying50 c1 hm with ⟨hc, _⟩ | ⟨a', len', cap', m', n', V, D, Pl, hc, _, hl, hcm, hmm, _, hx⟩
  · simp [Value.cells] at hc
    obtain ⟨rfl, rfl, rfl⟩ := hc
    exact ⟨none, 0, 0, [], rfl, ⟨rfl, (fun _ h => by cases h), .inl rfl⟩, by omega⟩
  · simp [Value.cells] at hc
    obtain ⟨rfl, rfl, rfl⟩ := hc
    simp only [if_true] at hmm
    subst hmm
    have hcap : (len : Int) ≤ 9223372036854775807 := by unfold maxLen at hcm; omega
    by_cases hl0 : len = 0
    · subst hl0
      exact ⟨some a', 0, m', [], rfl, ⟨rfl, (fun _ h => by cases h), .inl rfl⟩, by omega⟩
    · have each : ∀ i, i < len → ∃ z : Nat, W.cell? (a'.add i) = some (.int .u32 (z : Int)) ∧ z < 4294967296 := by
        intro i hi
        obtain ⟨h1, h2⟩ := hx i (by omega)
        obtain ⟨z, e, _, hw⟩ := DataW.trod_int Tryd.underlying44 h2
        simp at e
        have hb : 0 ≤ z ∧ z ≤ 4294967295 := by
          have := hw
          simp [Lit.wf, IntKind.min, IntKind.max, IntKind.signed, IntKind.bits] at this
          omega
        exact ⟨z.toNat, by rw [h1, e, Int.toNat_of_nonneg hb.1], by omega⟩
      obtain ⟨q, hq⟩ := Deep.choose_lt each
      obtain ⟨b, off, spot⟩ := a'
      have hc0 := (hq 0 (by omega)).1
      have hspot : spot = none := by simpa [Addr.add] using World.cell?_spot hc0
      subst hspot
      have hadd : ∀ j, (⟨b, off, none⟩ : Addr).add j = ⟨b, off + j, none⟩ := fun j => by unfold Addr.add; split <;> simp_all
      refine ⟨some ⟨b, off, none⟩, len, m', (List.range len).map q, rfl, ⟨by simp, fun m hm => ?_, .inr ⟨b, off, rfl, World.block_lt_of_cell? W _ hc0, fun i hi => ?_⟩⟩, hcap⟩
      · obtain ⟨i, hi, rfl⟩ := List.mem_map.1 hm
        exact (hq i (List.mem_range.1 hi)).2
      · have hi' : i < len := by simpa using hi
        have := (hq i hi').1
        rw [hadd] at this
        simp [hi', this]
end Go.Proofs.YtghnkpfnpidncaaDoor.T
