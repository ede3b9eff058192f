/- Slices of numbers that were handed in. -/
import Derived.Test.YthplghcpjmodeaaWInts
import Derived.Deep.Slices
import Derived.ProofKit
import Derived.Lib.MinMax
namespace Go.Proofs.Ythplghcpjmodeaa.W
open Go.RowKit Go.ChangeShapes Go.WideShapes

def isInt (z : Int) : Prop := -9223372036854775808 ≤ z ∧ z ≤ 9223372036854775807
theorem cIntI : Try.prog.cellsOf 3 = 1 := by kernel_rfl
/-- A slice of numbers, as it is handed in. -/
structure ArgI (a : Option Addr) (len cap : Nat) (zs : List Int) (w : World) : Prop where
  rs : IntsIn a len zs w
  lt : ∀ b ∈ blkOf a zs, b < w.heap.size
  fit : len ≤ cap
  top : (cap : Int) ≤ 9223372036854775807
  nil : a = none → len = 0 ∧ cap = 0
  ok : ∀ z ∈ zs, isInt z
theorem IntsIn.take {a : Option Addr} {len : Nat} {zs : List Int} {w : World} (h : IntsIn a len zs w) {k : Nat} (hk : k ≤ len) : IntsIn a k (zs.take k) w := by
  have hl := h.1
  refine ⟨by rw [List.length_take]; omega, ?_⟩
  rcases h.2 with e | ⟨b, off, ha, hb, hi⟩
  · left; rw [e]; simp
  · refine .inr ⟨b, off, ha, hb, fun i hi' => ?_⟩
    rw [List.length_take] at hi'
    rw [hi i (by omega)]
    simp [List.getD_eq_getElem?_getD, List.getElem?_take, show i < k by omega]
theorem ArgI.belowAll {a : Option Addr} {len cap : Nat} {zs : List Int} {w w' : World} (h : ArgI a len cap zs w) (hb : Below w.heap.size w w') : ArgI a len cap zs w' :=
  ⟨h.rs.belowAll hb, fun b hm => Nat.lt_of_lt_of_le (h.lt b hm) hb.size, h.fit, h.top, h.nil, h.ok⟩

set_option maxRecDepth 100000 in
theorem open_ints {H : Type} {enc : TypeId × Value → H} {W : World} {base : Nat} {v : Value} {x : DataW H × List MemPlace} (hv : Value.okWide Try.prog W .any base 41 v) (h : ∃ m, DataW.trod enc Try.prog W 0 (fun _ => true) true m 41 v.cells.toList = some x) :
    ∃ (a : Option Addr) (len cap : Nat) (zs : List Int), v = .slice a len cap ∧ ArgI a len cap zs W := by
  obtain ⟨a, len, cap, rfl⟩ := okWide_slice Try.underlying41 hv
  obtain ⟨m, hm⟩ := h
  rcases Deep.open_slice1 Try.underlying41 cIntI hm with ⟨hc, _⟩ | ⟨a', len', cap', m', n', V, D, Pl, hc, _, hl, hcm, hmm, _, hx⟩
  · simp [Value.cells] at hc
    obtain ⟨rfl, rfl, rfl⟩ := hc
    exact ⟨none, 0, 0, [], rfl, ⟨rfl, .inl rfl⟩, (fun _ h => by cases h), Nat.le_refl _, by omega, fun _ => ⟨rfl, rfl⟩, (fun _ h => by cases h)⟩
  · simp [Value.cells] at hc
    obtain ⟨rfl, rfl, rfl⟩ := hc
    simp only [if_true] at hmm
    subst hmm
    have hcap : (m' : Int) ≤ 9223372036854775807 := by unfold maxLen at hcm; omega
    have each : ∀ i, i < m' → ∃ z : Int, W.cell? (a'.add i) = some (.int .i64 z) ∧ isInt z := by
      intro i hi
      obtain ⟨h1, h2⟩ := hx i (by omega)
      obtain ⟨z, e, _, hw⟩ := DataW.trod_int Try.underlying3 h2
      simp at e
      have hb : isInt z := by
        have := hw
        simp [Lit.wf, IntKind.min, IntKind.max, IntKind.signed, IntKind.bits] at this
        unfold isInt
        omega
      exact ⟨z, by rw [h1, e], hb⟩
    by_cases hl0 : len = 0
    · subst hl0
      exact ⟨some a', 0, m', [], rfl, ⟨rfl, .inl rfl⟩, (fun _ h => by cases h), by omega, hcap, (fun e => by cases e), (fun _ h => by cases h)⟩
    · obtain ⟨q, hq⟩ := Deep.choose_lt each
      obtain ⟨b, off, spot⟩ := a'
      have hc0 := (hq 0 (by omega)).1
      have hspot : spot = none := by simpa [Addr.add] using World.cell?_spot hc0
      subst hspot
      have hadd : ∀ j, (⟨b, off, none⟩ : Addr).add j = ⟨b, off + j, none⟩ := fun j => by unfold Addr.add; split <;> simp_all
      have hblt := World.block_lt_of_cell? W _ hc0
      refine ⟨some ⟨b, off, none⟩, len, m', (List.range len).map q, rfl, ⟨by simp, .inr ⟨b, off, rfl, hblt, fun i hi => ?_⟩⟩, fun c hc => ?_, hl, hcap, (fun e => by cases e), fun z hz => ?_⟩
      · have hi' : i < len := by simpa using hi
        have := (hq i (by omega)).1
        rw [hadd] at this
        simp [hi', this]
      · have := blkOf_sub (zs := [0]) (fun _ => by simp) c hc
        simp [blkOf] at this
        subst this
        exact hblt
      · obtain ⟨i, hi, rfl⟩ := List.mem_map.1 hz
        exact (hq i (by have := List.mem_range.1 hi; omega)).2
end Go.Proofs.Ythplghcpjmodeaa.W
