/- Slices of runes that were handed in (for a seat with no []int). -/
import Derived.Test.YtmdnnpcofbhceaaDoorVArg
import Derived.Deep.Slices
import Derived.ProofKit
import Derived.Lib.MinMax
namespace Go.Proofs.YtmdnnpcofbhceaaDoor.W
open Go.RowKit Go.ChangeShapes Go.WideShapes

/-- The cells hold these runes. -/
def Rs (w : World) (b off : Nat) (zs : List Int) : Prop := ∀ i, i < zs.length → w.cell? ⟨b, off + i, none⟩ = some (.int .i32 (zs.getD i 0))
/-- The slice holds these runes. -/
def RunesIn (a : Option Addr) (len : Nat) (zs : List Int) (w : World) : Prop := len = zs.length ∧ (zs = [] ∨ ∃ b off, a = some ⟨b, off, none⟩ ∧ b < w.heap.size ∧ Rs w b off zs)
theorem RunesIn.kept {a : Option Addr} {len : Nat} {zs : List Int} {w w' : World} (h : RunesIn a len zs w) (hs : w.heap.size ≤ w'.heap.size) (hk : ∀ b off, zs ≠ [] → a = some ⟨b, off, none⟩ → b < w.heap.size → w'.heap[b]? = w.heap[b]?) : RunesIn a len zs w' := by
  refine ⟨h.1, ?_⟩
  by_cases hz : zs = []
  · exact .inl hz
  · obtain ⟨b, off, ha, hl, hi⟩ := h.2.resolve_left hz
    exact .inr ⟨b, off, ha, Nat.lt_of_lt_of_le hl hs, fun i hi' => (World.cell?_of_block (a := ⟨b, off + i, none⟩) (hk b off hz ha hl)).trans (hi i hi')⟩
theorem RunesIn.belowAll {a : Option Addr} {len : Nat} {zs : List Int} {w w' : World} (h : RunesIn a len zs w) (hb : Below w.heap.size w w') : RunesIn a len zs w' := h.kept hb.size fun b _ _ _ hl => hb.block b hl
def isRune (z : Int) : Prop := -2147483648 ≤ z ∧ z ≤ 2147483647
theorem cRune : Tryd.prog.cellsOf 21 = 1 := by kernel_rfl
/-- A slice of runes, as it is handed in. -/
structure Arg (a : Option Addr) (len cap : Nat) (zs : List Int) (w : World) : Prop where
  rs : RunesIn a len zs w
  fit : len ≤ cap
  top : (cap : Int) ≤ 9223372036854775807
  nil : a = none → len = 0 ∧ cap = 0
  ok : ∀ z ∈ zs, isRune z
theorem RunesIn.take {a : Option Addr} {len : Nat} {zs : List Int} {w : World} (h : RunesIn a len zs w) {k : Nat} (hk : k ≤ len) : RunesIn a k (zs.take k) w := by
  have hl := h.1
  refine ⟨by rw [List.length_take]; omega, ?_⟩
  rcases h.2 with e | ⟨b, off, ha, hb, hi⟩
  · left; rw [e]; simp
  · refine .inr ⟨b, off, ha, hb, fun i hi' => ?_⟩
    rw [List.length_take] at hi'
    rw [hi i (by omega)]
    simp [List.getD_eq_getElem?_getD, List.getElem?_take, show i < k by omega]
theorem Arg.belowAll {a : Option Addr} {len cap : Nat} {zs : List Int} {w w' : World} (h : Arg a len cap zs w) (hb : Below w.heap.size w w') : Arg a len cap zs w' :=
  ⟨h.rs.belowAll hb, h.fit, h.top, h.nil, h.ok⟩
set_option maxRecDepth 100000 in
theorem open_runes {H : Type} {enc : TypeId × Value → H} {W : World} {base : Nat} {v : Value} {x : DataW H × List MemPlace} (hv : Value.okWide Tryd.prog W .any base 79 v) (h : ∃ m, DataW.trod enc Tryd.prog W 0 (fun _ => true) true m 79 v.cells.toList = some x) :
    ∃ (a : Option Addr) (len cap : Nat) (zs : List Int), v = .slice a len cap ∧ Arg a len cap zs W := by
  obtain ⟨a, len, cap, rfl⟩ := okWide_slice Tryd.underlying79 hv
  obtain ⟨m, hm⟩ := h
  rcases Deep.open_slice1 Tryd.underlying79 cRune hm with ⟨hc, _⟩ | ⟨a', len', cap', m', n', V, D, Pl, hc, _, hl, hcm, hmm, _, hx⟩
  · simp [Value.cells] at hc
    obtain ⟨rfl, rfl, rfl⟩ := hc
    exact ⟨none, 0, 0, [], rfl, ⟨rfl, .inl rfl⟩, Nat.le_refl _, by omega, fun _ => ⟨rfl, rfl⟩, (fun _ h => by cases h)⟩
  · simp [Value.cells] at hc
    obtain ⟨rfl, rfl, rfl⟩ := hc
    simp only [if_true] at hmm
    subst hmm
    have hcap : (m' : Int) ≤ 9223372036854775807 := by unfold maxLen at hcm; omega
    have each : ∀ i, i < m' → ∃ z : Int, W.cell? (a'.add i) = some (.int .i32 z) ∧ isRune z := by
      intro i hi
      obtain ⟨h1, h2⟩ := hx i (by omega)
      obtain ⟨z, e, _, hw⟩ := DataW.trod_int Tryd.underlying21 h2
      simp at e
      have hb : isRune z := by
        have := hw
        simp [Lit.wf, IntKind.min, IntKind.max, IntKind.signed, IntKind.bits] at this
        unfold isRune
        omega
      exact ⟨z, by rw [h1, e], hb⟩
    by_cases hl0 : len = 0
    · subst hl0
      exact ⟨some a', 0, m', [], rfl, ⟨rfl, .inl rfl⟩, by omega, hcap, (fun e => by cases e), (fun _ h => by cases h)⟩
    · obtain ⟨q, hq⟩ := Deep.choose_lt each
      obtain ⟨b, off, spot⟩ := a'
      have hc0 := (hq 0 (by omega)).1
      have hspot : spot = none := by simpa [Addr.add] using World.cell?_spot hc0
      subst hspot
      have hadd : ∀ j, (⟨b, off, none⟩ : Addr).add j = ⟨b, off + j, none⟩ := fun j => by unfold Addr.add; split <;> simp_all
      have hblt := World.block_lt_of_cell? W _ hc0
      refine ⟨some ⟨b, off, none⟩, len, m', (List.range len).map q, rfl, ⟨by simp, .inr ⟨b, off, rfl, hblt, fun i hi => ?_⟩⟩, hl, hcap, (fun e => by cases e), fun z hz => ?_⟩
      · have hi' : i < len := by simpa using hi
        have := (hq i (by omega)).1
        rw [hadd] at this
        simp [hi', this]
      · obtain ⟨i, hi, rfl⟩ := List.mem_map.1 hz
        exact (hq i (by have := List.mem_range.1 hi; omega)).2
end Go.Proofs.YtmdnnpcofbhceaaDoor.W
