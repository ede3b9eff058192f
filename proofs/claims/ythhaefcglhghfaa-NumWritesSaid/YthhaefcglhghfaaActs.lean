/- A list of acts that was handed in: what its cells hold. -/
import Derived.Test.YthhaefcglhghfaaRows
import Derived.Deep.Slices
namespace Go.Proofs.Ythhaefcglhghfaa
open Go.ChangeShapes Go.WideShapes

/-- An act. -/
structure ActOf where
  kind : Int
  n : Int
  text : ByteArray
  deriving Inhabited
/-- The acts: their cells. -/
def Acts (w : World) (b off : Nat) (al : List ActOf) : Prop := ∀ i, i < al.length → w.cell? ⟨b, off + i * 3, none⟩ = some (.int .i64 (al.getD i default).kind) ∧ w.cell? ⟨b, off + i * 3 + 1, none⟩ = some (.int .i64 (al.getD i default).n) ∧ w.cell? ⟨b, off + i * 3 + 2, none⟩ = some (.string (al.getD i default).text)
theorem open_acts {H : Type} {enc : TypeId × Value → H} {W : World} {a : Option Addr} {len cap fuel : Nat} {x : DataW H × List MemPlace} (h : DataW.trod enc Try.prog W 0 (fun _ => true) true fuel 22 (Value.slice a len cap).cells.toList = some x) :
    len = 0 ∨ ∃ b off al, a = some ⟨b, off, none⟩ ∧ len ≤ al.length ∧ b < W.heap.size ∧ Acts W b off al ∧ (∀ i, (((al.getD i default).text.size : Nat) : Int) ≤ 9223372036854775807) := by
  rcases Deep.open_slice Try.underlying22 h with ⟨hc, _⟩ | ⟨a', len', cap', m, n, D, Pl, hc, _, hl, hm, hmm, _, hx⟩
  · simp [Value.cells] at hc
    exact .inl hc.2.1
  · simp [Value.cells] at hc
    obtain ⟨rfl, rfl, rfl⟩ := hc
    simp only [if_true] at hmm
    subst hmm
    by_cases hl0 : len = 0
    · exact .inl hl0
    right
    have c3 : Try.prog.cellsOf 28 = 3 := by kernel_rfl
    have c1 : Try.prog.cellsOf 3 = 1 := by kernel_rfl
    have c9 : Try.prog.cellsOf 9 = 1 := by kernel_rfl
    have each : ∀ i, i < len → ∃ A : ActOf, W.cell? (a'.add (i * 3)) = some (.int .i64 A.kind) ∧ W.cell? (a'.add (i * 3 + 1)) = some (.int .i64 A.n) ∧ W.cell? (a'.add (i * 3 + 2)) = some (.string A.text) ∧ A.text.size ≤ maxLen := by
      intro i hi
      obtain ⟨cs', h1, h2⟩ := hx i (by omega)
      rw [c3] at h1
      obtain ⟨_, hlen, hcell⟩ := World.cells?_some h1
      obtain ⟨xs, k, hk, hxy, _, hxl, hf⟩ := DataW.trod_struct Try.underlying28 h2
      match xs, hxl, cs', hlen with
      | [y0, y1, y2], _, [v0, v1, v2], _ =>
        have g0 := hf 0 _ rfl
        have g1 := hf 1 _ rfl
        have g2 := hf 2 _ rfl
        simp [c1, c9] at g0 g1 g2
        obtain ⟨k0, e0, _, _⟩ := DataW.trod_int Try.underlying3 g0
        obtain ⟨k1, e1, _, _⟩ := DataW.trod_int Try.underlying3 g1
        obtain ⟨t2, e2, _, ht⟩ := DataW.trod_string Try.underlying9 g2
        simp at e0 e1 e2
        subst e0 e1 e2
        have f0 := hcell 0 (by omega)
        have f1 := hcell 1 (by omega)
        have f2 := hcell 2 (by omega)
        rw [Deep.add_add] at f0 f1 f2
        exact ⟨⟨k0, k1, t2⟩, by simpa using f0, by simpa using f1, by simpa using f2, ht⟩
    obtain ⟨q, hq⟩ := Deep.choose_lt each
    obtain ⟨b, off, spot⟩ := a'
    have hc0 := (hq 0 (by omega)).1
    have hspot : spot = none := by simpa [Addr.add] using World.cell?_spot hc0
    subst hspot
    have hadd : ∀ j, (⟨b, off, none⟩ : Addr).add j = ⟨b, off + j, none⟩ := fun j => by unfold Addr.add; split <;> simp_all
    have hget : ∀ i, i < len → ((List.range len).map q).getD i default = q i := fun i hi => by simp [hi]
    refine ⟨b, off, (List.range len).map q, rfl, by simp, World.block_lt_of_cell? W _ hc0, fun i hi => ?_, fun i => ?_⟩
    · have hi' : i < len := by simpa using hi
      obtain ⟨h1, h2, h3, _⟩ := hq i hi'
      rw [hget i hi']
      rw [hadd] at h1 h2 h3
      exact ⟨h1, h2, h3⟩
    · by_cases hi : i < len
      · rw [hget i hi]
        have := (hq i hi).2.2.2
        unfold maxLen at this
        omega
      · have e : ((List.range len).map q).getD i default = default := by simp [hi]
        rw [e]
        decide
end Go.Proofs.Ythhaefcglhghfaa
