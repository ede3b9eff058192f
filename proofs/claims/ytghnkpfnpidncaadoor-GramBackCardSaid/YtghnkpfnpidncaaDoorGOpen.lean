/- A datagram that was handed in: what it holds. -/
import Derived.Test.YtghnkpfnpidncaaDoorGBase
import Derived.Test.YtghnkpfnpidncaaDoorRows
import Derived.Deep.Slices
import Derived.ProofKit
namespace Go.Proofs.YtghnkpfnpidncaaDoor.G
open Go.ChangeShapes Go.WideShapes Go.Proofs.YtghnkpfnpidncaaDoor.I

set_option maxRecDepth 100000 in
theorem open_gram {H : Type} {enc : TypeId × Value → H} {W : World} {base : Nat} {v : Value} {x : DataW H × List MemPlace} (hv : Value.okWide Tryd.prog W .any base 24 v) (h : ∃ m, DataW.trod enc Tryd.prog W 0 (fun _ => true) true m 24 v.cells.toList = some x) :
    ∃ (e k : Int) (a : Option Addr) (len cap : Nat) (d : ByteArray) (zs : List Int), v = gramV e k a len cap d ∧ NumsIn a len zs W ∧ len ≤ cap ∧ (cap : Int) ≤ 9223372036854775807 ∧ (d.size : Int) ≤ 9223372036854775807 := by
  obtain ⟨cs, rfl, hsz⟩ := okWide_struct Tryd.underlying24 hv
  have c4 : Tryd.prog.cellsOf 24 = 4 := by kernel_rfl
  have c1 : Tryd.prog.cellsOf 3 = 1 := by kernel_rfl
  have c2 : Tryd.prog.cellsOf 22 = 1 := by kernel_rfl
  have c3 : Tryd.prog.cellsOf 9 = 1 := by kernel_rfl
  rw [c4] at hsz
  obtain ⟨m, hm⟩ := h
  obtain ⟨l⟩ := cs
  match l, hsz with
  | [v0, v1, v2, v3], _ =>
    simp only [Value.cells] at hm
    obtain ⟨xs, n, hn, hxy, _, hxl, hf⟩ := DataW.trod_struct Tryd.underlying24 hm
    match xs, hxl with
    | [y0, y1, y2, y3], _ =>
      have g0 := hf 0 _ rfl
      have g1 := hf 1 _ rfl
      have g2 := hf 2 _ rfl
      have g3 := hf 3 _ rfl
      simp [c1, c2, c3] at g0 g1 g2 g3
      obtain ⟨k0, e0, _, _⟩ := DataW.trod_int Tryd.underlying3 g0
      obtain ⟨k1, e1, _, _⟩ := DataW.trod_int Tryd.underlying3 g1
      obtain ⟨t3, e3, _, ht3⟩ := DataW.trod_string Tryd.underlying9 g3
      simp at e0 e1 e3
      subst e0 e1 e3
      have hd : (t3.size : Int) ≤ 9223372036854775807 := by unfold maxLen at ht3; omega
      rcases Deep.open_slice1 Tryd.underlying22 c1 g2 with ⟨hc, _⟩ | ⟨a', len', cap', m', n', V, D, Pl, hc, _, hl, hcm, hmm, _, hx⟩
      · simp at hc
        subst hc
        exact ⟨k0, k1, none, 0, 0, t3, [], rfl, ⟨rfl, .inl rfl⟩, Nat.le_refl _, by omega, hd⟩
      · simp at hc
        subst hc
        simp only [if_true] at hmm
        subst hmm
        have hcap : (m' : Int) ≤ 9223372036854775807 := by unfold maxLen at hcm; omega
        by_cases hl0 : len' = 0
        · subst hl0
          exact ⟨k0, k1, some a', 0, m', t3, [], rfl, ⟨rfl, .inl rfl⟩, by omega, hcap, hd⟩
        · have each : ∀ i, i < len' → ∃ z : Int, W.cell? (a'.add i) = some (.int .i64 z) := by
            intro i hi
            obtain ⟨h1, h2⟩ := hx i (by omega)
            obtain ⟨z, e, _, _⟩ := DataW.trod_int Tryd.underlying3 h2
            simp at e
            exact ⟨z, by rw [h1, e]⟩
          obtain ⟨q, hq⟩ := Deep.choose_lt each
          obtain ⟨b, off, spot⟩ := a'
          have hc0 := hq 0 (by omega)
          have hspot : spot = none := by simpa [Addr.add] using World.cell?_spot hc0
          subst hspot
          have hadd : ∀ j, (⟨b, off, none⟩ : Addr).add j = ⟨b, off + j, none⟩ := fun j => by unfold Addr.add; split <;> simp_all
          refine ⟨k0, k1, some ⟨b, off, none⟩, len', m', t3, (List.range len').map q, rfl, ⟨by simp, .inr ⟨b, off, rfl, World.block_lt_of_cell? W _ hc0, fun i hi => ?_⟩⟩, hl, hcap, hd⟩
          have hi' : i < len' := by simpa using hi
          have := hq i hi'
          rw [hadd] at this
          simp [hi', this]
end Go.Proofs.YtghnkpfnpidncaaDoor.G
