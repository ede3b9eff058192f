/- Lines that the cache's laws are handed. -/
import Derived.Test.YthplghcpjmodeaaCArg
import Derived.Test.YthplghcpjmodeaaCRoW
namespace Go.Proofs.Ythplghcpjmodeaa.C
open Go.RowKit Go.ChangeShapes Go.WideShapes Go.Proofs.Ythplghcpjmodeaa.H

theorem trod_line {H : Type} {enc : TypeId × Value → H} {W : World} {m : Nat} {cs : List Value} {x : DataW H × List MemPlace} (h : DataW.trod enc Try.prog W 0 (fun _ => true) true m 32 cs = some x) (hl : cs.length = 1) :
    ∃ A : LArg, cs = [.slice A.sa A.sn A.sc] ∧ PairsIn .i32 A.sa A.sn A.sc A.g W ∧ (A.sa = none → A.sc = 0) ∧ RngG A.g := by
  match cs, hl with
  | [v0], _ =>
    obtain ⟨a, len, cap, l, rfl, h1, h2, h3⟩ := trod_glus h
    exact ⟨⟨a, len, cap, l⟩, rfl, h1, h3, h2⟩
set_option maxRecDepth 100000 in
theorem open_lines {H : Type} {enc : TypeId × Value → H} {W : World} {base : Nat} {v : Value} {x : DataW H × List MemPlace} (hv : Value.okWide Try.prog W .any base 52 v) (h : ∃ m, DataW.trod enc Try.prog W 0 (fun _ => true) true m 52 v.cells.toList = some x) :
    ∃ (a : Option Addr) (len cap : Nat) (l : List LArg), v = .slice a len cap ∧ LArgsIn a len cap l W := by
  obtain ⟨a, len, cap, rfl⟩ := okWide_slice Try.underlying52 hv
  obtain ⟨m, hm⟩ := h
  rcases Deep.open_slice Try.underlying52 hm with ⟨hc, _⟩ | ⟨a', len', cap', m', n', D, Pl, hc, _, hl, hcm, hmm, _, hx⟩
  · simp [Value.cells] at hc
    obtain ⟨rfl, rfl, rfl⟩ := hc
    exact ⟨none, 0, 0, [], rfl, rfl, Nat.le_refl _, by omega, .inl rfl, fun A hA => by cases hA⟩
  · simp [Value.cells] at hc
    obtain ⟨rfl, rfl, rfl⟩ := hc
    simp only [if_true] at hmm
    subst hmm
    have hcap : (m' : Int) ≤ 9223372036854775807 := by unfold maxLen at hcm; omega
    have each : ∀ i, i < len → ∃ A : LArg, (PairsIn .i32 A.sa A.sn A.sc A.g W ∧ (A.sa = none → A.sc = 0) ∧ RngG A.g) ∧ ∀ j u, [Value.slice A.sa A.sn A.sc][j]? = some u → W.cell? (a'.add (i * 1 + j)) = some u := by
      intro i hi
      obtain ⟨cs', h1, h2⟩ := hx i (by omega)
      rw [cG] at h1
      obtain ⟨_, hlen, hcell⟩ := World.cells?_some h1
      obtain ⟨A, he, hA⟩ := trod_line h2 hlen
      refine ⟨A, hA, fun j u hj => ?_⟩
      have hj5 : j < 1 := by have := (List.getElem?_eq_some_iff.1 hj).1; simpa using this
      have f := hcell j (by omega)
      rw [Deep.add_add] at f
      rw [← he] at hj
      rw [f, hj]
    by_cases hl0 : len = 0
    · subst hl0
      exact ⟨some a', 0, m', [], rfl, rfl, by omega, hcap, .inl rfl, fun A hA => by cases hA⟩
    · haveI : Inhabited LArg := ⟨⟨none, 0, 0, []⟩⟩
      obtain ⟨q, hq⟩ := Deep.choose_lt each
      obtain ⟨b, off, spot⟩ := a'
      have hc0 := (hq 0 (by omega)).2 0 _ rfl
      have hspot : spot = none := by simpa [Addr.add] using World.cell?_spot hc0
      subst hspot
      rw [addN] at hc0
      have hblt := World.block_lt_of_cell? W _ hc0
      refine ⟨some ⟨b, off, none⟩, len, m', (List.range len).map q, rfl, by simp, hl, hcap, .inr ⟨b, off, rfl, hblt, fun i A hA => ?_⟩, fun A hA => ?_⟩
      · have hi : i < len := by have := (List.getElem?_eq_some_iff.1 hA).1; simpa using this
        have e : q i = A := by simpa [hi] using hA
        have f := (hq i hi).2
        rw [e] at f
        have fj := f 0 _ rfl
        rw [addN, Nat.mul_one, Nat.add_zero] at fj
        exact fj
      · obtain ⟨i, hi, rfl⟩ := List.mem_map.1 hA
        exact (hq i (List.mem_range.1 hi)).1
end Go.Proofs.Ythplghcpjmodeaa.C
