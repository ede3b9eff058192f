/- The contract of cache.Spans. -/
import Derived.Test.YtkdkhphpknnceaaCSort
import Derived.Test.YtkdkhphpknnceaaHAdd
import Derived.Test.YtkdkhphpknnceaaMerged0
import Derived.Maps.RangeWalk
namespace Go.Proofs.Ytkdkhphpknnceaa.C
open Go.RowKit Go.Maps Go.Proofs.Ytkdkhphpknnceaa.H
open Go.Proofs.Ytkdkhphpknnceaa.W (OwnI IntsIn wpList_append_ints ints_one take_snoc)

theorem alloc_below (w : World) (o : Obj) : Below w.heap.size w (w.alloc o) := (Below.refl _ _).alloc (Nat.le_refl _) _
/-- the numbers that the range has handed on -/
def ColI (D : DataW Unit) (left : Lit → Bool) (zs : List Int) : Prop := zs.Nodup ∧ ∀ x, x ∈ zs ↔ (Maps.has D (kz x) = true ∧ left (kz x) = false)
theorem ColI.start (D : DataW Unit) : ColI D (Maps.has D) [] := ⟨List.nodup_nil, fun x => by cases Maps.has D (kz x) <;> simp⟩
theorem ColI.step {D : DataW Unit} {left : Lit → Bool} {zs : List Int} (h : ColI D left zs) {x : Int} {y : DataW Unit} (hl : left (kz x) = true) (hat : ∀ zd, D.atKey (kz x) zd = y) : ColI D (fun z => left z && !z.sameKey (kz x)) (zs ++ [x]) := by
  have hhas : Maps.has D (kz x) = true := has_true_of_atKey hat
  have hnew : x ∉ zs := fun hx => by have := ((h.2 x).1 hx).2; rw [hl] at this; cases this
  refine ⟨List.nodup_append.2 ⟨h.1, by simp, fun a ha b hb => by simp at hb; subst hb; exact fun e => hnew (e ▸ ha)⟩, fun y => ?_⟩
  by_cases hy : y = x
  · subst hy
    have hk : (kz y).sameKey (kz y) = true := by simp [Lit.sameKey, kz]
    simp [hhas, hk]
  · have hk : (kz y).sameKey (kz x) = false := by simp [Lit.sameKey, kz, hy]
    simp [h.2 y, hy, hk]
/-- a span of each number -/
def spI (zs : List Int) : List Sp := zs.map fun i => (i, i + 1)
/-- the spans of a cache -/
def spansC (L : List (Int × List (Int × Int))) : List Sp := addsS [] (spI (sortI (L.map (·.1))))
end Go.Proofs.Ytkdkhphpknnceaa.C
