/- A cache's spans: how many numbers they have, and which; which line is the last. -/
import Derived.Test.YtkdkhphpknnceaaCAwk
import Derived.Test.YtkdkhphpknnceaaHTot
namespace Go.Proofs.Ytkdkhphpknnceaa.C
open Go.RowKit Go.Maps Go.Proofs.Ytkdkhphpknnceaa.H

abbrev nums (x : Ca) : List Int := x.L.map (·.1)
theorem Nm.spansC (x : Ca) : Nm (spansC x.L) := Nm.nil.adds _
/-- the cache's own numbers -/
theorem OneC.nodup {c : Nat} {x : Ca} {W w : World} (h : OneC c x W w) : (nums x).Nodup ∧ x.L.length ≤ x.most ∧ 1 ≤ x.most ∧ x.most ≤ 65536 := by
  obtain ⟨M, G, ⟨m, e, ns, h1, h2, h3⟩, -⟩ := h
  refine ⟨?_, h3⟩
  unfold nums
  rw [← h2, List.map_map]
  exact h1.num
theorem most_put (x : Ca) (i : Int) (g : List (Int × Int)) : (putC x i g).1.most = x.most := by
  unfold putC
  split
  · rfl
  · split <;> rfl
end Go.Proofs.Ytkdkhphpknnceaa.C
