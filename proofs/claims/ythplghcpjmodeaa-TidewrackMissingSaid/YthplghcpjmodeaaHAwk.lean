/- The law's awake of spans. -/
import Derived.Test.YthplghcpjmodeaaHSam
namespace Go.Proofs.Ythplghcpjmodeaa.H
open Go.RowKit

theorem ChPost.wide {b : Nat} {M : List Nat} {out : List Sp} {w w1 w' : World} {e : Ending} (h : ChPost b M out w1 e w') (hb : Below w.heap.size w w1) : ChPost b M out w e w' := by
  obtain ⟨he, M', h1, h2, h3⟩ := h
  exact ⟨he, M', h1, (KeepB.of_below hb).trans h2, fun p hp => (h3 p hp).imp id (fun h => Nat.le_trans hb.size h)⟩
theorem alloc_below (w : World) (o : Obj) : Below w.heap.size w (w.alloc o) := (Below.refl _ _).alloc (Nat.le_refl _) _
end Go.Proofs.Ythplghcpjmodeaa.H
