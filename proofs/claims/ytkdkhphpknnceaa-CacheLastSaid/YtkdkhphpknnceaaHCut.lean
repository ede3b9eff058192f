/- Cut of a set, of one span. -/
import Derived.Test.YtkdkhphpknnceaaHAdd
namespace Go.Proofs.Ytkdkhphpknnceaa.H
open Go.RowKit Go.Shelf

attribute [local go_sem] Oper.semAt_some

/-- the states of a drawn region with two loud operations -/
def DuoS (C0 : World → Prop) (C2 : Value → World → Prop) (C3 : World → Prop) (s2 : Nat) : Nat → (Nat → Value) → World → Prop
  | 0, _, u => C0 u
  | 1, f, u => C2 (f s2) u
  | _, _, u => C3 u
theorem DuoS.cong {C0 : World → Prop} {C2 : Value → World → Prop} {C3 : World → Prop} {s2 k : Nat} {f f2 : Nat → Value} {u : World} (e2 : k = 1 → f s2 = f2 s2) (h : DuoS C0 C2 C3 s2 k f u) : DuoS C0 C2 C3 s2 k f2 u := by
  match k, h, e2 with
  | 0, h, _ => exact h
  | 1, h, e2 => show C2 (f2 s2) u; rw [← e2 rfl]; exact h
  | _ + 2, h, _ => exact h
theorem DuoS.base {w6 : World} {C2 : Value → World → Prop} {C3 : World → Prop} {s2 k : Nat} {f : Nat → Value} {u : World} (hk : k = 0) (h : DuoS (fun u => Below w6.heap.size w6 u) C2 C3 s2 k f u) : Below w6.heap.size w6 u := by
  subst hk
  exact h
end Go.Proofs.Ytkdkhphpknnceaa.H
