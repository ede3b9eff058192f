/- A region that draws its order, where the condition hangs on which operations came up already. -/
import Derived.Test.YtkdkhphpknnceaaRelT
namespace Go.Proofs.Ytkdkhphpknnceaa.R
open Go

def upd (L : Nat → Bool) (i : Nat) : Nat → Bool := fun k => if k = i then true else L k
theorem updL (listed : Array Bool) (i : Nat) (h : i < listed.size) : (fun k => (listed.setIfInBounds i true).getD k false) = upd (fun k => listed.getD k false) i := by
  funext k
  unfold upd
  rw [Array.getD_eq_getD_getElem?, Array.getElem?_setIfInBounds]
  by_cases hki : i = k
  · subst hki; rw [if_pos rfl, if_pos h, if_pos rfl]; rfl
  · rw [if_neg hki, if_neg (Ne.symm hki), ← Array.getD_eq_getD_getElem?]
theorem noneL (n : Nat) : (fun k => (Array.replicate n false).getD k false) = fun _ => false := by
  funext k
  rw [Array.getD_eq_getD_getElem?]
  by_cases h : k < n
  · simp [h]
  · simp [h]
theorem allL {n : Nat} {listed : Array Bool} (hsz : listed.size = n) (h : ∀ i, i < n → listed.getD i false = true) : (fun k => listed.getD k false) = fun k => decide (k < n) := by
  funext k
  by_cases hk : k < n
  · rw [h k hk]; simp [hk]
  · rw [Array.getD_eq_getD_getElem?, Array.getElem?_eq_none (by omega)]; simp [hk]

section
variable {P : Program} {ops : Array Oper} {Q : Exit → Act → World → Prop}
end
end Go.Proofs.Ytkdkhphpknnceaa.R
