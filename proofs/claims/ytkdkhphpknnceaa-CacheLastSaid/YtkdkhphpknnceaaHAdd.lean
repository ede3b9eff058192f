/- Add of a set. -/
import Derived.Test.YtkdkhphpknnceaaMerged2
import Derived.Test.YtkdkhphpknnceaaRelD
import Derived.WalkMore
namespace Go.Proofs.Ytkdkhphpknnceaa.H
open Go.RowKit Go.Shelf

/-- what is added -/
def addsS (l xs : List Sp) : List Sp := xs.foldl addS l
theorem Nm.adds {l : List Sp} (h : Nm l) : ∀ (xs : List Sp), Nm (addsS l xs)
  | [] => h
  | x :: xs => Nm.adds (h.add x) xs
theorem KeepB.two {M L : List Nat} {w w1 w2 : World} (h : KeepB M w w1) (k : KeepB L w1 w2) (hL : ∀ p ∈ L, p ∈ M ∨ w.heap.size ≤ p) : KeepB M w w2 :=
  ⟨k.os.trans h.os, k.tape.trans h.tape, k.output.trans h.output, Nat.le_trans h.size k.size, fun i hi hn => (k.block i (Nat.lt_of_lt_of_le hi h.size) (fun hm => (hL i hm).elim hn (fun h => by omega))).trans (h.block i hi hn)⟩
theorem OwnP.at0 {rk : IntKind} {T : TypeId} {base q n c : Nat} {l : List Sp} {w : World} (h : OwnP rk T base (.slice (some ⟨q, 0, none⟩) n c) l w) : q < w.heap.size ∧ ∀ (i : Nat) (u : Sp), l[i]? = some u → w.cell? ⟨q, i * 2, none⟩ = some (.int rk u.1) ∧ w.cell? ⟨q, i * 2 + 1, none⟩ = some (.int .i64 u.2) := by
  obtain ⟨a, c', e, hI, -, -⟩ := h.shape
  obtain ⟨rfl, rfl, rfl⟩ : some ⟨q, 0, none⟩ = a ∧ n = l.length ∧ c = c' := by injection e with e1 e2 e3; exact ⟨e1, e2, e3⟩
  refine ⟨(h.ownBlock q rfl).2, fun i u hu => ?_⟩
  rcases hI.at_ with h0 | ⟨b, off, e, hlt, hi⟩
  · rw [h0] at hu; simp at hu
  · obtain ⟨rfl, rfl⟩ : q = b ∧ 0 = off := by injection e with e; injection e with e1 e2; exact ⟨e1, e2⟩
    have := hi i u hu
    simpa using this
theorem keepB_grown {w w' : World} {o : Option Nat} (hg : w.grownBy w' o) : KeepB o.toList w w' := ⟨hg.os, hg.tape, hg.output, hg.size, fun i hi hn => hg.block i hi (fun e => hn (by rw [← e]; simp))⟩
/-- the states of a drawn region with three loud operations -/
def TriS (C0 : World → Prop) (C1 C2 : Value → World → Prop) (C3 : World → Prop) (s1 s2 : Nat) : Nat → (Nat → Value) → World → Prop
  | 0, _, u => C0 u
  | 1, f, u => C1 (f s1) u
  | 2, f, u => C2 (f s2) u
  | _, _, u => C3 u
theorem TriS.cong {C0 : World → Prop} {C1 C2 : Value → World → Prop} {C3 : World → Prop} {s1 s2 k : Nat} {f f2 : Nat → Value} {u : World} (e1 : k = 1 → f s1 = f2 s1) (e2 : k = 2 → f s2 = f2 s2) (h : TriS C0 C1 C2 C3 s1 s2 k f u) : TriS C0 C1 C2 C3 s1 s2 k f2 u := by
  match k, h, e1, e2 with
  | 0, h, _, _ => exact h
  | 1, h, e1, _ => show C1 (f2 s1) u; rw [← e1 rfl]; exact h
  | 2, h, _, e2 => show C2 (f2 s2) u; rw [← e2 rfl]; exact h
  | _ + 3, h, _, _ => exact h
end Go.Proofs.Ytkdkhphpknnceaa.H
