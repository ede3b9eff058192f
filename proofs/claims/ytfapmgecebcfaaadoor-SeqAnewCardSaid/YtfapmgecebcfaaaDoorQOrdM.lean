/- What stands ahead of a command's last byte: byte by byte, and all at once. -/
import Derived.Test.YtfapmgecebcfaaaDoorQMath
namespace Go.Proofs.YtfapmgecebcfaaaDoor.Q

def push (l : List Int) (n : Int) : List Int := if l.length < 16 then l ++ [n] else l
def ordGo : Int → List Int → List UInt8 → Option (List Int)
  | n, l, [] => some (push l n)
  | n, l, c :: t => if 48 ≤ c.toNat ∧ c.toNat ≤ 57 then ordGo (min 9999 (10 * n + (c.toNat : Int) - 48)) l t else if c.toNat = 59 ∨ c.toNat = 58 then ordGo 0 (push l n) t else none
def ordTail (pr : Bool) (s : List UInt8) (b : Nat) : List Say := if s = [] then [cmd b pr []] else match ordGo 0 [] s with
  | none => []
  | some l => [cmd b pr l]
def ordS (s : List UInt8) (b : Nat) : List Say := match s with
  | c :: t => if c.toNat = 63 then ordTail true t b else ordTail false s b
  | [] => ordTail false [] b
/-- a byte that does not end a command -/
def midB (c : UInt8) : Prop := c.toNat < 64 ∨ 127 < c.toNat
def foldC : PS → List UInt8 → PS
  | p, [] => p
  | p, c :: t => foldC (cmdS p c.toNat).1 t
theorem foldC_snoc : ∀ (s : List UInt8) (p : PS) (c : UInt8), foldC p (s ++ [c]) = (cmdS (foldC p s) c.toNat).1
  | [], _, _ => rfl
  | x :: s, p, c => foldC_snoc s _ c
def answer (pr : Bool) (b : Nat) : Option (List Int) → List Say
  | none => []
  | some l => [cmd b pr l]
theorem fin_wrong {p : PS} (h : p.wrong = true) (b : Nat) : (finS p b).2 = [] := by unfold finS; simp [h]
theorem fin_numbered {p : PS} (h : p.wrong = false) (hn : p.numbered = true) (b : Nat) : (finS p b).2 = [cmd b p.priv (push p.nums p.number)] := by
  unfold finS keepS push; simp [h, hn]
theorem fin_plain {p : PS} (h : p.wrong = false) (hn : p.numbered = false) (b : Nat) : (finS p b).2 = [cmd b p.priv p.nums] := by
  unfold finS; simp [h, hn]
theorem cmd_digit (p : PS) {c : Nat} (h : 48 ≤ c ∧ c ≤ 57) : cmdS p c = ({ p with begun := true, number := min (10 * p.number + ((c : Int) - 48)) 9999, numbered := true }, []) := by
  unfold cmdS; rw [if_pos h]
theorem cmd_sep (p : PS) {c : Nat} (h : c = 59 ∨ c = 58) : cmdS p c = ({ keepS { p with begun := true } with numbered := true }, []) := by
  unfold cmdS; rw [if_neg (by omega), if_pos h]
theorem cmd_wrong (p : PS) {c : Nat} (h1 : ¬ (48 ≤ c ∧ c ≤ 57)) (h2 : ¬ (c = 59 ∨ c = 58)) (h3 : ¬ (c = 63 ∧ p.begun = false)) (h4 : c < 64 ∨ 127 < c) : cmdS p c = ({ p with begun := true, wrong := true }, []) := by
  unfold cmdS; rw [if_neg h1, if_neg h2, if_neg h3, if_pos h4]
theorem cmd_priv (p : PS) {c : Nat} (h1 : c = 63) (h2 : p.begun = false) : cmdS p c = ({ p with begun := true, priv := true }, []) := by
  unfold cmdS; rw [if_neg (by omega), if_neg (by omega), if_pos ⟨h1, h2⟩]
theorem cmd_mid_none (p : PS) {c : UInt8} (h : midB c) : (cmdS p c.toNat).2 = [] := by
  unfold cmdS
  unfold midB at h
  split
  · rfl
  · split
    · rfl
    · split
      · rfl
      · rfl
theorem cmd_keeps_wrong (p : PS) {c : UInt8} (h : midB c) (hw : p.wrong = true) : (cmdS p c.toNat).1.wrong = true := by
  unfold cmdS
  unfold midB at h
  split
  · exact hw
  · split
    · exact hw
    · split
      · exact hw
      · rfl
theorem fold_wrong : ∀ (t : List UInt8) (p : PS), (∀ c ∈ t, midB c) → p.wrong = true → (foldC p t).wrong = true
  | [], _, _, h => h
  | c :: t, p, hm, h => fold_wrong t _ (fun x hx => hm x (by simp [hx])) (cmd_keeps_wrong p (hm c (by simp)) h)
theorem min_swap (a b : Int) : min (10 * a + (b - 48)) 9999 = min 9999 (10 * a + b - 48) := by omega
theorem fold_numbered (b : Nat) : ∀ (t : List UInt8) (p : PS), (∀ c ∈ t, midB c) → p.begun = true → p.numbered = true → p.wrong = false → (finS (foldC p t) b).2 = answer p.priv b (ordGo p.number p.nums t)
  | [], p, _, _, hn, hw => by rw [foldC, fin_numbered hw hn]; rfl
  | c :: t, p, hm, hb, hn, hw => by
    have hm' : ∀ x ∈ t, midB x := fun x hx => hm x (by simp [hx])
    rw [foldC, ordGo]
    by_cases h1 : 48 ≤ c.toNat ∧ c.toNat ≤ 57
    · rw [if_pos h1, cmd_digit p h1]
      refine (fold_numbered b t { p with begun := true, number := min (10 * p.number + ((c.toNat : Int) - 48)) 9999, numbered := true } hm' rfl rfl hw).trans ?_
      simp only
      rw [min_swap]
    · rw [if_neg h1]
      by_cases h2 : c.toNat = 59 ∨ c.toNat = 58
      · rw [if_pos h2, cmd_sep p h2]
        exact (fold_numbered b t { keepS { p with begun := true } with numbered := true } hm' rfl rfl hw).trans rfl
      · rw [if_neg h2, cmd_wrong p h1 h2 (fun e => by rw [hb] at e; exact absurd e.2 (by decide)) (hm c (by simp))]
        exact (fin_wrong (fold_wrong t { p with begun := true, wrong := true } hm' rfl) b).trans rfl
theorem tail_eq (b : Nat) (p : PS) (t : List UInt8) (hm : ∀ c ∈ t, midB c) (hb : p.begun = true ∨ (∀ c, t.head? = some c → c.toNat ≠ 63)) (hn : p.numbered = false) (hw : p.wrong = false) (hnum : p.number = 0) (hnums : p.nums = []) : (finS (foldC p t) b).2 = ordTail p.priv t b := by
  cases t with
  | nil => rw [foldC, fin_plain hw hn, hnums]; rfl
  | cons c t =>
    have hm' : ∀ x ∈ t, midB x := fun x hx => hm x (by simp [hx])
    unfold ordTail
    rw [if_neg (by simp), foldC, ordGo]
    by_cases h1 : 48 ≤ c.toNat ∧ c.toNat ≤ 57
    · rw [if_pos h1, cmd_digit p h1]
      refine (fold_numbered b t { p with begun := true, number := min (10 * p.number + ((c.toNat : Int) - 48)) 9999, numbered := true } hm' rfl rfl hw).trans ?_
      simp only
      rw [min_swap, hnum, hnums]
      cases ordGo (min 9999 (10 * 0 + (c.toNat : Int) - 48)) [] t <;> rfl
    · rw [if_neg h1]
      by_cases h2 : c.toNat = 59 ∨ c.toNat = 58
      · rw [if_pos h2, cmd_sep p h2]
        refine (fold_numbered b t { keepS { p with begun := true } with numbered := true } hm' rfl rfl hw).trans ?_
        have e : (keepS { p with begun := true }).nums = push [] 0 := by unfold keepS push; simp [hnums, hnum]
        simp only [e]
        show answer p.priv b (ordGo 0 (push [] 0) t) = _
        cases ordGo 0 (push [] 0) t <;> rfl
      · rw [if_neg h2, cmd_wrong p h1 h2 (fun e => by
          rcases hb with h | h
          · rw [h] at e; exact absurd e.2 (by decide)
          · exact h c rfl e.1) (hm c (by simp))]
        exact fin_wrong (fold_wrong t { p with begun := true, wrong := true } hm' rfl) b
theorem order_eq (b : Nat) (s : List UInt8) (hm : ∀ c ∈ s, midB c) : (finS (foldC (fresh 3) s) b).2 = ordS s b := by
  unfold ordS
  cases s with
  | nil => exact tail_eq b (fresh 3) [] hm (.inr (fun c h => by cases h)) rfl rfl rfl rfl
  | cons c t =>
    simp only
    by_cases h : c.toNat = 63
    · rw [if_pos h, foldC, cmd_priv (fresh 3) h rfl]
      exact tail_eq b _ t (fun x hx => hm x (by simp [hx])) (.inl rfl) rfl rfl rfl rfl
    · rw [if_neg h]
      exact tail_eq b (fresh 3) (c :: t) hm (.inr (fun x hx => by cases hx; exact h)) rfl rfl rfl rfl
theorem fin_begun (p : PS) (b : Nat) : (finS { p with begun := true } b).2 = (finS p b).2 := by
  unfold finS keepS
  simp only
  split
  · rfl
  · split <;> rfl
end Go.Proofs.YtfapmgecebcfaaaDoor.Q
