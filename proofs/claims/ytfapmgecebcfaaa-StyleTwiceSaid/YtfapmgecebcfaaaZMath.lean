/- How a cell looks: what numbers set, its number, and numbers that make it. -/
import GoSem.Claim
namespace Go.Proofs.Ytfapmgecebcfaaa.Z

/-- A style. -/
structure Sty where
  fore : Int
  back : Int
  bold : Bool
  under : Bool
  inv : Bool
deriving DecidableEq
def Sty.zero : Sty := ⟨0, 0, false, false, false⟩
def Sty.may (s : Sty) : Prop := 0 ≤ s.fore ∧ s.fore ≤ 8 ∧ 0 ≤ s.back ∧ s.back ≤ 8
instance (s : Sty) : Decidable s.may := by unfold Sty.may; infer_instance
def colS (n first was : Int) : Int := if n = first + 9 then 0 else if first ≤ n ∧ n < first + 8 then n - first + 1 else was
def withS (s : Sty) (n : Int) : Sty :=
  if n = 0 then .zero else
  ⟨colS n 30 s.fore, colS n 40 s.back, if n = 1 then true else if n = 22 then false else s.bold, if n = 4 then true else if n = 24 then false else s.under, if n = 7 then true else if n = 27 then false else s.inv⟩
/-- how many numbers behind a 38 or 48 belong to it, if they are there -/
def tailN : List Int → Nat
  | x :: _ => if x = 5 then 2 else if x = 2 then 4 else 0
  | [] => 0
def taker (x : Int) : Prop := x = 38 ∨ x = 48
instance (x : Int) : Decidable (taker x) := by unfold taker; infer_instance
def belN (x : Int) (t : List Int) : Nat := if taker x then min (tailN t) t.length else 0
def setGo (s : Sty) (l : List Int) : Sty := match l with
  | [] => s
  | x :: t => setGo (withS s x) (t.drop (belN x t))
termination_by l.length
decreasing_by simp; omega
def setS (s : Sty) (l : List Int) : Sty := if l = [] then .zero else setGo s l
def refGo (s : Sty) : Nat → List Int → Sty
  | _, [] => s
  | k + 1, _ :: t => refGo s k t
  | 0, x :: t => if taker x then refGo s (tailN t) t else refGo (withS s x) 0 t
theorem refGo_nil (s : Sty) (k : Nat) : refGo s k [] = s := by cases k <;> rfl
theorem refGo_drop (s : Sty) : ∀ (k : Nat) (l : List Int), refGo s k l = refGo s 0 (l.drop k)
  | 0, l => by simp
  | k + 1, [] => by simp [refGo_nil]
  | k + 1, _ :: t => by simp only [refGo, List.drop_succ_cons]; exact refGo_drop s k t
theorem drop_min (t : List Int) (k : Nat) : t.drop (min k t.length) = t.drop k := by
  rcases Nat.le_total k t.length with h | h
  · rw [Nat.min_eq_left h]
  · rw [Nat.min_eq_right h, List.drop_length, List.drop_eq_nil_of_le h]
theorem withS_taker (s : Sty) (x : Int) (h : taker x) : withS s x = s := by
  obtain ⟨f, b, u, v, w⟩ := s
  rcases h with rfl | rfl <;> simp [withS, colS]
theorem setGo_eq (n : Nat) : ∀ (s : Sty) (l : List Int), l.length ≤ n → setGo s l = refGo s 0 l := by
  induction n with
  | zero =>
    intro s l h
    have : l = [] := List.length_eq_zero_iff.1 (by omega)
    subst this
    rw [setGo, refGo_nil]
  | succ n ih =>
    intro s l h
    cases l with
    | nil => rw [setGo, refGo_nil]
    | cons x t =>
      simp only [List.length_cons] at h
      rw [setGo, refGo]
      unfold belN
      by_cases hx : taker x
      · rw [if_pos hx, if_pos hx, withS_taker s x hx, drop_min, ih s _ (by simp; omega), refGo_drop s (tailN t)]
      · rw [if_neg hx, if_neg hx, List.drop_zero, ih _ _ (by omega)]
theorem set_ref (s : Sty) (l : List Int) : setS s l = if l = [] then .zero else refGo s 0 l := by
  unfold setS
  rw [setGo_eq l.length s l (Nat.le_refl _)]
/-- one more number, seen from the list's places -/
theorem setGo_step (s : Sty) (zs : List Int) (j : Nat) (h : j < zs.length) : setGo s (zs.drop j) = setGo (withS s (zs.getD j 0)) (zs.drop (j + 1 + belN (zs.getD j 0) (zs.drop (j + 1)))) := by
  rw [List.drop_eq_getElem_cons h, setGo, List.drop_drop]
  simp [List.getD_eq_getElem?_getD, h]
theorem refGo_step0 (s : Sty) (zs : List Int) (j : Nat) (h : j < zs.length) : refGo s 0 (zs.drop j) = if taker (zs.getD j 0) then refGo s (tailN (zs.drop (j + 1))) (zs.drop (j + 1)) else refGo (withS s (zs.getD j 0)) 0 (zs.drop (j + 1)) := by
  rw [List.drop_eq_getElem_cons h, refGo]
  simp [List.getD_eq_getElem?_getD, h]
theorem refGo_stepS (s : Sty) (k : Nat) (zs : List Int) (j : Nat) (h : j < zs.length) : refGo s (k + 1) (zs.drop j) = refGo s k (zs.drop (j + 1)) := by
  rw [List.drop_eq_getElem_cons h, refGo]
theorem tailN_at (zs : List Int) (j : Nat) : tailN (zs.drop j) = if h : j < zs.length then (if zs.getD j 0 = 5 then 2 else if zs.getD j 0 = 2 then 4 else 0) else 0 := by
  by_cases h : j < zs.length
  · rw [List.drop_eq_getElem_cons h, dif_pos h]
    simp [tailN, List.getD_eq_getElem?_getD, h]
  · rw [dif_neg h, List.drop_eq_nil_of_le (by omega)]
    rfl
theorem belN_le (x : Int) (t : List Int) : belN x t ≤ t.length := by
  unfold belN; split <;> omega
theorem colS_may (n first was : Int) (h : 0 ≤ was ∧ was ≤ 8) : 0 ≤ colS n first was ∧ colS n first was ≤ 8 := by
  unfold colS; split
  · omega
  · split <;> omega
theorem withS_may (s : Sty) (n : Int) (h : s.may) : (withS s n).may := by
  unfold withS
  split
  · exact ⟨by decide, by decide, by decide, by decide⟩
  · exact ⟨(colS_may _ _ _ ⟨h.1, h.2.1⟩).1, (colS_may _ _ _ ⟨h.1, h.2.1⟩).2, (colS_may _ _ _ h.2.2).1, (colS_may _ _ _ h.2.2).2⟩
theorem refGo_may : ∀ (l : List Int) (s : Sty) (k : Nat), s.may → (refGo s k l).may
  | [], s, k, h => by rw [refGo_nil]; exact h
  | x :: t, s, k + 1, h => by rw [refGo]; exact refGo_may t s k h
  | x :: t, s, 0, h => by
    rw [refGo]
    split
    · exact refGo_may t s _ h
    · exact refGo_may t _ _ (withS_may s x h)
theorem zero_may : Sty.zero.may := ⟨by decide, by decide, by decide, by decide⟩
theorem setS_may (s : Sty) (l : List Int) (h : s.may) : (setS s l).may := by
  rw [set_ref]
  split
  · exact zero_may
  · exact refGo_may l s 0 h
/-- a style's number -/
def b2 (b : Bool) (k : Int) : Int := if b then k else 0
def numS (s : Sty) : Int := if s.may then s.fore + 9 * s.back + b2 s.bold 81 + b2 s.under 162 + b2 s.inv 324 else 0
def ofN (n : Int) : Sty := ⟨n % 9, n % 81 / 9, decide (81 ≤ n % 162), decide (162 ≤ n % 324), decide (324 ≤ n)⟩
theorem numS_bound (s : Sty) : 0 ≤ numS s ∧ numS s ≤ 647 := by
  unfold numS
  split
  · rename_i h
    obtain ⟨h1, h2, h3, h4⟩ := h
    obtain ⟨f, b, u, v, w⟩ := s
    simp only at *
    cases u <;> cases v <;> cases w <;> simp [b2] <;> omega
  · omega
theorem ofN_may (n : Int) (_ : 0 ≤ n) : (ofN n).may := by
  unfold ofN Sty.may
  simp only
  omega
theorem numS_of (n : Int) (h : 0 ≤ n) (h2 : n ≤ 647) : numS (ofN n) = n := by
  unfold numS
  rw [if_pos (ofN_may n h)]
  unfold ofN b2
  simp only [decide_eq_true_eq]
  split <;> split <;> split <;> omega
theorem of_numS (s : Sty) (h : s.may) : ofN (numS s) = s := by
  unfold numS
  rw [if_pos h]
  obtain ⟨h1, h2, h3, h4⟩ := h
  obtain ⟨f, b, u, v, w⟩ := s
  simp only at *
  unfold ofN
  cases u <;> cases v <;> cases w <;> simp [b2] <;> omega
/-- the numbers that make it -/
def ordS (s : Sty) : List Int := [0] ++ (if s.bold then [1] else []) ++ (if s.under then [4] else []) ++ (if s.inv then [7] else []) ++ (if 0 < s.fore then [30 + s.fore - 1] else []) ++ (if 0 < s.back then [40 + s.back - 1] else [])
theorem not_taker_fore (f : Int) (h1 : f ≤ 8) : ¬ taker (30 + f - 1) := by unfold taker; omega
theorem not_taker_back (f : Int) (h0 : 0 < f) (h1 : f ≤ 8) : ¬ taker (40 + f - 1) := by unfold taker; omega
theorem refGo_plain (s : Sty) : ∀ (l : List Int), (∀ x ∈ l, ¬ taker x) → refGo s 0 l = l.foldl withS s
  | [], _ => refGo_nil s 0
  | x :: t, h => by
    rw [refGo, if_neg (h x (by simp)), List.foldl_cons]
    exact refGo_plain _ t fun y hy => h y (by simp [hy])
theorem ordS_plain (s : Sty) (h : s.may) : ∀ x ∈ ordS s, ¬ taker x := by
  obtain ⟨h1, h2, h3, h4⟩ := h
  intro x hx
  unfold ordS at hx
  simp only [List.mem_append] at hx
  rcases hx with ((((hx | hx) | hx) | hx) | hx) | hx
  · obtain rfl : x = 0 := by simpa using hx
    decide
  · split at hx
    · obtain rfl : x = 1 := by simpa using hx
      decide
    · cases hx
  · split at hx
    · obtain rfl : x = 4 := by simpa using hx
      decide
    · cases hx
  · split at hx
    · obtain rfl : x = 7 := by simpa using hx
      decide
    · cases hx
  · split at hx
    · obtain rfl : x = 30 + s.fore - 1 := by simpa using hx
      exact not_taker_fore _ h2
    · cases hx
  · split at hx
    · rename_i hb
      obtain rfl : x = 40 + s.back - 1 := by simpa using hx
      exact not_taker_back _ hb h4
    · cases hx
theorem w_fore (a b : Int) (u v w : Bool) (f : Int) (h0 : 0 < f) (h : f ≤ 8) : withS ⟨a, b, u, v, w⟩ (30 + f - 1) = ⟨f, b, u, v, w⟩ := by
  unfold withS colS
  rw [if_neg (by omega), if_neg (by omega), if_pos (by omega), if_neg (by omega), if_neg (by omega), if_neg (by omega), if_neg (by omega), if_neg (by omega), if_neg (by omega), if_neg (by omega), if_neg (by omega)]
  simp only [Sty.mk.injEq, and_true]
  omega
theorem w_back (a b : Int) (u v w : Bool) (f : Int) (h0 : 0 < f) (h : f ≤ 8) : withS ⟨a, b, u, v, w⟩ (40 + f - 1) = ⟨a, f, u, v, w⟩ := by
  unfold withS colS
  rw [if_neg (by omega), if_neg (by omega), if_neg (by omega), if_neg (by omega), if_pos (by omega), if_neg (by omega), if_neg (by omega), if_neg (by omega), if_neg (by omega), if_neg (by omega), if_neg (by omega)]
  simp only [Sty.mk.injEq, and_true, true_and]
  omega
theorem ord_sets (s from_ : Sty) (h : s.may) : refGo from_ 0 (ordS s) = s := by
  rw [refGo_plain _ _ (ordS_plain s h)]
  obtain ⟨h1, h2, h3, h4⟩ := h
  obtain ⟨f, b, u, v, w⟩ := s
  obtain ⟨f', b', u', v', w'⟩ := from_
  simp only at h1 h2 h3 h4
  unfold ordS
  simp only [List.foldl_append, List.foldl_cons, List.foldl_nil]
  have e0 : withS ⟨f', b', u', v', w'⟩ 0 = ⟨0, 0, false, false, false⟩ := rfl
  rw [e0]
  have e1 : List.foldl withS ⟨0, 0, false, false, false⟩ (if u = true then [1] else []) = ⟨0, 0, u, false, false⟩ := by cases u <;> rfl
  rw [e1]
  have e2 : List.foldl withS ⟨0, 0, u, false, false⟩ (if v = true then [4] else []) = ⟨0, 0, u, v, false⟩ := by cases v <;> cases u <;> rfl
  rw [e2]
  have e3 : List.foldl withS ⟨0, 0, u, v, false⟩ (if w = true then [7] else []) = ⟨0, 0, u, v, w⟩ := by cases w <;> cases v <;> cases u <;> rfl
  rw [e3]
  have e4 : List.foldl withS ⟨0, 0, u, v, w⟩ (if 0 < f then [30 + f - 1] else []) = ⟨f, 0, u, v, w⟩ := by
    split
    · rename_i hf
      rw [List.foldl_cons, List.foldl_nil, w_fore _ _ _ _ _ _ hf h2]
    · have : f = 0 := by omega
      subst this; rfl
  rw [e4]
  split
  · rename_i hb
    rw [List.foldl_cons, List.foldl_nil, w_back _ _ _ _ _ _ hb h4]
  · have : b = 0 := by omega
    subst this; rfl
end Go.Proofs.Ytfapmgecebcfaaa.Z
