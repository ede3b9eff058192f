/- What is true of all cells stays true of what the calls make; rows that are bounded. -/
import Derived.Test.YtmdnnpcofbhceaaDoorKMath
namespace Go.Proofs.YtmdnnpcofbhceaaDoor.K

def AllC (p : Cel → Prop) (l : List Cel) : Prop := ∀ c ∈ l, p c
section
variable {p : Cel → Prop}
theorem all_mendG (hb : ∀ s, p (blk s)) : ∀ (l : List Cel) (q : Bool), AllC p l → AllC p (mendG q l)
  | [], _, _ => fun _ hc => by cases hc
  | c :: t, q, hl => fun d hd => by
    rcases List.mem_cons.1 hd with rfl | hd
    · unfold fixC
      cases badC q c t
      · exact hl c (by simp)
      · exact hb _
    · exact all_mendG hb t _ (fun x hx => hl x (by simp [hx])) d hd
theorem all_mend (hb : ∀ s, p (blk s)) {l : List Cel} (hl : AllC p l) : AllC p (mend l) := all_mendG hb l false hl
theorem all_blanks (hb : ∀ s, p (blk s)) (n : Nat) (s : Int) : AllC p (blanks n s) := fun c hc => by rw [(List.mem_replicate.1 hc).2]; exact hb s
theorem all_append {a b : List Cel} (ha : AllC p a) (h : AllC p b) : AllC p (a ++ b) := fun c hc => by
  rcases List.mem_append.1 hc with hc | hc
  · exact ha c hc
  · exact h c hc
theorem all_take {l : List Cel} (h : AllC p l) (n : Nat) : AllC p (l.take n) := fun c hc => h c (List.mem_of_mem_take hc)
theorem all_drop {l : List Cel} (h : AllC p l) (n : Nat) : AllC p (l.drop n) := fun c hc => h c (List.mem_of_mem_drop hc)
theorem all_set {l : List Cel} (h : AllC p l) (n : Nat) {d : Cel} (hd : p d) : AllC p (l.set n d) := fun c hc => by
  rcases List.mem_or_eq_of_mem_set hc with hc | rfl
  · exact h c hc
  · exact hd
theorem all_put (hb : ∀ s, p (blk s)) {l : List Cel} (hl : AllC p l) (k : Nat) (at_ x s : Int) (hx : ∀ t, p ⟨x, s, t⟩) : AllC p (putS k l at_ x s) := by
  unfold putS
  split
  · exact all_mend hb hl
  · split
    · simp only
      refine all_mend hb ?_
      have h1 := all_set (all_set hl at_.toNat (hx 1)) (at_.toNat + 1) (hx 2)
      split
      · exact all_set h1 _ (hb _)
      · exact h1
    · exact all_mend hb (all_set hl _ (hx 0))
theorem all_erase (hb : ∀ s, p (blk s)) {l : List Cel} (hl : AllC p l) (a b s : Int) : AllC p (eraseS l a b s) := by
  refine all_mend hb (fun c hc => ?_)
  obtain ⟨i, hi, rfl⟩ := List.mem_mapIdx.1 hc
  split
  · exact hb s
  · exact hl _ (List.getElem_mem _)
theorem all_insert (hb : ∀ s, p (blk s)) {l : List Cel} (hl : AllC p l) (at_ n s : Int) : AllC p (insertS l at_ n s) := by
  unfold insertS
  split
  · exact all_mend hb hl
  · exact all_mend hb (all_append (all_append (all_take hl _) (all_blanks hb _ _)) (all_drop (all_take hl _) _))
theorem all_delete (hb : ∀ s, p (blk s)) {l : List Cel} (hl : AllC p l) (at_ n s : Int) : AllC p (deleteS l at_ n s) := by
  unfold deleteS
  split
  · exact all_mend hb hl
  · exact all_mend hb (all_append (all_append (all_take hl _) (all_drop hl _)) (all_blanks hb _ _))
theorem all_fill (hb : ∀ s, p (blk s)) {l : List Cel} (hl : AllC p l) (s : Int) (hf : p ⟨32, s, 3⟩) : AllC p (fillS l s) := by
  unfold fillS
  refine all_mend hb ?_
  split
  · exact fun _ hc => by cases hc
  · exact all_append (all_take hl _) (fun c hc => by
      obtain rfl : c = ⟨32, s, 3⟩ := by simpa using hc
      exact hf)
theorem all_resize (hb : ∀ s, p (blk s)) {r : Ro} (hl : AllC p r.l) (w : Int) : AllC p (resizeS r w).l := by
  unfold resizeS
  split
  · exact hl
  · exact all_mend hb (all_append (all_take hl _) (all_blanks hb _ _))
end
/-- a rune is one of 32 bits -/
def Rng (c : Cel) : Prop := -2147483648 ≤ c.rune ∧ c.rune ≤ 2147483647
theorem rng_blk (s : Int) : Rng (blk s) := ⟨by show (-2147483648 : Int) ≤ 32; decide, by show (32 : Int) ≤ 2147483647; decide⟩
/-- an act of the statements -/
structure ActR where
  kind : Int
  at_ : Int
  n : Int
  style : Int
  rune : Int
/-- the width that is asked for -/
def wideN (n : Int) : Int := if 60 < n ∧ n < 1000 then 60 else n
/-- what an act makes; 'of' says how many columns a rune has -/
def doS (of : Int → Nat) (r : Ro) (a : ActR) : Ro :=
  if a.kind = 0 then ⟨putS (of a.rune) r.l a.at_ a.rune a.style, false⟩
  else if a.kind = 1 then ⟨eraseS r.l a.at_ a.n a.style, false⟩
  else if a.kind = 2 then ⟨insertS r.l a.at_ a.n a.style, false⟩
  else if a.kind = 3 then ⟨deleteS r.l a.at_ a.n a.style, false⟩
  else if a.kind = 4 then ⟨fillS r.l a.style, true⟩
  else resizeS r (wideN a.n)
theorem do_rng {of : Int → Nat} {r : Ro} {a : ActR} (h : AllC Rng r.l) (ha : -2147483648 ≤ a.rune ∧ a.rune ≤ 2147483647) : AllC Rng (doS of r a).l := by
  unfold doS
  split
  · exact all_put rng_blk h _ _ _ _ (fun _ => ha)
  · split
    · exact all_erase rng_blk h _ _ _
    · split
      · exact all_insert rng_blk h _ _ _
      · split
        · exact all_delete rng_blk h _ _ _
        · split
          · exact all_fill rng_blk h _ ⟨by show (-2147483648 : Int) ≤ 32; decide, by show (32 : Int) ≤ 2147483647; decide⟩
          · exact all_resize rng_blk h _
theorem do_len {of : Int → Nat} {r : Ro} {a : ActR} (h : r.l.length ≤ 1000) : (doS of r a).l.length ≤ 1000 := by
  unfold doS
  split
  · rw [put_length]; exact h
  · split
    · rw [erase_length]; exact h
    · split
      · rw [insert_length]; exact h
      · split
        · rw [delete_length]; exact h
        · split
          · rw [fill_length]; exact h
          · rw [resize_length]; exact nearN_le _
theorem whole_do {of : Int → Nat} {r : Ro} {a : ActR} (h : Whole r.l) : Whole (doS of r a).l := by
  unfold doS
  split
  · exact whole_put _ _ _ _ _
  · split
    · exact whole_mend _
    · split
      · exact whole_insert _ _ _ _
      · split
        · exact whole_delete _ _ _ _
        · split
          · exact whole_mend _
          · exact whole_resize _ _ h
end Go.Proofs.YtmdnnpcofbhceaaDoor.K
