/- Rows of cells: what each call makes of them, cell by cell. -/
import GoSem.Claim
namespace Go.Proofs.YtmdnnpcofbhceaaDoor.K

/-- A cell. -/
structure Cel where
  rune : Int
  style : Int
  part : Int
deriving DecidableEq
def blk (s : Int) : Cel := ⟨32, s, 0⟩
/-- A row. -/
structure Ro where
  l : List Cel
  wrapped : Bool
deriving DecidableEq
/-- what is wrong with a cell, behind 'p' (is a Left ahead of it?) and ahead of t -/
def badC (p : Bool) (c : Cel) (t : List Cel) : Bool :=
  if c.part = 1 then (match t with | d :: _ => decide (d.part ≠ 2) | [] => true)
  else if c.part = 2 then !p
  else if c.part = 3 then (match t with | _ :: _ => true | [] => false)
  else false
def fixC (p : Bool) (c : Cel) (t : List Cel) : Cel := if badC p c t then blk c.style else c
def mendG : Bool → List Cel → List Cel
  | _, [] => []
  | p, c :: t => fixC p c t :: mendG (decide ((fixC p c t).part = 1)) t
def mend (l : List Cel) : List Cel := mendG false l
theorem mendG_length : ∀ (l : List Cel) (p : Bool), (mendG p l).length = l.length
  | [], _ => rfl
  | c :: t, p => by simp [mendG, mendG_length t]
theorem mend_length (l : List Cel) : (mend l).length = l.length := mendG_length l false
theorem blk_part (s : Int) : (blk s).part = 0 := rfl
theorem fix_part (p : Bool) (c : Cel) (t : List Cel) : (fixC p c t).part = 0 ∨ (fixC p c t) = c ∧ badC p c t = false := by
  unfold fixC
  cases h : badC p c t
  · exact .inr ⟨rfl, rfl⟩
  · exact .inl rfl
theorem bad_zero {p : Bool} {c : Cel} {t : List Cel} (h : c.part = 0) : badC p c t = false := by
  unfold badC
  rw [if_neg (by omega), if_neg (by omega), if_neg (by omega)]
theorem fix_zero {p : Bool} {c : Cel} {t : List Cel} (h : c.part = 0) : fixC p c t = c := by
  unfold fixC; rw [bad_zero h]; rfl
/-- what is mended stays -/
theorem mendG_idem : ∀ (l : List Cel) (p : Bool), mendG p (mendG p l) = mendG p l
  | [], _ => rfl
  | c :: t, p => by
    have hkey : fixC p (fixC p c t) (mendG (decide ((fixC p c t).part = 1)) t) = fixC p c t := by
      rcases fix_part p c t with h0 | ⟨hc, hb⟩
      · exact fix_zero h0
      · rw [hc]
        unfold fixC
        have : badC p c (mendG (decide (c.part = 1)) t) = false := by
          unfold badC at hb ⊢
          by_cases h1 : c.part = 1
          · rw [if_pos h1] at hb ⊢
            match t, hb with
            | d :: t', hb =>
              have hd : d.part = 2 := by simpa using hb
              have hf : fixC (decide (c.part = 1)) d t' = d := by
                have hbd : badC (decide (c.part = 1)) d t' = false := by
                  unfold badC
                  rw [if_neg (by omega), if_pos hd]
                  simp [h1]
                unfold fixC
                rw [hbd]
                rfl
              simp [mendG, hf, hd]
          · rw [if_neg h1] at hb ⊢
            by_cases h2 : c.part = 2
            · rw [if_pos h2] at hb ⊢; exact hb
            · rw [if_neg h2] at hb ⊢
              by_cases h3 : c.part = 3
              · rw [if_pos h3] at hb ⊢
                match t, hb with
                | [], _ => rfl
              · rw [if_neg h3]
        rw [this]
        rfl
    simp only [mendG]
    rw [hkey, mendG_idem t]
theorem mend_idem (l : List Cel) : mend (mend l) = mend l := mendG_idem l false
/-- is each Right behind its Left, and no Filler but the last one? -/
def Whole (l : List Cel) : Prop := mend l = l
theorem whole_mend (l : List Cel) : Whole (mend l) := mend_idem l
theorem whole_zero : ∀ (l : List Cel) (p : Bool), (∀ c ∈ l, c.part = 0) → mendG p l = l
  | [], _, _ => rfl
  | c :: t, p, h => by
    have h0 := fix_zero (p := p) (t := t) (h c (by simp))
    simp only [mendG, h0]
    rw [whole_zero t _ (fun x hx => h x (by simp [hx]))]
def blanks (n : Nat) (s : Int) : List Cel := List.replicate n (blk s)
theorem whole_blanks (n : Nat) (s : Int) : Whole (blanks n s) := whole_zero _ _ (fun c hc => by rw [(List.mem_replicate.1 hc).2]; rfl)
/-- how a size counts: from 0 to 1000 -/
def nearN (w : Int) : Nat := (min (max w 0) 1000).toNat
theorem nearN_le (w : Int) : nearN w ≤ 1000 := by unfold nearN; omega
/-- the calls; of 'w' columns -/
def putS (w : Nat) (l : List Cel) (at_ x s : Int) : List Cel :=
  if w = 0 ∨ at_ < 0 ∨ (l.length : Int) - w < at_ then mend l
  else if w = 2 then
    let l1 := (l.set at_.toNat ⟨x, s, 1⟩).set (at_.toNat + 1) ⟨x, s, 2⟩
    mend (if 0 < at_.toNat ∧ (l.getD (at_.toNat - 1) (blk 0)).part = 1 then l1.set (at_.toNat - 1) (blk (l.getD (at_.toNat - 1) (blk 0)).style) else l1)
  else mend (l.set at_.toNat ⟨x, s, 0⟩)
def eraseS (l : List Cel) (a b s : Int) : List Cel := mend (l.mapIdx fun i c => if a ≤ (i : Int) ∧ (i : Int) < b then blk s else c)
def insertS (l : List Cel) (at_ n s : Int) : List Cel :=
  if at_ < 0 ∨ (l.length : Int) ≤ at_ ∨ n ≤ 0 then mend l
  else
    let k := min n.toNat (l.length - at_.toNat)
    mend (l.take at_.toNat ++ blanks k s ++ (l.take (l.length - k)).drop at_.toNat)
def deleteS (l : List Cel) (at_ n s : Int) : List Cel :=
  if at_ < 0 ∨ (l.length : Int) ≤ at_ ∨ n ≤ 0 then mend l
  else
    let k := min n.toNat (l.length - at_.toNat)
    mend (l.take at_.toNat ++ l.drop (at_.toNat + k) ++ blanks k s)
def fillS (l : List Cel) (s : Int) : List Cel := mend (if l = [] then [] else l.take (l.length - 1) ++ [⟨32, s, 3⟩])
def resizeS (r : Ro) (w : Int) : Ro :=
  if nearN w = r.l.length then r else ⟨mend (r.l.take (min (nearN w) r.l.length) ++ blanks (nearN w - min (nearN w) r.l.length) 0), false⟩
def trimG : List Cel → List Cel
  | [] => []
  | c :: t => if c = blk 0 then trimG t else c :: t
/-- a row's cells but for blanks at the end -/
def trimS (r : Ro) : List Cel := if r.wrapped then r.l else (trimG r.l.reverse).reverse
def glyphs (r : Ro) : List (Int × Int) := ((trimS r).filter fun c => decide (c.part = 0 ∨ c.part = 1)).map fun c => (c.rune, c.style)
/-! ## lengths -/
theorem blanks_length (n : Nat) (s : Int) : (blanks n s).length = n := List.length_replicate ..
theorem put_length (w : Nat) (l : List Cel) (at_ x s : Int) : (putS w l at_ x s).length = l.length := by
  unfold putS
  split
  · exact mend_length l
  · split
    · simp only
      rw [mend_length]
      split <;> simp
    · rw [mend_length]; simp
theorem erase_length (l : List Cel) (a b s : Int) : (eraseS l a b s).length = l.length := by
  unfold eraseS; rw [mend_length, List.length_mapIdx]
theorem insert_length (l : List Cel) (at_ n s : Int) : (insertS l at_ n s).length = l.length := by
  unfold insertS
  split
  · exact mend_length l
  · rename_i h
    simp only
    rw [mend_length]
    simp only [List.length_append, List.length_take, List.length_drop, blanks_length]
    omega
theorem delete_length (l : List Cel) (at_ n s : Int) : (deleteS l at_ n s).length = l.length := by
  unfold deleteS
  split
  · exact mend_length l
  · rename_i h
    simp only
    rw [mend_length]
    simp only [List.length_append, List.length_take, List.length_drop, blanks_length]
    omega
theorem fill_length (l : List Cel) (s : Int) : (fillS l s).length = l.length := by
  unfold fillS
  rw [mend_length]
  split
  · rename_i h; rw [h]
  · rename_i h
    have := List.length_pos_iff.2 h
    simp only [List.length_append, List.length_take, List.length_cons, List.length_nil]
    omega
theorem resize_length (r : Ro) (w : Int) : (resizeS r w).l.length = nearN w := by
  unfold resizeS
  split
  · rename_i h; exact h.symm
  · simp only
    rw [mend_length]
    simp only [List.length_append, List.length_take, blanks_length]
    omega
/-- all is erased -/
theorem erase_all (l : List Cel) (s : Int) : eraseS l 0 l.length s = blanks l.length s := by
  unfold eraseS
  have : (l.mapIdx fun i c => if (0 : Int) ≤ (i : Int) ∧ (i : Int) < (l.length : Int) then blk s else c) = blanks l.length s := by
    apply List.ext_getElem
    · rw [List.length_mapIdx, blanks_length]
    · intro i h1 h2
      rw [List.length_mapIdx] at h1
      rw [List.getElem_mapIdx, if_pos (by omega)]
      exact (List.getElem_replicate (h := h2)).symm
  rw [this]
  exact whole_blanks _ _
/-! ## whole -/
theorem whole_put (w : Nat) (l : List Cel) (at_ x s : Int) : Whole (putS w l at_ x s) := by
  unfold putS
  split
  · exact whole_mend _
  · split <;> exact whole_mend _
theorem whole_erase (l : List Cel) (a b s : Int) : Whole (eraseS l a b s) := whole_mend _
theorem whole_insert (l : List Cel) (at_ n s : Int) : Whole (insertS l at_ n s) := by
  unfold insertS; split <;> exact whole_mend _
theorem whole_delete (l : List Cel) (at_ n s : Int) : Whole (deleteS l at_ n s) := by
  unfold deleteS; split <;> exact whole_mend _
theorem whole_fill (l : List Cel) (s : Int) : Whole (fillS l s) := whole_mend _
theorem whole_resize (r : Ro) (w : Int) (h : Whole r.l) : Whole (resizeS r w).l := by
  unfold resizeS
  split
  · exact h
  · exact whole_mend _
end Go.Proofs.YtmdnnpcofbhceaaDoor.K
