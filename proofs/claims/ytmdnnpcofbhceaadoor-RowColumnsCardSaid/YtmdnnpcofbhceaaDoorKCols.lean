/- A whole row's runes have as many columns as it has cells, but for a filler. -/
import Derived.Test.YtmdnnpcofbhceaaDoorKMath
namespace Go.Proofs.YtmdnnpcofbhceaaDoor.K

/-- runes fit their cells: of one column a Single, of two a Left -/
def FitC (f : Int → Nat) (c : Cel) : Prop := (c.part = 0 ∧ f c.rune = 1) ∨ (c.part = 1 ∧ f c.rune = 2) ∨ c.part = 2 ∨ c.part = 3
def Fits (f : Int → Nat) (l : List Cel) : Prop := ∀ c ∈ l, FitC f c
/-- columns of the runes -/
def colsN (f : Int → Nat) : List Cel → Nat
  | [] => 0
  | c :: t => (if c.part = 0 ∨ c.part = 1 then f c.rune else 0) + colsN f t
def fillers : List Cel → Nat
  | [] => 0
  | c :: t => (if c.part = 3 then 1 else 0) + fillers t
theorem fits_blk {f : Int → Nat} (h : f 32 = 1) (s : Int) : FitC f (blk s) := .inl ⟨rfl, h⟩
theorem fits_fix {f : Int → Nat} (h : f 32 = 1) {p : Bool} {c : Cel} {t : List Cel} (hc : FitC f c) : FitC f (fixC p c t) := by
  unfold fixC
  cases badC p c t
  · exact hc
  · exact fits_blk h _
theorem fits_mendG {f : Int → Nat} (h : f 32 = 1) : ∀ (l : List Cel) (p : Bool), Fits f l → Fits f (mendG p l)
  | [], _, _ => fun _ hc => by cases hc
  | c :: t, p, hl => fun d hd => by
    rcases List.mem_cons.1 hd with rfl | hd
    · exact fits_fix h (hl c (by simp))
    · exact fits_mendG h t _ (fun x hx => hl x (by simp [hx])) d hd
theorem fits_mend {f : Int → Nat} (h : f 32 = 1) {l : List Cel} (hl : Fits f l) : Fits f (mend l) := fits_mendG h l false hl
theorem fits_blanks {f : Int → Nat} (h : f 32 = 1) (n : Nat) (s : Int) : Fits f (blanks n s) := fun c hc => by rw [(List.mem_replicate.1 hc).2]; exact fits_blk h s
theorem fits_append {f : Int → Nat} {a b : List Cel} (ha : Fits f a) (hb : Fits f b) : Fits f (a ++ b) := fun c hc => by
  rcases List.mem_append.1 hc with hc | hc
  · exact ha c hc
  · exact hb c hc
theorem fits_take {f : Int → Nat} {l : List Cel} (h : Fits f l) (n : Nat) : Fits f (l.take n) := fun c hc => h c (List.mem_of_mem_take hc)
theorem fits_drop {f : Int → Nat} {l : List Cel} (h : Fits f l) (n : Nat) : Fits f (l.drop n) := fun c hc => h c (List.mem_of_mem_drop hc)
theorem fits_set {f : Int → Nat} {l : List Cel} (h : Fits f l) (n : Nat) {d : Cel} (hd : FitC f d) : Fits f (l.set n d) := fun c hc => by
  rcases List.mem_or_eq_of_mem_set hc with hc | rfl
  · exact h c hc
  · exact hd
theorem fits_put {f : Int → Nat} (h : f 32 = 1) {l : List Cel} (hl : Fits f l) (at_ x s : Int) (h2 : f x ≤ 2) : Fits f (putS (f x) l at_ x s) := by
  unfold putS
  split
  · exact fits_mend h hl
  · rename_i h0
    split
    · rename_i hw
      simp only
      refine fits_mend h ?_
      have h1 := fits_set (fits_set hl at_.toNat (d := ⟨x, s, 1⟩) (.inr (.inl ⟨rfl, hw⟩))) (at_.toNat + 1) (d := ⟨x, s, 2⟩) (.inr (.inr (.inl rfl)))
      split
      · exact fits_set h1 _ (fits_blk h _)
      · exact h1
    · rename_i hw
      exact fits_mend h (fits_set hl _ (.inl ⟨rfl, by simp only; omega⟩))
theorem fits_erase {f : Int → Nat} (h : f 32 = 1) {l : List Cel} (hl : Fits f l) (a b s : Int) : Fits f (eraseS l a b s) := by
  refine fits_mend h (fun c hc => ?_)
  obtain ⟨i, hi, rfl⟩ := List.mem_mapIdx.1 hc
  split
  · exact fits_blk h s
  · exact hl _ (List.getElem_mem _)
theorem fits_insert {f : Int → Nat} (h : f 32 = 1) {l : List Cel} (hl : Fits f l) (at_ n s : Int) : Fits f (insertS l at_ n s) := by
  unfold insertS
  split
  · exact fits_mend h hl
  · exact fits_mend h (fits_append (fits_append (fits_take hl _) (fits_blanks h _ _)) (fits_drop (fits_take hl _) _))
theorem fits_delete {f : Int → Nat} (h : f 32 = 1) {l : List Cel} (hl : Fits f l) (at_ n s : Int) : Fits f (deleteS l at_ n s) := by
  unfold deleteS
  split
  · exact fits_mend h hl
  · exact fits_mend h (fits_append (fits_append (fits_take hl _) (fits_drop hl _)) (fits_blanks h _ _))
theorem fits_fill {f : Int → Nat} (h : f 32 = 1) {l : List Cel} (hl : Fits f l) (s : Int) : Fits f (fillS l s) := by
  unfold fillS
  refine fits_mend h ?_
  split
  · exact fun _ hc => by cases hc
  · exact fits_append (fits_take hl _) (fun c hc => by
      obtain rfl : c = ⟨32, s, 3⟩ := by simpa using hc
      exact .inr (.inr (.inr rfl)))
/-- the heart of it -/
theorem cols_mended (f : Int → Nat) : ∀ (l : List Cel) (p : Bool), mendG p l = l → Fits f l → (p = true → ∃ d t, l = d :: t ∧ d.part = 2) → colsN f l + fillers l + (if p then 1 else 0) = l.length
  | [], p, _, _, hp => by
    cases p
    · rfl
    · obtain ⟨d, t, h, _⟩ := hp rfl; cases h
  | c :: t, p, hm, hl, hp => by
    simp only [mendG, List.cons.injEq] at hm
    obtain ⟨h1, h2⟩ := hm
    rw [h1] at h2
    have ht : Fits f t := fun x hx => hl x (by simp [hx])
    have hb : badC p c t = false ∨ c = blk c.style := by
      cases hb : badC p c t
      · exact .inl rfl
      · right
        unfold fixC at h1
        rw [hb] at h1
        exact h1.symm
    rcases hl c (by simp) with ⟨h0, hw⟩ | ⟨h0, hw⟩ | h0 | h0
    · -- a Single
      have hpf : p = false := by
        cases p
        · rfl
        · obtain ⟨d, t', h, hd⟩ := hp rfl
          cases h; omega
      subst hpf
      have ih := cols_mended f t false (by simpa [h0] using h2) ht (fun h => by cases h)
      simp only [colsN, fillers, List.length_cons, h0, hw]
      simp at ih ⊢
      omega
    · have hpf : p = false := by
        cases p
        · rfl
        · obtain ⟨d, t', h, hd⟩ := hp rfl
          cases h; omega
      subst hpf
      have hnext : ∃ d t', t = d :: t' ∧ d.part = 2 := by
        have hb' : badC false c t = false := hb.resolve_right (fun e => by rw [e] at h0; simp [blk] at h0)
        unfold badC at hb'
        rw [if_pos h0] at hb'
        match t, hb' with
        | d :: t', hb' => exact ⟨d, t', rfl, by simpa using hb'⟩
      have ih := cols_mended f t true (by simpa [h0] using h2) ht (fun _ => hnext)
      simp only [colsN, fillers, List.length_cons, h0, hw]
      simp at ih ⊢
      omega
    · have hpt : p = true := by
        have hb' : badC p c t = false := hb.resolve_right (fun e => by rw [e] at h0; simp [blk] at h0)
        unfold badC at hb'
        rw [if_neg (by omega), if_pos h0] at hb'
        simpa using hb'
      subst hpt
      have ih := cols_mended f t false (by simpa [h0] using h2) ht (fun h => by cases h)
      simp only [colsN, fillers, List.length_cons, h0]
      simp at ih ⊢
      omega
    · have hpf : p = false := by
        cases p
        · rfl
        · obtain ⟨d, t', h, hd⟩ := hp rfl
          cases h; omega
      subst hpf
      have ih := cols_mended f t false (by simpa [h0] using h2) ht (fun h => by cases h)
      simp only [colsN, fillers, List.length_cons, h0]
      simp at ih ⊢
      omega
theorem cols_whole (f : Int → Nat) (l : List Cel) (h : Whole l) (hl : Fits f l) : colsN f l + fillers l = l.length := by
  have := cols_mended f l false h hl (fun h => by cases h)
  simpa using this
/-- no fillers -/
def Plain (l : List Cel) : Prop := ∀ c ∈ l, c.part ≠ 3
theorem fillers_none : ∀ (l : List Cel), Plain l → fillers l = 0
  | [], _ => rfl
  | c :: t, h => by
    have := h c (by simp)
    simp only [fillers, if_neg this, fillers_none t (fun x hx => h x (by simp [hx]))]
theorem plain_mendG : ∀ (l : List Cel) (p : Bool), Plain l → Plain (mendG p l)
  | [], _, _ => fun _ hc => by cases hc
  | c :: t, p, hl => fun d hd => by
    rcases List.mem_cons.1 hd with rfl | hd
    · rcases fix_part p c t with h0 | ⟨h0, _⟩
      · omega
      · rw [h0]; exact hl c (by simp)
    · exact plain_mendG t _ (fun x hx => hl x (by simp [hx])) d hd
theorem plain_mend {l : List Cel} (h : Plain l) : Plain (mend l) := plain_mendG l false h
theorem plain_blanks (n : Nat) (s : Int) : Plain (blanks n s) := fun c hc => by rw [(List.mem_replicate.1 hc).2]; simp [blk]
theorem plain_append {a b : List Cel} (ha : Plain a) (hb : Plain b) : Plain (a ++ b) := fun c hc => by
  rcases List.mem_append.1 hc with hc | hc
  · exact ha c hc
  · exact hb c hc
theorem plain_take {l : List Cel} (h : Plain l) (n : Nat) : Plain (l.take n) := fun c hc => h c (List.mem_of_mem_take hc)
theorem plain_drop {l : List Cel} (h : Plain l) (n : Nat) : Plain (l.drop n) := fun c hc => h c (List.mem_of_mem_drop hc)
theorem plain_set {l : List Cel} (h : Plain l) (n : Nat) {d : Cel} (hd : d.part ≠ 3) : Plain (l.set n d) := fun c hc => by
  rcases List.mem_or_eq_of_mem_set hc with hc | rfl
  · exact h c hc
  · exact hd
theorem plain_put (w : Nat) {l : List Cel} (hl : Plain l) (at_ x s : Int) : Plain (putS w l at_ x s) := by
  unfold putS
  split
  · exact plain_mend hl
  · split
    · simp only
      refine plain_mend ?_
      have h1 := plain_set (plain_set hl at_.toNat (d := ⟨x, s, 1⟩) (by simp)) (at_.toNat + 1) (d := ⟨x, s, 2⟩) (by simp)
      split
      · exact plain_set h1 _ (by simp [blk])
      · exact h1
    · exact plain_mend (plain_set hl _ (by simp))
theorem plain_erase {l : List Cel} (hl : Plain l) (a b s : Int) : Plain (eraseS l a b s) := by
  refine plain_mend (fun c hc => ?_)
  obtain ⟨i, hi, rfl⟩ := List.mem_mapIdx.1 hc
  split
  · simp [blk]
  · exact hl _ (List.getElem_mem _)
theorem plain_insert {l : List Cel} (hl : Plain l) (at_ n s : Int) : Plain (insertS l at_ n s) := by
  unfold insertS
  split
  · exact plain_mend hl
  · exact plain_mend (plain_append (plain_append (plain_take hl _) (plain_blanks _ _)) (plain_drop (plain_take hl _) _))
theorem plain_delete {l : List Cel} (hl : Plain l) (at_ n s : Int) : Plain (deleteS l at_ n s) := by
  unfold deleteS
  split
  · exact plain_mend hl
  · exact plain_mend (plain_append (plain_append (plain_take hl _) (plain_drop hl _)) (plain_blanks _ _))
theorem fillers_last (s : Int) : ∀ (a : List Cel) (p : Bool), Plain a → fillers (mendG p (a ++ [⟨32, s, 3⟩])) = 1
  | [], _, _ => rfl
  | c :: a, p, h => by
    have ih := fillers_last s a
    simp only [List.cons_append, mendG, fillers]
    rw [ih _ (fun x hx => h x (by simp [hx]))]
    have hc : (fixC p c (a ++ [⟨32, s, 3⟩])).part ≠ 3 := by
      rcases fix_part p c (a ++ [⟨32, s, 3⟩]) with h0 | ⟨h0, _⟩
      · omega
      · rw [h0]; exact h c (by simp)
    rw [if_neg hc]
theorem fillers_fill (l : List Cel) (s : Int) (h : Plain l) : fillers (fillS l s) = if l = [] then 0 else 1 := by
  unfold fillS mend
  split
  · rfl
  · exact fillers_last s _ false (plain_take h _)
/-- a row that goes on: all its runes -/
theorem glyphs_cols (f : Int → Nat) (l : List Cel) : ((glyphs ⟨l, true⟩).map fun g => f g.1).sum = colsN f l := by
  unfold glyphs trimS
  rw [if_pos rfl]
  induction l with
  | nil => rfl
  | cons c t ih =>
    simp only [List.filter_cons, colsN]
    by_cases h : c.part = 0 ∨ c.part = 1
    · simp only [h, decide_true, if_true, List.map_cons, List.sum_cons] at ih ⊢
      rw [ih]
    · simp only [h, decide_false, if_false, Bool.false_eq_true, Nat.zero_add] at ih ⊢
      exact ih
end Go.Proofs.YtmdnnpcofbhceaaDoor.K
