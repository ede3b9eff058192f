/- Spans as values: what the program's calls make of them, and which numbers are in it. -/
namespace Go.Proofs.Ytgagkmlkoeceiaa.H
abbrev Sp := Int × Int
def lo : Int := -1152921504606846976
def hi : Int := 1152921504606846976
def near (n : Int) : Int := min (max n lo) hi
def cnt (x : Sp) : Sp := (near x.1, near x.2)
theorem near_lo (n : Int) : lo ≤ near n := by unfold near lo hi; omega
theorem near_hi (n : Int) : near n ≤ hi := by unfold near lo hi; omega
/-- is n in it -/
def inx (n : Int) (x : Sp) : Prop := x.1 ≤ n ∧ n < x.2
def mem (n : Int) : List Sp → Prop
  | [] => False
  | x :: l => inx n x ∨ mem n l
theorem mem_append (n : Int) (a b : List Sp) : mem n (a ++ b) ↔ mem n a ∨ mem n b := by
  induction a with
  | nil => simp [mem]
  | cons x a ih => simp only [List.cons_append, mem, ih, or_assoc]
/-- rising, of which no two touch, and none is without numbers; the first one begins at b or above -/
def Norm : Int → List Sp → Prop
  | _, [] => True
  | b, x :: l => b ≤ x.1 ∧ x.1 < x.2 ∧ Norm (x.2 + 1) l
theorem Norm.mono {b b' : Int} (h : b' ≤ b) : ∀ {l : List Sp}, Norm b l → Norm b' l
  | [], _ => trivial
  | _ :: _, hn => ⟨Int.le_trans h hn.1, hn.2⟩
theorem Norm.low {b n : Int} : ∀ {l : List Sp}, Norm b l → mem n l → b ≤ n
  | _ :: l, hn, .inl h => by have := hn.1; have := h.1; omega
  | x :: l, hn, .inr h => by have := Norm.low (l := l) hn.2.2 h; have := hn.1; have := hn.2.1; omega
/-- all ends are at e or below -/
def Top (e : Int) (l : List Sp) : Prop := ∀ x ∈ l, x.2 ≤ e
theorem Top.cons {e : Int} {x : Sp} {l : List Sp} (h : Top e (x :: l)) : x.2 ≤ e ∧ Top e l := ⟨h x List.mem_cons_self, fun y hy => h y (List.mem_cons_of_mem _ hy)⟩
/-- two such lists with the same numbers are one -/
theorem Norm.ext {b b' : Int} : ∀ {l l' : List Sp}, Norm b l → Norm b' l' → (∀ n, mem n l ↔ mem n l') → l = l'
  | [], [], _, _, _ => rfl
  | [], y :: l', _, h', h => absurd ((h y.1).2 (.inl ⟨Int.le_refl _, h'.2.1⟩)) (by simp [mem])
  | x :: l, [], hn, _, h => absurd ((h x.1).1 (.inl ⟨Int.le_refl _, hn.2.1⟩)) (by simp [mem])
  | x :: l, y :: l', hn, hn', h => by
    have a1 : x.1 = y.1 := by
      have p : y.1 ≤ x.1 := Norm.low (b := y.1) (l := y :: l') ⟨Int.le_refl _, hn'.2⟩ ((h x.1).1 (.inl ⟨Int.le_refl _, hn.2.1⟩))
      have q : x.1 ≤ y.1 := Norm.low (b := x.1) (l := x :: l) ⟨Int.le_refl _, hn.2⟩ ((h y.1).2 (.inl ⟨Int.le_refl _, hn'.2.1⟩))
      omega
    have a2 : x.2 = y.2 := by
      rcases Int.lt_trichotomy x.2 y.2 with c | c | c
      · rcases (h x.2).2 (.inl ⟨by have := hn.2.1; omega, c⟩) with d | d
        · exact absurd d.2 (by omega)
        · have := Norm.low hn.2.2 d; omega
      · exact c
      · rcases (h y.2).1 (.inl ⟨by have := hn'.2.1; omega, c⟩) with d | d
        · exact absurd d.2 (by omega)
        · have := Norm.low hn'.2.2 d; omega
    have e : x = y := Prod.ext a1 a2
    subst e
    rw [Norm.ext hn.2.2 hn'.2.2 (fun n => ?_)]
    have hh := h n
    constructor
    · intro hm
      rcases hh.1 (.inr hm) with d | d
      · have := Norm.low hn.2.2 hm; have := d.2; omega
      · exact d
    · intro hm
      rcases hh.2 (.inr hm) with d | d
      · have := Norm.low hn'.2.2 hm; have := d.2; omega
      · exact d
theorem Norm.append {e : Int} {c : List Sp} (hc : Norm (e + 1) c) : ∀ {b : Int} {a : List Sp}, Norm b a → Top e a → b ≤ e + 1 → Norm b (a ++ c)
  | b, [], _, _, h => hc.mono h
  | b, x :: a, hn, ht, h => ⟨hn.1, hn.2.1, Norm.append hc hn.2.2 ht.cons.2 (by have := ht.cons.1; omega)⟩
theorem Top.append {e : Int} {a b : List Sp} (ha : Top e a) (hb : Top e b) : Top e (a ++ b) := fun x hx => by
  rcases List.mem_append.1 hx with h | h
  · exact ha x h
  · exact hb x h
theorem Top.mono {e e' : Int} {a : List Sp} (h : Top e a) (he : e ≤ e') : Top e' a := fun x hx => Int.le_trans (h x hx) he
/-- what is left of one span without others, as the program goes through them -/
def goLeft : Sp → List Sp → List Sp
  | x, [] => if x.1 < x.2 then [x] else []
  | x, y :: ys => (if x.1 < min x.2 y.1 then [(x.1, min x.2 y.1)] else []) ++ goLeft (max x.1 y.2, x.2) ys
theorem goLeft_norm : ∀ (ys : List Sp) (x : Sp) (b : Int), Norm b ys → Norm x.1 (goLeft x ys) ∧ Top x.2 (goLeft x ys)
  | [], x, b, _ => by
    unfold goLeft
    split
    · exact ⟨⟨Int.le_refl _, by assumption, trivial⟩, fun z hz => by rw [List.mem_singleton.1 hz]; exact Int.le_refl _⟩
    · exact ⟨trivial, fun z hz => by cases hz⟩
  | y :: ys, x, b, hn => by
    have hr := goLeft_norm ys (max x.1 y.2, x.2) _ hn.2.2
    have hy := hn.2.1
    rw [goLeft]
    split
    · rename_i hlt
      refine ⟨⟨Int.le_refl _, hlt, hr.1.mono ?_⟩, fun z hz => ?_⟩
      · show min x.2 y.1 + 1 ≤ max x.1 y.2
        omega
      · rcases List.mem_cons.1 hz with rfl | h
        · show min x.2 y.1 ≤ x.2
          omega
        · exact hr.2 z h
    · exact ⟨hr.1.mono (show x.1 ≤ max x.1 y.2 by omega), hr.2⟩
def leftL (xs ys : List Sp) : List Sp := xs.flatMap (goLeft · ys)
theorem leftL_cons (x : Sp) (xs ys : List Sp) : leftL (x :: xs) ys = goLeft x ys ++ leftL xs ys := rfl
theorem leftL_norm (ys : List Sp) (b : Int) (hn : Norm b ys) : ∀ (xs : List Sp) (c : Int), Norm c xs → Norm c (leftL xs ys)
  | [], _, _ => trivial
  | x :: xs, c, h => by
    have h1 := goLeft_norm ys x b hn
    rw [leftL_cons]
    exact Norm.append (leftL_norm ys b hn xs _ h.2.2) (h1.1.mono h.1) h1.2 (by have := h.1; have := h.2.1; omega)
theorem leftL_top (ys : List Sp) (b e : Int) (hn : Norm b ys) : ∀ (xs : List Sp), Top e xs → Top e (leftL xs ys)
  | [], _ => fun x hx => by cases hx
  | x :: xs, h => by
    rw [leftL_cons]
    exact ((goLeft_norm ys x b hn).2.mono h.cons.1).append (leftL_top ys b e hn xs h.cons.2)
/-- one span more, joined with those that it touches -/
def joinA : Sp → List Sp → List Sp
  | x, [] => [x]
  | x, y :: ys => if x.2 < y.1 then x :: y :: ys else joinA (min x.1 y.1, max x.2 y.2) ys
theorem joinA_mem (n : Int) : ∀ (ys : List Sp) (x : Sp) (b : Int), Norm b ys → (∀ y ∈ ys, x.1 ≤ y.2) → x.1 < x.2 → (mem n (joinA x ys) ↔ inx n x ∨ mem n ys)
  | [], x, b, _, _, _ => Iff.rfl
  | y :: ys, x, b, hn, hx, h0 => by
    rw [joinA]
    split
    · rfl
    · rename_i h
      have h1 := hx y List.mem_cons_self
      have hy := hn.2.1
      rw [joinA_mem n ys (min x.1 y.1, max x.2 y.2) _ hn.2.2 (fun z hz => by have := hx z (List.mem_cons_of_mem _ hz); show min x.1 y.1 ≤ z.2; omega) (show min x.1 y.1 < max x.2 y.2 by omega), mem, ← or_assoc]
      have : inx n (min x.1 y.1, max x.2 y.2) ↔ inx n x ∨ inx n y := by unfold inx; simp only; omega
      rw [this]
theorem joinA_norm : ∀ (ys : List Sp) (x : Sp) (b : Int), Norm b ys → x.1 < x.2 → Norm (min b x.1) (joinA x ys)
  | [], x, b, _, h0 => ⟨by omega, h0, trivial⟩
  | y :: ys, x, b, hn, h0 => by
    have hy := hn.2.1
    have hb := hn.1
    rw [joinA]
    split
    · exact ⟨by omega, h0, by omega, hy, hn.2.2⟩
    · exact (joinA_norm ys (min x.1 y.1, max x.2 y.2) _ hn.2.2 (show min x.1 y.1 < max x.2 y.2 by omega)).mono (show min b x.1 ≤ min (y.2 + 1) (min x.1 y.1) by omega)
theorem joinA_top (e : Int) : ∀ (ys : List Sp) (x : Sp), Top e ys → x.2 ≤ e → Top e (joinA x ys)
  | [], x, _, h => fun z hz => by rw [List.mem_singleton.1 hz]; exact h
  | y :: ys, x, ht, h => by
    rw [joinA]
    split
    · intro z hz
      rcases List.mem_cons.1 hz with rfl | hz
      · exact h
      · exact ht z hz
    · exact joinA_top e ys _ ht.cons.2 (show max x.2 y.2 ≤ e by have := ht.cons.1; omega)
def addR : List Sp → Sp → List Sp
  | [], x => [x]
  | y :: ys, x => if y.2 < x.1 then y :: addR ys x else joinA x (y :: ys)
theorem Norm.ends {b : Int} : ∀ {l : List Sp}, Norm b l → ∀ y ∈ l, b < y.2
  | x :: l, hn, y, hy => by
    rcases List.mem_cons.1 hy with rfl | h
    · have := hn.1; have := hn.2.1; omega
    · have := Norm.ends hn.2.2 y h; have := hn.1; have := hn.2.1; omega
theorem addR_mem (n : Int) : ∀ (l : List Sp) (x : Sp) (b : Int), Norm b l → x.1 < x.2 → (mem n (addR l x) ↔ inx n x ∨ mem n l)
  | [], x, b, _, _ => Iff.rfl
  | y :: ys, x, b, hn, h0 => by
    rw [addR]
    split
    · rw [mem, addR_mem n ys x _ hn.2.2 h0, mem, or_left_comm]
    · refine joinA_mem n (y :: ys) x b hn (fun z hz => ?_) h0
      rcases List.mem_cons.1 hz with rfl | h
      · omega
      · have := Norm.ends hn.2.2 z h; omega
theorem addR_norm : ∀ (l : List Sp) (x : Sp) (b : Int), Norm b l → x.1 < x.2 → b ≤ x.1 → Norm b (addR l x)
  | [], x, b, _, h0, hb => ⟨hb, h0, trivial⟩
  | y :: ys, x, b, hn, h0, hb => by
    rw [addR]
    split
    · exact ⟨hn.1, hn.2.1, addR_norm ys x _ hn.2.2 h0 (by omega)⟩
    · exact (joinA_norm (y :: ys) x b hn h0).mono (by omega)
theorem addR_top (e : Int) : ∀ (l : List Sp) (x : Sp), Top e l → x.2 ≤ e → Top e (addR l x)
  | [], x, _, h => fun z hz => by rw [List.mem_singleton.1 hz]; exact h
  | y :: ys, x, ht, h => by
    rw [addR]
    split
    · intro z hz
      rcases List.mem_cons.1 hz with rfl | hz
      · exact ht.cons.1
      · exact addR_top e ys x ht.cons.2 h z hz
    · exact joinA_top e (y :: ys) x ht h
/-- a set: rising, and within what counts -/
def Nm (l : List Sp) : Prop := Norm lo l ∧ Top hi l
/-- a span more, a span less, those that are in it, that aren't -/
def addS (l : List Sp) (x : Sp) : List Sp := if (cnt x).1 < (cnt x).2 then addR l (cnt x) else l
def cutS (l : List Sp) (x : Sp) : List Sp := if (cnt x).1 < (cnt x).2 then leftL l [cnt x] else l
def missS (l : List Sp) (x : Sp) : List Sp := goLeft (cnt x) l
def inS (l : List Sp) (x : Sp) : List Sp := goLeft (cnt x) (missS l x)
theorem Nm.nil : Nm [] := ⟨trivial, fun x hx => by cases hx⟩
theorem addS_mem (n : Int) {l : List Sp} (h : Nm l) (x : Sp) : mem n (addS l x) ↔ inx n (cnt x) ∨ mem n l := by
  unfold addS
  split
  · exact addR_mem n l _ _ h.1 (by assumption)
  · have : ¬ inx n (cnt x) := by unfold inx; omega
    simp [this]
theorem Nm.add {l : List Sp} (h : Nm l) (x : Sp) : Nm (addS l x) := by
  unfold addS
  split
  · exact ⟨addR_norm l _ _ h.1 (by assumption) (near_lo _), addR_top _ l _ h.2 (near_hi _)⟩
  · exact h
theorem one_norm {x : Sp} (h : x.1 < x.2) : Norm x.1 [x] := ⟨Int.le_refl _, h, trivial⟩
theorem Nm.cut {l : List Sp} (h : Nm l) (x : Sp) : Nm (cutS l x) := by
  unfold cutS
  split
  · exact ⟨leftL_norm _ _ (one_norm (by assumption)) l _ h.1, leftL_top _ _ _ (one_norm (by assumption)) l h.2⟩
  · exact h
theorem Nm.miss {l : List Sp} (h : Nm l) (x : Sp) : Nm (missS l x) := by
  have := goLeft_norm l (cnt x) _ h.1
  exact ⟨this.1.mono (near_lo _), this.2.mono (near_hi _)⟩
theorem Nm.in_ {l : List Sp} (h : Nm l) (x : Sp) : Nm (inS l x) := by
  have := goLeft_norm _ (cnt x) _ (h.miss x).1
  exact ⟨this.1.mono (near_lo _), this.2.mono (near_hi _)⟩
theorem Nm.ext {l l' : List Sp} (h : Nm l) (h' : Nm l') (hm : ∀ n, mem n l ↔ mem n l') : l = l' := Norm.ext h.1 h'.1 hm
/-- how many numbers -/
def tot : List Sp → Int
  | [] => 0
  | x :: l => (x.2 - x.1) + tot l
theorem tot_bound {e : Int} : ∀ {l : List Sp} {b : Int}, Norm b l → Top e l → 0 ≤ tot l ∧ (l ≠ [] → tot l ≤ e - b)
  | [], b, _, _ => ⟨Int.le_refl _, fun h => absurd rfl h⟩
  | x :: l, b, hn, ht => by
    have h := tot_bound hn.2.2 ht.cons.2
    have := hn.1; have := hn.2.1; have := ht.cons.1
    refine ⟨by simp only [tot]; omega, fun _ => ?_⟩
    by_cases hl : l = []
    · subst hl; simp only [tot]; omega
    · have := h.2 hl; simp only [tot]; omega
theorem Nm.tot {l : List Sp} (h : Nm l) : 0 ≤ tot l ∧ tot l ≤ 2305843009213693952 := by
  have := tot_bound h.1 h.2
  refine ⟨this.1, ?_⟩
  by_cases hl : l = []
  · subst hl; simp [H.tot]
  · have := this.2 hl; unfold hi lo at this; omega
noncomputable instance decMem (l : List Sp) : DecidablePred (fun n => mem n l) := fun n => by
  exact Classical.propDecidable _
end Go.Proofs.Ytgagkmlkoeceiaa.H
