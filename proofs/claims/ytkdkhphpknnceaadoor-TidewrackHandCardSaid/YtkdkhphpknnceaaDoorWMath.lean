/- Plain facts on columns: the table's answer is the document's; sums, and how many fit. No Go here. -/
namespace Go.Proofs.YtkdkhphpknnceaaDoor.W

/-- the spans, rising: from, to, columns -/
def tab : List (Int × Int × Nat) := [(-2147483648, 31, 0), (127, 159, 0), (768, 879, 0), (4352, 4447, 2), (6832, 6911, 0), (7616, 7679, 0), (8203, 8207, 0), (8400, 8447, 0), (11904, 12350, 2), (12353, 13311, 2), (13312, 19903, 2), (19968, 40959, 2), (40960, 42191, 2), (44032, 55203, 2), (55296, 57343, 0), (63744, 64255, 2), (65024, 65039, 0), (65056, 65071, 0), (65072, 65135, 2), (65279, 65279, 0), (65280, 65376, 2), (65504, 65510, 2), (127744, 128591, 2), (129280, 129535, 2), (131072, 262141, 2), (917760, 917999, 0), (1114112, 2147483647, 0)]
/-- the first span that it is in, if none before begins behind it -/
def look : List (Int × Int × Nat) → Int → Nat
  | [], _ => 1
  | (a, b, c) :: t, r => if r < a then 1 else if r ≤ b then c else look t r
def ofS (r : Int) : Nat := look tab r
/-- what the rest of the table says, if nothing before it does -/
def rest (k : Nat) (r : Int) : Nat := look (tab.drop k) r
theorem rest_step (k : Nat) (hk : k < 27) (r : Int) : rest k r = if r < (tab.getD k (0, 0, 0)).1 then 1 else if r ≤ (tab.getD k (0, 0, 0)).2.1 then (tab.getD k (0, 0, 0)).2.2 else rest (k + 1) r := by
  have h : tab.drop k = tab.getD k (0, 0, 0) :: tab.drop (k + 1) := by
    have hk' : k < tab.length := hk
    rw [List.drop_eq_getElem_cons hk']
    simp [List.getD_eq_getElem?_getD, hk']
  unfold rest
  rw [h]
  rfl
def pairs : List Int → List (Int × Int)
  | a :: b :: t => (a, b) :: pairs (b :: t)
  | _ => []
theorem between (r : Int) : ∀ (l : List Int) (a : Int), a ≤ r → r < (a :: l).getLast (by simp) → ∃ p ∈ pairs (a :: l), p.1 ≤ r ∧ r < p.2
  | [], a, h1, h2 => by simp at h2; omega
  | b :: l, a, h1, h2 => by
    by_cases h : r < b
    · exact ⟨(a, b), by simp [pairs], h1, h⟩
    · obtain ⟨p, hp, h3⟩ := between r l b (by omega) (by simpa using h2)
      exact ⟨p, by simp only [pairs]; exact List.mem_cons_of_mem _ hp, h3⟩
theorem look_le {k : Nat} : ∀ t : List (Int × Int × Nat), (∀ x ∈ t, x.2.2 ≤ k) → 1 ≤ k → ∀ r, look t r ≤ k
  | [], _, h, _ => h
  | (a, b, c) :: t, h, hk, r => by
    have h3 := h (a, b, c) (by simp)
    have h4 := look_le t (fun x hx => h x (by simp [hx])) hk r
    simp only [look]
    split
    · exact hk
    · split
      · exact h3
      · exact h4
theorem ofS_le (r : Int) : ofS r ≤ 2 := look_le tab (by decide) (by decide) r

/-- all together -/
def sumS (l : List Int) : Nat := (l.map ofS).sum
/-- how many fit -/
def fitS : Int → List Int → Nat
  | _, [] => 0
  | w, r :: t => if w < (ofS r : Int) then 0 else fitS (w - ofS r) t + 1
theorem sumS_nil : sumS [] = 0 := rfl
theorem sumS_cons (r : Int) (l : List Int) : sumS (r :: l) = ofS r + sumS l := by simp [sumS]
theorem sumS_append (a b : List Int) : sumS (a ++ b) = sumS a + sumS b := by simp [sumS]
theorem sumS_le : ∀ l : List Int, sumS l ≤ 2 * l.length
  | [] => by simp [sumS]
  | r :: l => by have := sumS_le l; have := ofS_le r; rw [sumS_cons, List.length_cons]; omega
theorem fitS_le : ∀ (l : List Int) (w : Int), fitS w l ≤ l.length
  | [], _ => Nat.le_refl _
  | r :: l, w => by
    have := fitS_le l (w - ofS r)
    simp only [fitS, List.length_cons]
    split <;> omega
/-- what fits fits -/
theorem fitS_fits : ∀ (l : List Int) (w : Int), 0 ≤ w → (sumS (l.take (fitS w l)) : Int) ≤ w
  | [], w, h => by simpa [fitS, sumS] using h
  | r :: l, w, h => by
    simp only [fitS]
    split
    · simpa [sumS] using h
    · have := fitS_fits l (w - ofS r) (by omega)
      rw [List.take_succ_cons, sumS_cons]
      omega
theorem fitS_append : ∀ (pre : List Int) (w : Int) (rest : List Int), fitS w pre = pre.length → fitS w (pre ++ rest) = pre.length + fitS (w - sumS pre) rest
  | [], w, rest, _ => by simp [sumS]
  | r :: pre, w, rest, h => by
    simp only [fitS, List.length_cons] at h
    by_cases hlt : w < (ofS r : Int)
    · rw [if_pos hlt] at h; omega
    · rw [if_neg hlt] at h
      have ih := fitS_append pre (w - ofS r) rest (by omega)
      rw [List.cons_append]
      simp only [fitS, List.length_cons, sumS_cons]
      rw [if_neg hlt, ih]
      have e : w - ((ofS r + sumS pre : Nat) : Int) = w - ofS r - (sumS pre : Int) := by omega
      rw [e]
      omega
theorem fitS_snoc {pre : List Int} {w x : Int} (h : fitS w pre = pre.length) (hx : ¬ w - sumS pre < ofS x) : fitS w (pre ++ [x]) = (pre ++ [x]).length := by
  rw [fitS_append pre w [x] h]
  simp only [fitS]
  rw [if_neg hx]
  simp
theorem fitS_stop {pre : List Int} {w x : Int} (h : fitS w pre = pre.length) (hx : w - sumS pre < ofS x) (zs : List Int) (j : Nat) (hz : pre ++ [x] = zs.take j) : fitS w zs = pre.length := by
  have e : zs = pre ++ (x :: zs.drop j) := by
    have := List.take_append_drop j zs
    rw [← hz] at this
    exact this.symm.trans (List.append_assoc _ _ _)
  have e2 : fitS (w - sumS pre) (x :: zs.drop j) = 0 := by simp only [fitS]; rw [if_pos hx]
  rw [e, fitS_append pre w _ h, e2]
  omega
end Go.Proofs.YtkdkhphpknnceaaDoor.W
