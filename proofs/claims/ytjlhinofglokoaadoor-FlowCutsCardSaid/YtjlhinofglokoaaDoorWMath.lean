/- Plain facts on columns: the table's answer is the document's; sums, and how many fit. No Go here. -/
namespace Go.Proofs.YtjlhinofglokoaaDoor.W

/-- the spans, rising: from, to, columns -/
def tab : List (Int × Int × Nat) := [(-2147483648, 31, 0), (127, 159, 0), (768, 879, 0), (4352, 4447, 2), (6832, 6911, 0), (7616, 7679, 0), (8203, 8207, 0), (8400, 8447, 0), (11904, 12350, 2), (12353, 13311, 2), (13312, 19903, 2), (19968, 40959, 2), (40960, 42191, 2), (44032, 55203, 2), (55296, 57343, 0), (63744, 64255, 2), (65024, 65039, 0), (65056, 65071, 0), (65072, 65135, 2), (65279, 65279, 0), (65280, 65376, 2), (65504, 65510, 2), (127744, 128591, 2), (129280, 129535, 2), (131072, 262141, 2), (917760, 917999, 0), (1114112, 2147483647, 0)]
/-- the first span that it is in, if none before begins behind it -/
def look : List (Int × Int × Nat) → Int → Nat
  | [], _ => 1
  | (a, b, c) :: t, r => if r < a then 1 else if r ≤ b then c else look t r
def ofS (r : Int) : Nat := look tab r
def zeros : List (Int × Int) := [(127, 159), (768, 879), (6832, 6911), (7616, 7679), (8203, 8207), (8400, 8447), (55296, 57343), (65024, 65039), (65056, 65071), (65279, 65279), (917760, 917999)]
def twos : List (Int × Int) := [(4352, 4447), (11904, 12350), (12353, 13311), (13312, 19903), (19968, 40959), (40960, 42191), (44032, 55203), (63744, 64255), (65072, 65135), (65280, 65376), (65504, 65510), (127744, 128591), (129280, 129535), (131072, 262141)]
def inL : List (Int × Int) → Int → Bool
  | [], _ => false
  | (a, b) :: t, r => (decide (a ≤ r) && decide (r ≤ b)) || inL t r
def refOf (r : Int) : Nat := if r < 32 then 0 else if 1114111 < r then 0 else if inL zeros r then 0 else if inL twos r then 2 else 1

/-- what the rest of the table says, if nothing before it does -/
def rest (k : Nat) (r : Int) : Nat := look (tab.drop k) r
theorem rest_end (r : Int) : rest 27 r = 1 := rfl
theorem rest_step (k : Nat) (hk : k < 27) (r : Int) : rest k r = if r < (tab.getD k (0, 0, 0)).1 then 1 else if r ≤ (tab.getD k (0, 0, 0)).2.1 then (tab.getD k (0, 0, 0)).2.2 else rest (k + 1) r := by
  have h : tab.drop k = tab.getD k (0, 0, 0) :: tab.drop (k + 1) := by
    have hk' : k < tab.length := hk
    rw [List.drop_eq_getElem_cons hk']
    simp [List.getD_eq_getElem?_getD, hk']
  unfold rest
  rw [h]
  rfl
theorem inL_step (t : List (Int × Int)) (j : Nat) (hj : j < t.length) (r : Int) : inL (t.drop j) r = ((decide ((t.getD j (0, 0)).1 ≤ r) && decide (r ≤ (t.getD j (0, 0)).2)) || inL (t.drop (j + 1)) r) := by
  have h : t.drop j = t.getD j (0, 0) :: t.drop (j + 1) := by
    rw [List.drop_eq_getElem_cons hj]
    simp [List.getD_eq_getElem?_getD, hj]
  rw [h]
  rfl
/-- where anything begins or ends, rising -/
def marks : List Int := [-2147483648, 32, 127, 160, 768, 880, 4352, 4448, 6832, 6912, 7616, 7680, 8203, 8208, 8400, 8448, 11904, 12351, 12353, 13312, 19904, 19968, 40960, 42192, 44032, 55204, 55296, 57344, 63744, 64256, 65024, 65040, 65056, 65072, 65136, 65279, 65280, 65377, 65504, 65511, 127744, 128592, 129280, 129536, 131072, 262142, 917760, 918000, 1114112, 2147483648]
def pairs : List Int → List (Int × Int)
  | a :: b :: t => (a, b) :: pairs (b :: t)
  | _ => []
theorem between (r : Int) : ∀ (l : List Int) (a : Int), a ≤ r → r < (a :: l).getLast (by simp) → ∃ p ∈ pairs (a :: l), p.1 ≤ r ∧ r < p.2
  | [], a, h1, h2 => by simp at h2; omega
  | b :: l, a, h1, h2 => by
    by_cases h : r < b
    · exact ⟨(a, b), by simp [pairs], h1, h⟩
    · obtain ⟨p, hp, h3⟩ := between r l b (by omega) (by simpa using h2)
      exact ⟨p, by simp only [pairs]; exact List.mem_cons_of_mem _ hp, h3⟩
theorem look_same {p q r : Int} (h1 : p ≤ r) (h2 : r < q) : ∀ t : List (Int × Int × Nat), (∀ x ∈ t, (x.1 ≤ p ∨ q ≤ x.1) ∧ (x.2.1 + 1 ≤ p ∨ q ≤ x.2.1 + 1)) → look t r = look t p
  | [], _ => rfl
  | (a, b, c) :: t, h => by
    have h3 := h (a, b, c) (by simp)
    have h4 := look_same h1 h2 t fun x hx => h x (by simp [hx])
    simp only at h3
    simp only [look, h4]
    by_cases e1 : p < a
    · rw [if_pos e1, if_pos (by omega)]
    · rw [if_neg e1, if_neg (by omega)]
      by_cases e2 : p ≤ b
      · rw [if_pos e2, if_pos (by omega)]
      · rw [if_neg e2, if_neg (by omega)]
theorem inL_same {p q r : Int} (h1 : p ≤ r) (h2 : r < q) : ∀ t : List (Int × Int), (∀ x ∈ t, (x.1 ≤ p ∨ q ≤ x.1) ∧ (x.2 + 1 ≤ p ∨ q ≤ x.2 + 1)) → inL t r = inL t p
  | [], _ => rfl
  | (a, b) :: t, h => by
    have h3 := h (a, b) (by simp)
    have h4 := inL_same h1 h2 t fun x hx => h x (by simp [hx])
    simp only at h3
    simp only [inL, h4]
    congr 2
    · rw [decide_eq_decide]; omega
    · rw [decide_eq_decide]; omega
def fineL (p : Int × Int) : Bool := decide (ofS p.1 = refOf p.1) && (tab.all (fun x => (decide (x.1 ≤ p.1) || decide (p.2 ≤ x.1)) && (decide (x.2.1 + 1 ≤ p.1) || decide (p.2 ≤ x.2.1 + 1))) && (zeros ++ twos).all (fun x => (decide (x.1 ≤ p.1) || decide (p.2 ≤ x.1)) && (decide (x.2 + 1 ≤ p.1) || decide (p.2 ≤ x.2 + 1))) && (decide (32 ≤ p.1) || decide (p.2 ≤ 32)) && (decide (1114112 ≤ p.1) || decide (p.2 ≤ 1114112)))
set_option maxRecDepth 10000 in
theorem all_fine : (pairs marks).all fineL = true := by decide +kernel
theorem ofS_ref (r : Int) (h1 : -2147483648 ≤ r) (h2 : r ≤ 2147483647) : ofS r = refOf r := by
  obtain ⟨p, hp, h3, h4⟩ := between r marks.tail (-2147483648) h1 (by show r < 2147483648; omega)
  have hf := List.all_eq_true.1 all_fine p hp
  unfold fineL at hf
  simp only [Bool.and_eq_true, decide_eq_true_eq, List.all_eq_true, Bool.or_eq_true] at hf
  obtain ⟨e, ⟨⟨ht, hz⟩, h32⟩, htop⟩ := hf
  have k1 : ofS r = ofS p.1 := look_same h3 h4 _ ht
  have k2 : inL zeros r = inL zeros p.1 := inL_same h3 h4 _ fun x hx => hz x (by simp [hx])
  have k3 : inL twos r = inL twos p.1 := inL_same h3 h4 _ fun x hx => hz x (by simp [hx])
  rw [k1, e]
  unfold refOf
  rw [k2, k3]
  by_cases e1 : p.1 < 32
  · rw [if_pos e1, if_pos (by omega : r < 32)]
  · rw [if_neg e1, if_neg (by omega : ¬ r < 32)]
    by_cases e2 : 1114111 < p.1
    · rw [if_pos e2, if_pos (by omega : 1114111 < r)]
    · rw [if_neg e2, if_neg (by omega : ¬ 1114111 < r)]
theorem look_le {k : Nat} : ∀ t : List (Int × Int × Nat), (∀ x ∈ t, x.2.2 ≤ k) → 1 ≤ k → ∀ r, look t r ≤ k
  | [], _, h, _ => h
  | (a, b, c) :: t, h, hk, r => by
    have h3 := h (a, b, c) (by simp)
    have h4 := look_le t (fun x hx => h x (by simp [hx])) hk r
    simp only [look]
    split
    · exact hk
    · split
      · exact h3
      · exact h4
theorem ofS_le (r : Int) : ofS r ≤ 2 := look_le tab (by decide) (by decide) r

/-- all together -/
def sumS (l : List Int) : Nat := (l.map ofS).sum
/-- how many fit -/
def fitS : Int → List Int → Nat
  | _, [] => 0
  | w, r :: t => if w < (ofS r : Int) then 0 else fitS (w - ofS r) t + 1
theorem sumS_nil : sumS [] = 0 := rfl
theorem sumS_cons (r : Int) (l : List Int) : sumS (r :: l) = ofS r + sumS l := by simp [sumS]
theorem sumS_append (a b : List Int) : sumS (a ++ b) = sumS a + sumS b := by simp [sumS]
theorem sumS_le : ∀ l : List Int, sumS l ≤ 2 * l.length
  | [] => by simp [sumS]
  | r :: l => by have := sumS_le l; have := ofS_le r; rw [sumS_cons, List.length_cons]; omega
theorem fitS_le : ∀ (l : List Int) (w : Int), fitS w l ≤ l.length
  | [], _ => Nat.le_refl _
  | r :: l, w => by
    have := fitS_le l (w - ofS r)
    simp only [fitS, List.length_cons]
    split <;> omega
/-- what fits fits -/
theorem fitS_fits : ∀ (l : List Int) (w : Int), 0 ≤ w → (sumS (l.take (fitS w l)) : Int) ≤ w
  | [], w, h => by simpa [fitS, sumS] using h
  | r :: l, w, h => by
    simp only [fitS]
    split
    · simpa [sumS] using h
    · have := fitS_fits l (w - ofS r) (by omega)
      rw [List.take_succ_cons, sumS_cons]
      omega
theorem fitS_append : ∀ (pre : List Int) (w : Int) (rest : List Int), fitS w pre = pre.length → fitS w (pre ++ rest) = pre.length + fitS (w - sumS pre) rest
  | [], w, rest, _ => by simp [sumS]
  | r :: pre, w, rest, h => by
    simp only [fitS, List.length_cons] at h
    by_cases hlt : w < (ofS r : Int)
    · rw [if_pos hlt] at h; omega
    · rw [if_neg hlt] at h
      have ih := fitS_append pre (w - ofS r) rest (by omega)
      rw [List.cons_append]
      simp only [fitS, List.length_cons, sumS_cons]
      rw [if_neg hlt, ih]
      have e : w - ((ofS r + sumS pre : Nat) : Int) = w - ofS r - (sumS pre : Int) := by omega
      rw [e]
      omega
theorem fitS_snoc {pre : List Int} {w x : Int} (h : fitS w pre = pre.length) (hx : ¬ w - sumS pre < ofS x) : fitS w (pre ++ [x]) = (pre ++ [x]).length := by
  rw [fitS_append pre w [x] h]
  simp only [fitS]
  rw [if_neg hx]
  simp
theorem fitS_stop {pre : List Int} {w x : Int} (h : fitS w pre = pre.length) (hx : w - sumS pre < ofS x) (zs : List Int) (j : Nat) (hz : pre ++ [x] = zs.take j) : fitS w zs = pre.length := by
  have e : zs = pre ++ (x :: zs.drop j) := by
    have := List.take_append_drop j zs
    rw [← hz] at this
    exact this.symm.trans (List.append_assoc _ _ _)
  have e2 : fitS (w - sumS pre) (x :: zs.drop j) = 0 := by simp only [fitS]; rw [if_pos hx]
  rw [e, fitS_append pre w _ h, e2]
  omega
end Go.Proofs.YtjlhinofglokoaaDoor.W
