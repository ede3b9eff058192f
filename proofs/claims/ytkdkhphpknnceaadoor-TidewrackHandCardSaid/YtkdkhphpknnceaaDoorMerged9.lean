/- Glyphs as the document's: the contract of the statements' Told; and whether runes are the document's: Glyphs. -/
import Derived.Test.YtkdkhphpknnceaaDoorMerged6
import Derived.Lib.QuietBelow
import Derived.BigQuiet
import Derived.Test.YtkdkhphpknnceaaDoorMerged8
import Derived.Test.YtkdkhphpknnceaaDoorRelD
import Derived.Test.YtkdkhphpknnceaaDoorRelU
namespace Go.Proofs.YtkdkhphpknnceaaDoor.C
open Go.RowKit Go.Proofs.YtkdkhphpknnceaaDoor.H

def RngG (l : List (Int × Int)) : Prop := ∀ g ∈ l, -2147483648 ≤ g.1 ∧ g.1 ≤ 2147483647
end Go.Proofs.YtkdkhphpknnceaaDoor.C

/- Lines of numbers in a row, put and asked for where there is room. -/
namespace Go.Proofs.YtkdkhphpknnceaaDoor.C
open Go.RowKit Go.Maps Go.Proofs.YtkdkhphpknnceaaDoor.H

abbrev Ent := Int × List (Int × Int)
theorem drop_one {A B : List Ent} {x : Ent} (h : ((A ++ x :: B).map (·.1)).Nodup) : dropC (A ++ x :: B) x.1 = A ++ B := by
  rw [List.map_append, List.map_cons] at h
  have h9 := List.nodup_append.1 h
  unfold dropC
  rw [List.filter_append, List.filter_cons]
  have e2 : (!(x.1 == x.1)) = false := by simp
  rw [e2, if_neg (by decide), List.filter_eq_self.2, List.filter_eq_self.2]
  · intro z hz
    have : z.1 ≠ x.1 := fun e => (List.nodup_cons.1 h9.2.1).1 (by rw [← e]; exact List.mem_map.2 ⟨z, hz, rfl⟩)
    simpa using this
  · intro z hz
    have : z.1 ≠ x.1 := fun e => h9.2.2 z.1 (List.mem_map.2 ⟨z, hz, rfl⟩) x.1 (by simp) e
    simpa using this
theorem take_snocE (A : List Ent) (k : Nat) (x : Ent) (h : A[k]? = some x) : A.take (k + 1) = A.take k ++ [x] := by
  obtain ⟨hk, he⟩ := List.getElem?_eq_some_iff.1 h
  rw [List.take_succ_eq_append_getElem hk, he]
theorem drop_consE (A : List Ent) (k : Nat) (x : Ent) (h : A[k]? = some x) : A.drop k = x :: A.drop (k + 1) := by
  obtain ⟨hk, he⟩ := List.getElem?_eq_some_iff.1 h
  rw [List.drop_eq_getElem_cons hk, he]
theorem not_ahead {A : List Ent} (hn : (A.map (·.1)).Nodup) {k : Nat} {x : Ent} (h : A[k]? = some x) : ∀ z ∈ A.take k, z.1 ≠ x.1 := fun z hz e => by
  have h1 : A = A.take k ++ x :: A.drop (k + 1) := by rw [← drop_consE A k x h, List.take_append_drop]
  rw [h1, List.map_append, List.map_cons] at hn
  exact (List.nodup_append.1 hn).2.2 z.1 (List.mem_map.2 ⟨z, hz, rfl⟩) x.1 (by simp) e
theorem put_row {A : List Ent} {k m : Nat} {x : Ent} (hn : (A.map (·.1)).Nodup) (h : A[k]? = some x) (hm : A.length ≤ m) (hx : 0 ≤ x.1 ∧ x.1 ≤ 1152921504606846976) : putC ⟨m, A.take k⟩ x.1 x.2 = (⟨m, A.take (k + 1)⟩, 0, false) := by
  have hk := (List.getElem?_eq_some_iff.1 h).1
  unfold putC
  have e1 : dropC (A.take k) x.1 ++ [(x.1, x.2)] = A.take (k + 1) := by
    rw [take_snocE A k x h, drop_none (not_ahead hn h)]
  rw [if_neg (by omega), e1, if_pos (by rw [List.length_take]; show min (k + 1) A.length ≤ m; omega)]
/-- numbers in a row -/
def InRow (f : Int) (A : List Ent) : Prop := ∀ (k : Nat) (x : Ent), A[k]? = some x → x.1 = f + k
theorem InRow.nodup {f : Int} {A : List Ent} (h : InRow f A) : (A.map (·.1)).Nodup := by
  rw [List.nodup_iff_pairwise_ne, List.pairwise_iff_getElem]
  intro i j hi hj hij
  rw [List.getElem_map, List.getElem_map]
  have hi' : i < A.length := by simpa using hi
  have hj' : j < A.length := by simpa using hj
  have h1 := h i A[i] (List.getElem?_eq_getElem hi')
  have h2 := h j A[j] (List.getElem?_eq_getElem hj')
  omega
theorem InRow.mem {f : Int} {A : List Ent} (h : InRow f A) (v : Int) : v ∈ A.map (·.1) ↔ f ≤ v ∧ v < f + A.length := by
  constructor
  · intro hv
    obtain ⟨x, hx, rfl⟩ := List.mem_map.1 hv
    obtain ⟨k, hk, he⟩ := List.mem_iff_getElem.1 hx
    have h1 := h k x (by rw [List.getElem?_eq_getElem hk, he])
    omega
  · rintro ⟨h1, h2⟩
    have hk : (v - f).toNat < A.length := by omega
    have h3 := h (v - f).toNat A[(v - f).toNat] (List.getElem?_eq_getElem hk)
    exact List.mem_map.2 ⟨_, List.getElem_mem hk, by rw [h3]; omega⟩
end Go.Proofs.YtkdkhphpknnceaaDoor.C

/- CacheRoom: where there is room none goes, and each is at hand as it was put. -/
namespace Go.Proofs.YtkdkhphpknnceaaDoor.C
open Go.RowKit Go.Maps Go.Proofs.YtkdkhphpknnceaaDoor.H

/-- a line that was handed in -/
structure LArg where
  sa : Option Addr
  sn : Nat
  sc : Nat
  g : List (Int × Int)
structure LArgsIn (a : Option Addr) (n c : Nat) (l : List LArg) (w : World) : Prop where
  len : n = l.length
  fit : n ≤ c
  top : (c : Int) ≤ 9223372036854775807
  at_ : l = [] ∨ ∃ b off, a = some ⟨b, off, none⟩ ∧ b < w.heap.size ∧ ∀ i A, l[i]? = some A → w.cell? ⟨b, off + i, none⟩ = some (.slice A.sa A.sn A.sc)
  sub : ∀ A ∈ l, PairsIn .i32 A.sa A.sn A.sc A.g w ∧ (A.sa = none → A.sc = 0) ∧ RngG A.g
theorem LArgsIn.one {a : Option Addr} {n c : Nat} {l : List LArg} {w : World} (h : LArgsIn a n c l w) {k : Nat} (hk : k < n) : ∃ b off A, a = some ⟨b, off, none⟩ ∧ b < w.heap.size ∧ l[k]? = some A ∧ w.cell? ⟨b, off + k, none⟩ = some (.slice A.sa A.sn A.sc) := by
  obtain ⟨A, hA⟩ : ∃ A, l[k]? = some A := ⟨_, List.getElem?_eq_getElem (by rw [← h.len]; exact hk)⟩
  obtain ⟨b, off, ha, hb, hi⟩ := h.at_.resolve_left (by intro e; rw [e] at hA; cases hA)
  exact ⟨b, off, A, ha, hb, hA, hi k A hA⟩
theorem pairs_front {rk : IntKind} {a : Option Addr} {n c : Nat} {l : List (Int × Int)} {w : World} (h : PairsIn rk a n c l w) {k : Nat} (hk : k ≤ n) : PairsIn rk a k c (l.take k) w := by
  refine ⟨by rw [List.length_take, ← h.len]; omega, Nat.le_trans hk h.fit, h.top, ?_⟩
  rcases h.at_ with e | ⟨b, off, ha, hb, hi⟩
  · exact .inl (by rw [e]; simp)
  · refine .inr ⟨b, off, ha, hb, fun i g hg => ?_⟩
    rw [List.getElem?_take] at hg
    split at hg
    · exact hi i g hg
    · cases hg
def StR (w : World) (Q : World → Prop) : Nat → (Nat → Value) → World → Prop
  | 0, _, u => EqD w u
  | _, _, u => Q u
theorem StR.cong {w : World} {Q : World → Prop} {k : Nat} {f f2 : Nat → Value} {u : World} (h : StR w Q k f u) : StR w Q k f2 u := by
  match k, h with
  | 0, h => exact h
  | _ + 1, h => exact h
end Go.Proofs.YtkdkhphpknnceaaDoor.C

/- Plain facts on columns: the table's answer is the document's; sums, and how many fit. No Go here. -/
namespace Go.Proofs.YtkdkhphpknnceaaDoor.W

/-- the spans, rising: from, to, columns -/
def tab : List (Int × Int × Nat) := [(-2147483648, 31, 0), (127, 159, 0), (768, 879, 0), (4352, 4447, 2), (6832, 6911, 0), (7616, 7679, 0), (8203, 8207, 0), (8400, 8447, 0), (11904, 12350, 2), (12353, 13311, 2), (13312, 19903, 2), (19968, 40959, 2), (40960, 42191, 2), (44032, 55203, 2), (55296, 57343, 0), (63744, 64255, 2), (65024, 65039, 0), (65056, 65071, 0), (65072, 65135, 2), (65279, 65279, 0), (65280, 65376, 2), (65504, 65510, 2), (127744, 128591, 2), (129280, 129535, 2), (131072, 262141, 2), (917760, 917999, 0), (1114112, 2147483647, 0)]
/-- the first span that it is in, if none before begins behind it -/
def look : List (Int × Int × Nat) → Int → Nat
  | [], _ => 1
  | (a, b, c) :: t, r => if r < a then 1 else if r ≤ b then c else look t r
def ofS (r : Int) : Nat := look tab r
/-- what the rest of the table says, if nothing before it does -/
def rest (k : Nat) (r : Int) : Nat := look (tab.drop k) r
theorem rest_step (k : Nat) (hk : k < 27) (r : Int) : rest k r = if r < (tab.getD k (0, 0, 0)).1 then 1 else if r ≤ (tab.getD k (0, 0, 0)).2.1 then (tab.getD k (0, 0, 0)).2.2 else rest (k + 1) r := by
  have h : tab.drop k = tab.getD k (0, 0, 0) :: tab.drop (k + 1) := by
    have hk' : k < tab.length := hk
    rw [List.drop_eq_getElem_cons hk']
    simp [List.getD_eq_getElem?_getD, hk']
  unfold rest
  rw [h]
  rfl
def pairs : List Int → List (Int × Int)
  | a :: b :: t => (a, b) :: pairs (b :: t)
  | _ => []
theorem between (r : Int) : ∀ (l : List Int) (a : Int), a ≤ r → r < (a :: l).getLast (by simp) → ∃ p ∈ pairs (a :: l), p.1 ≤ r ∧ r < p.2
  | [], a, h1, h2 => by simp at h2; omega
  | b :: l, a, h1, h2 => by
    by_cases h : r < b
    · exact ⟨(a, b), by simp [pairs], h1, h⟩
    · obtain ⟨p, hp, h3⟩ := between r l b (by omega) (by simpa using h2)
      exact ⟨p, by simp only [pairs]; exact List.mem_cons_of_mem _ hp, h3⟩
theorem look_le {k : Nat} : ∀ t : List (Int × Int × Nat), (∀ x ∈ t, x.2.2 ≤ k) → 1 ≤ k → ∀ r, look t r ≤ k
  | [], _, h, _ => h
  | (a, b, c) :: t, h, hk, r => by
    have h3 := h (a, b, c) (by simp)
    have h4 := look_le t (fun x hx => h x (by simp [hx])) hk r
    simp only [look]
    split
    · exact hk
    · split
      · exact h3
      · exact h4
theorem ofS_le (r : Int) : ofS r ≤ 2 := look_le tab (by decide) (by decide) r

/-- all together -/
def sumS (l : List Int) : Nat := (l.map ofS).sum
/-- how many fit -/
def fitS : Int → List Int → Nat
  | _, [] => 0
  | w, r :: t => if w < (ofS r : Int) then 0 else fitS (w - ofS r) t + 1
theorem sumS_nil : sumS [] = 0 := rfl
theorem sumS_cons (r : Int) (l : List Int) : sumS (r :: l) = ofS r + sumS l := by simp [sumS]
theorem sumS_append (a b : List Int) : sumS (a ++ b) = sumS a + sumS b := by simp [sumS]
theorem sumS_le : ∀ l : List Int, sumS l ≤ 2 * l.length
  | [] => by simp [sumS]
  | r :: l => by have := sumS_le l; have := ofS_le r; rw [sumS_cons, List.length_cons]; omega
theorem fitS_le : ∀ (l : List Int) (w : Int), fitS w l ≤ l.length
  | [], _ => Nat.le_refl _
  | r :: l, w => by
    have := fitS_le l (w - ofS r)
    simp only [fitS, List.length_cons]
    split <;> omega
/-- what fits fits -/
theorem fitS_fits : ∀ (l : List Int) (w : Int), 0 ≤ w → (sumS (l.take (fitS w l)) : Int) ≤ w
  | [], w, h => by simpa [fitS, sumS] using h
  | r :: l, w, h => by
    simp only [fitS]
    split
    · simpa [sumS] using h
    · have := fitS_fits l (w - ofS r) (by omega)
      rw [List.take_succ_cons, sumS_cons]
      omega
theorem fitS_append : ∀ (pre : List Int) (w : Int) (rest : List Int), fitS w pre = pre.length → fitS w (pre ++ rest) = pre.length + fitS (w - sumS pre) rest
  | [], w, rest, _ => by simp [sumS]
  | r :: pre, w, rest, h => by
    simp only [fitS, List.length_cons] at h
    by_cases hlt : w < (ofS r : Int)
    · rw [if_pos hlt] at h; omega
    · rw [if_neg hlt] at h
      have ih := fitS_append pre (w - ofS r) rest (by omega)
      rw [List.cons_append]
      simp only [fitS, List.length_cons, sumS_cons]
      rw [if_neg hlt, ih]
      have e : w - ((ofS r + sumS pre : Nat) : Int) = w - ofS r - (sumS pre : Int) := by omega
      rw [e]
      omega
theorem fitS_snoc {pre : List Int} {w x : Int} (h : fitS w pre = pre.length) (hx : ¬ w - sumS pre < ofS x) : fitS w (pre ++ [x]) = (pre ++ [x]).length := by
  rw [fitS_append pre w [x] h]
  simp only [fitS]
  rw [if_neg hx]
  simp
theorem fitS_stop {pre : List Int} {w x : Int} (h : fitS w pre = pre.length) (hx : w - sumS pre < ofS x) (zs : List Int) (j : Nat) (hz : pre ++ [x] = zs.take j) : fitS w zs = pre.length := by
  have e : zs = pre ++ (x :: zs.drop j) := by
    have := List.take_append_drop j zs
    rw [← hz] at this
    exact this.symm.trans (List.append_assoc _ _ _)
  have e2 : fitS (w - sumS pre) (x :: zs.drop j) = 0 := by simp only [fitS]; rw [if_pos hx]
  rw [e, fitS_append pre w _ h, e2]
  omega
end Go.Proofs.YtkdkhphpknnceaaDoor.W
