/- Lines cut into rows, as lists: where the program cuts, what the document gathers, and where a glyph is. No Go here. -/
import Derived.Test.YtjlhinofglokoaaDoorWMath
namespace Go.Proofs.YtjlhinofglokoaaDoor.F
open W (ofS sumS fitS fitS_le sumS_cons sumS_append sumS_nil ofS_le fitS_fits)

/-- a line's runes -/
def runesF (l : List (Int × Int)) : List Int := l.map Prod.fst
def sumG (l : List (Int × Int)) : Nat := sumS (runesF l)
theorem sumG_nil : sumG [] = 0 := rfl
theorem sumG_cons (g : Int × Int) (l : List (Int × Int)) : sumG (g :: l) = ofS g.1 + sumG l := by unfold sumG runesF; rw [List.map_cons, sumS_cons]
theorem sumG_append (a b : List (Int × Int)) : sumG (a ++ b) = sumG a + sumG b := by unfold sumG runesF; rw [List.map_append, sumS_append]
/-- from where on, and up to where, a row goes; f is for the end alone -/
def cutFrom (w : Int) (zs : List Int) : Nat → Nat → List (Nat × Nat)
  | 0, _ => []
  | f + 1, a => (a, a + fitS w (zs.drop a)) :: if a + fitS w (zs.drop a) = zs.length then [] else cutFrom w zs f (a + fitS w (zs.drop a))
def cutsF (w : Int) (zs : List Int) : List (Nat × Nat) := cutFrom w zs (zs.length + 1) 0
theorem fitS_pos {w : Int} (hw : 2 ≤ w) {zs : List Int} (h : zs ≠ []) : 1 ≤ fitS w zs := by
  cases zs with
  | nil => exact absurd rfl h
  | cons z zs =>
    have := ofS_le z
    simp only [fitS]
    rw [if_neg (by omega)]
    omega
/-- what the document gathers -/
def brk (w : Int) : List (Int × Int) → List (Int × Int) → Nat → List (List (Int × Int))
  | [], cur, _ => [cur]
  | g :: l, cur, s => if w < ((s + ofS g.1 : Nat) : Int) then cur :: brk w l [g] (ofS g.1) else brk w l (cur ++ [g]) (s + ofS g.1)
theorem brk_eq (w : Int) (g : Int × Int) (l cur : List (Int × Int)) (s : Nat) : brk w (g :: l) cur s = if w < ((s + ofS g.1 : Nat) : Int) then cur :: brk w l [g] (ofS g.1) else brk w l (cur ++ [g]) (s + ofS g.1) := rfl
def cutR (w : Int) (l : List (Int × Int)) : List (List (Int × Int)) := brk w l [] 0
theorem brk_fit {w : Int} (hw : 2 ≤ w) : ∀ (l cur : List (Int × Int)) (s : Nat), (s : Int) ≤ w →
    brk w l cur s = if fitS (w - s) (runesF l) = l.length then [cur ++ l] else (cur ++ l.take (fitS (w - s) (runesF l))) :: brk w (l.drop (fitS (w - s) (runesF l))) [] 0
  | [], cur, s, _ => by simp [brk, runesF, fitS]
  | g :: l, cur, s, hs => by
    rw [brk_eq]
    have hof := ofS_le g.1
    by_cases h : w < ((s + ofS g.1 : Nat) : Int)
    · have e : fitS (w - s) (runesF (g :: l)) = 0 := by
        show fitS (w - s) (g.1 :: runesF l) = 0
        simp only [fitS]
        rw [if_pos (by omega)]
      rw [if_pos h, e, if_neg (by simp), List.take_zero, List.append_nil, List.drop_zero]
      congr 1
      rw [brk_eq, if_neg (by omega)]
      simp
    · have e : fitS (w - s) (runesF (g :: l)) = fitS (w - ((s + ofS g.1 : Nat) : Int)) (runesF l) + 1 := by
        show fitS (w - s) (g.1 :: runesF l) = _
        simp only [fitS]
        rw [if_neg (by omega)]
        congr 2
        omega
      rw [if_neg h, e, brk_fit hw l (cur ++ [g]) (s + ofS g.1) (by omega), List.length_cons, List.take_succ_cons, List.drop_succ_cons]
      by_cases h2 : fitS (w - ((s + ofS g.1 : Nat) : Int)) (runesF l) = l.length
      · rw [if_pos h2, if_pos (by omega)]; simp
      · rw [if_neg h2, if_neg (by omega), List.append_assoc]; rfl
theorem runesF_len (l : List (Int × Int)) : (runesF l).length = l.length := List.length_map ..
theorem runesF_drop (l : List (Int × Int)) (k : Nat) : (runesF l).drop k = runesF (l.drop k) := by unfold runesF; rw [List.map_drop]
theorem runesF_take (l : List (Int × Int)) (k : Nat) : (runesF l).take k = runesF (l.take k) := by unfold runesF; rw [List.map_take]
/-- the row of a cut -/
def rowOfC (l : List (Int × Int)) (p : Nat × Nat) : List (Int × Int) := (l.drop p.1).take (p.2 - p.1)
theorem cutFrom_rows {w : Int} (hw : 2 ≤ w) (l : List (Int × Int)) : ∀ (f a : Nat), l.length ≤ a + f → a ≤ l.length → (a < l.length ∨ l = [] ) → 1 ≤ f →
    (cutFrom w (runesF l) f a).map (rowOfC l) = cutR w (l.drop a)
  | 0, a, _, _, _, h1 => absurd h1 (by omega)
  | f + 1, a, hf, ha, hne, _ => by
    unfold cutFrom cutR
    rw [brk_fit hw (l.drop a) [] 0 (by omega)]
    have e0 : (w - ((0 : Nat) : Int)) = w := by omega
    rw [e0, runesF_drop, runesF_len]
    obtain ⟨k, hk⟩ : ∃ k, fitS w (runesF (l.drop a)) = k := ⟨_, rfl⟩
    have hkl : k ≤ l.length - a := by
      have := fitS_le (runesF (l.drop a)) w
      rw [runesF_len, List.length_drop, hk] at this
      exact this
    have hkp : l ≠ [] → 1 ≤ k := fun hl => by
      rw [← hk]
      refine fitS_pos hw (fun e => ?_)
      have e2 : (runesF (l.drop a)).length = 0 := by rw [e]; rfl
      rw [runesF_len, List.length_drop] at e2
      rcases hne with h | h
      · omega
      · exact hl h
    rw [hk, List.length_drop, List.map_cons]
    have er : rowOfC l (a, a + k) = (l.drop a).take k := by unfold rowOfC; simp
    by_cases h : a + k = l.length
    · rw [if_pos h, if_pos (by omega), er]
      simp only [List.map_nil, List.nil_append]
      congr 1
      exact List.take_of_length_le (by rw [List.length_drop]; omega)
    · rw [if_neg h, if_neg (by omega), er]
      have hl : l ≠ [] := by rintro rfl; simp at h hkl ha; omega
      have hk1 := hkp hl
      rw [cutFrom_rows hw l f (a + k) (by omega) (by omega) (.inl (by omega)) (by omega), List.drop_drop]
      rfl
theorem cuts_rows {w : Int} (hw : 2 ≤ w) (l : List (Int × Int)) : (cutsF w (runesF l)).map (rowOfC l) = cutR w l := by
  unfold cutsF
  rw [runesF_len, cutFrom_rows hw l (l.length + 1) 0 (by omega) (by omega) (by cases l with | nil => exact .inr rfl | cons _ _ => exact .inl (by simp)) (by omega), List.drop_zero]
theorem cuts_count {w : Int} (hw : 2 ≤ w) (l : List (Int × Int)) : (cutsF w (runesF l)).length = (cutR w l).length := by rw [← cuts_rows hw l, List.length_map]
/-- rows joined are the line -/
theorem brk_join (w : Int) : ∀ (l cur : List (Int × Int)) (s : Nat), (brk w l cur s).flatten = cur ++ l
  | [], cur, s => by simp [brk]
  | g :: l, cur, s => by
    unfold brk
    split
    · rw [List.flatten_cons, brk_join w l]; simp
    · rw [brk_join w l]; simp
theorem cutR_join (w : Int) (l : List (Int × Int)) : (cutR w l).flatten = l := by unfold cutR; rw [brk_join]; rfl
theorem brk_fits {w : Int} (hw : 2 ≤ w) : ∀ (l cur : List (Int × Int)) (s : Nat), s = sumG cur → (s : Int) ≤ w → ∀ r ∈ brk w l cur s, (sumG r : Int) ≤ w
  | [], cur, s, h1, h2, r, hr => by
    rw [show r = cur by simpa [brk] using hr, ← h1]
    exact h2
  | g :: l, cur, s, h1, h2, r, hr => by
    unfold brk at hr
    have hof := ofS_le g.1
    split at hr
    · rcases List.mem_cons.1 hr with rfl | hr
      · rw [← h1]; exact h2
      · exact brk_fits hw l [g] _ (by rw [sumG_cons, sumG_nil]; rfl) (by omega) r hr
    · exact brk_fits hw l _ _ (by rw [sumG_append, sumG_cons, sumG_nil, h1]; rfl) (by omega) r hr
theorem cutR_fits {w : Int} (hw : 2 ≤ w) (l : List (Int × Int)) : ∀ r ∈ cutR w l, (sumG r : Int) ≤ w := brk_fits hw l [] 0 rfl (by omega)
theorem brk_cons (w : Int) : ∀ (l cur : List (Int × Int)) (s : Nat), ∃ r rs, brk w l cur s = r :: rs ∧ cur <+: r
  | [], cur, s => ⟨cur, [], rfl, List.prefix_refl _⟩
  | g :: l, cur, s => by
    unfold brk
    split
    · exact ⟨_, _, rfl, List.prefix_refl _⟩
    · obtain ⟨r, rs, h1, h2⟩ := brk_cons w l (cur ++ [g]) (s + ofS g.1)
      exact ⟨r, rs, h1, (List.prefix_append _ _).trans h2⟩
/-- where a glyph is -/
def place (w : Int) : Nat → List (Int × Int) → Nat → Nat × Nat
  | _, [], _ => (0, 0)
  | s, g :: _, 0 => if w < ((s + ofS g.1 : Nat) : Int) then (1, 0) else (0, s)
  | s, g :: l, i + 1 => if w < ((s + ofS g.1 : Nat) : Int) then ((place w (ofS g.1) l i).1 + 1, (place w (ofS g.1) l i).2) else place w (s + ofS g.1) l i
/-- the same, by rows -/
def atB : List (List (Int × Int)) → Nat → Option (Nat × Nat)
  | [], _ => none
  | r :: rs, i => if i < r.length then some (0, sumG (r.take i)) else (atB rs (i - r.length)).map fun p => (p.1 + 1, p.2)
theorem atB_brk (w : Int) : ∀ (l cur : List (Int × Int)) (s i : Nat), s = sumG cur → i < l.length → atB (brk w l cur s) (cur.length + i) = some (place w s l i)
  | [], cur, s, i, hs, hi => by simp at hi
  | g :: l, cur, s, i, hs, hi => by
    unfold brk
    by_cases h : w < ((s + ofS g.1 : Nat) : Int)
    · rw [if_pos h]
      unfold atB
      rw [if_neg (by omega), show cur.length + i - cur.length = i by omega]
      cases i with
      | zero =>
        obtain ⟨r, rs, e, ⟨t, ht⟩⟩ := brk_cons w l [g] (ofS g.1)
        rw [e]
        unfold atB
        rw [if_pos (by rw [← ht]; simp), List.take_zero]
        unfold place
        rw [if_pos h]
        rfl
      | succ i =>
        have := atB_brk w l [g] (ofS g.1) i (by rw [sumG_cons, sumG_nil]; rfl) (by simpa using hi)
        rw [show i + 1 = [g].length + i by simp; omega, this]
        rw [show [g].length + i = i + 1 by simp; omega]
        conv => rhs; unfold place
        rw [if_pos h]
        rfl
    · rw [if_neg h]
      cases i with
      | zero =>
        obtain ⟨r, rs, e, ⟨t, ht⟩⟩ := brk_cons w l (cur ++ [g]) (s + ofS g.1)
        rw [e]
        unfold atB
        have hl : cur.length < r.length := by rw [← ht]; simp
        rw [if_pos (by omega), ← ht]
        unfold place
        rw [if_neg h, Nat.add_zero, List.append_assoc, List.take_left', hs]
        rfl
      | succ i =>
        have := atB_brk w l (cur ++ [g]) (s + ofS g.1) i (by rw [sumG_append, sumG_cons, sumG_nil, hs]; rfl) (by simpa using hi)
        rw [show cur.length + (i + 1) = (cur ++ [g]).length + i by simp; omega, this]
        conv => rhs; unfold place
        rw [if_neg h]
theorem atB_cut (w : Int) (l : List (Int × Int)) (i : Nat) (hi : i < l.length) : atB (cutR w l) i = some (place w 0 l i) := by
  have := atB_brk w l [] 0 i rfl hi
  simpa [cutR] using this
theorem brk_few {w : Int} (hw : 2 ≤ w) : ∀ (l cur : List (Int × Int)) (s : Nat), (s : Int) ≤ 2 * cur.length → (brk w l cur s).length ≤ l.length + 1 ∧ (cur = [] → l ≠ [] → (brk w l cur s).length ≤ l.length)
  | [], cur, s, _ => ⟨by simp [brk], fun _ h => absurd rfl h⟩
  | g :: l, cur, s, hs => by
    have hof := ofS_le g.1
    have h1 := brk_few hw l [g] (ofS g.1) (by simp; omega)
    have h2 := brk_few hw l (cur ++ [g]) (s + ofS g.1) (by simp; omega)
    refine ⟨?_, fun hc _ => ?_⟩
    · unfold brk
      split
      · rw [List.length_cons, List.length_cons]; omega
      · rw [List.length_cons]; omega
    · subst hc
      unfold brk
      rw [if_neg (by simp at hs; omega), List.length_cons]
      exact h2.1
/-- cuts follow each other -/
theorem cutFrom_ge (w : Int) (zs : List Int) : ∀ (f a : Nat), ∀ p ∈ cutFrom w zs f a, a ≤ p.1 ∧ p.1 ≤ p.2
  | 0, _, p, hp => by cases hp
  | f + 1, a, p, hp => by
    unfold cutFrom at hp
    rcases List.mem_cons.1 hp with rfl | hp
    · exact ⟨Nat.le_refl _, Nat.le_add_right _ _⟩
    · split at hp
      · cases hp
      · have := cutFrom_ge w zs f _ p hp
        exact ⟨by omega, this.2⟩
theorem cutFrom_le (w : Int) (zs : List Int) : ∀ (f a : Nat), a ≤ zs.length → ∀ p ∈ cutFrom w zs f a, p.2 ≤ zs.length
  | 0, _, _, p, hp => by cases hp
  | f + 1, a, ha, p, hp => by
    have hk := fitS_le (zs.drop a) w
    rw [List.length_drop] at hk
    unfold cutFrom at hp
    rcases List.mem_cons.1 hp with rfl | hp
    · simp only; omega
    · split at hp
      · cases hp
      · exact cutFrom_le w zs f _ (by omega) p hp
theorem atB_cutFrom (w : Int) (l : List (Int × Int)) (i : Nat) : ∀ (f a j : Nat) (p : Nat × Nat), a ≤ i → a ≤ l.length → (cutFrom w (runesF l) f a)[j]? = some p → p.1 ≤ i → i < p.2 →
    atB ((cutFrom w (runesF l) f a).map (rowOfC l)) (i - a) = some (j, sumG ((l.drop p.1).take (i - p.1)))
  | 0, _, _, p, _, _, h, _, _ => by cases h
  | f + 1, a, j, p, ha, hl, h, h1, h2 => by
    have hk := fitS_le ((runesF l).drop a) w
    rw [List.length_drop, runesF_len] at hk
    unfold cutFrom at h ⊢
    obtain ⟨b, hb⟩ : ∃ b, a + fitS w ((runesF l).drop a) = b := ⟨_, rfl⟩
    rw [hb] at h ⊢
    have hrl : (rowOfC l (a, b)).length = b - a := by unfold rowOfC; rw [List.length_take, List.length_drop]; omega
    rw [List.map_cons]
    cases j with
    | zero =>
      obtain rfl : (a, b) = p := by simpa using h
      unfold atB
      rw [if_pos (by rw [hrl]; simp only at h2; omega)]
      have e : (rowOfC l (a, b)).take (i - a) = (l.drop a).take (i - a) := by
        unfold rowOfC
        rw [List.take_take, Nat.min_eq_left (by simp only at h2 ⊢; omega)]
      rw [e]
    | succ j =>
      rw [List.getElem?_cons_succ] at h
      split at h
      · simp at h
      · rename_i hne
        have hge := (cutFrom_ge w (runesF l) f b p (List.mem_of_getElem? h)).1
        unfold atB
        rw [if_neg (by rw [hrl]; omega), if_neg hne, hrl, show i - a - (b - a) = i - b by omega, atB_cutFrom w l i f b j p (by omega) (by omega) h h1 h2]
        rfl
theorem cutFrom_all {w : Int} (hw : 2 ≤ w) (zs : List Int) (i : Nat) : ∀ (f a : Nat), a ≤ zs.length → zs.length < a + f → a ≤ i → i < zs.length → ∃ p ∈ cutFrom w zs f a, p.1 ≤ i ∧ i < p.2
  | 0, a, h1, h2, _, _ => by omega
  | f + 1, a, h1, h2, h3, h4 => by
    have hk := fitS_le (zs.drop a) w
    rw [List.length_drop] at hk
    have hp := fitS_pos hw (zs := zs.drop a) (by intro e; have : (zs.drop a).length = 0 := by rw [e]; rfl
                                                 rw [List.length_drop] at this; omega)
    unfold cutFrom
    obtain ⟨b, hb⟩ : ∃ b, a + fitS w (zs.drop a) = b := ⟨_, rfl⟩
    rw [hb]
    by_cases h : i < b
    · exact ⟨(a, b), List.mem_cons_self, h3, h⟩
    · obtain ⟨p, hp1, hp2⟩ := cutFrom_all hw zs i f b (by omega) (by omega) (by omega) h4
      exact ⟨p, List.mem_cons_of_mem _ (by rw [if_neg (by omega)]; exact hp1), hp2⟩
/-- where the program finds a glyph -/
def atF (w : Int) (l : List (Int × Int)) (i : Int) : Nat × Nat := if 0 ≤ i ∧ i < l.length then place w 0 l i.toNat else (0, 0)
theorem at_found {w : Int} (hw : 2 ≤ w) {l : List (Int × Int)} {i j : Nat} {p : Nat × Nat} (h : (cutsF w (runesF l))[j]? = some p) (h1 : p.1 ≤ i) (h2 : i < p.2) : atF w l i = (j, sumS (((runesF l).drop p.1).take (i - p.1))) := by
  have hle := cutFrom_le w (runesF l) _ 0 (Nat.zero_le _) p (List.mem_of_getElem? h)
  rw [runesF_len] at hle
  have h3 := atB_cutFrom w l i ((runesF l).length + 1) 0 j p (Nat.zero_le _) (Nat.zero_le _) h h1 h2
  have h4 := cuts_rows hw l
  unfold cutsF at h4
  rw [h4, Nat.sub_zero, atB_cut w l i (by omega)] at h3
  unfold atF
  rw [if_pos (by omega), Int.toNat_natCast, Option.some.inj h3, runesF_drop, runesF_take]
  rfl
theorem at_none {w : Int} (hw : 2 ≤ w) {l : List (Int × Int)} {i : Int} (h : ∀ p ∈ cutsF w (runesF l), ¬ ((p.1 : Int) ≤ i ∧ i < (p.2 : Int))) : atF w l i = (0, 0) := by
  unfold atF
  rw [if_neg]
  rintro ⟨h1, h2⟩
  obtain ⟨p, hp, h3, h4⟩ := cutFrom_all hw (runesF l) i.toNat ((runesF l).length + 1) 0 (Nat.zero_le _) (by omega) (Nat.zero_le _) (by rw [runesF_len]; omega)
  exact h p hp ⟨by omega, by omega⟩
/-- and the document, by its rows -/
theorem atB_snoc : ∀ (rs : List (List (Int × Int))) (i j : Nat) (r : List (Int × Int)), rs[j]? = some r → (rs.take j).flatten.length ≤ i → i < (rs.take j).flatten.length + r.length → atB rs i = some (j, sumG (r.take (i - (rs.take j).flatten.length)))
  | [], _, _, _, h, _, _ => by cases h
  | q :: rs, i, 0, r, h, h1, h2 => by
    obtain rfl : q = r := by simpa using h
    simp only [List.take_zero, List.flatten_nil, List.length_nil, Nat.zero_add, Nat.sub_zero] at h2 ⊢
    unfold atB
    rw [if_pos h2]
  | q :: rs, i, j + 1, r, h, h1, h2 => by
    rw [List.take_succ_cons, List.flatten_cons, List.length_append] at h1 h2 ⊢
    unfold atB
    rw [if_neg (by omega), atB_snoc rs (i - q.length) j r (by simpa using h) (by omega) (by omega), show i - q.length - (rs.take j).flatten.length = i - (q.length + (rs.take j).flatten.length) by omega]
    rfl
end Go.Proofs.YtjlhinofglokoaaDoor.F
