/- Lines cut into rows, as lists: where the program cuts, what the document gathers, and where a glyph is. No Go here. -/
import Derived.Test.YtkdkhphpknnceaaDoorWMath
import Derived.Test.YtkdkhphpknnceaaDoorRows
import Derived.WalkKit
import Derived.WalkLawsBesides
import Derived.WalkSpells
import Derived.Outline
import Derived.Lib.Hide
import Derived.Below
import Derived.IntWalk
import Derived.OwnWalk
namespace Go.Proofs.YtkdkhphpknnceaaDoor.F
open W (ofS sumS fitS fitS_le sumS_cons sumS_append sumS_nil ofS_le fitS_fits)

/-- a line's runes -/
def runesF (l : List (Int × Int)) : List Int := l.map Prod.fst
/-- from where on, and up to where, a row goes; f is for the end alone -/
def cutFrom (w : Int) (zs : List Int) : Nat → Nat → List (Nat × Nat)
  | 0, _ => []
  | f + 1, a => (a, a + fitS w (zs.drop a)) :: if a + fitS w (zs.drop a) = zs.length then [] else cutFrom w zs f (a + fitS w (zs.drop a))
def cutsF (w : Int) (zs : List Int) : List (Nat × Nat) := cutFrom w zs (zs.length + 1) 0
theorem fitS_pos {w : Int} (hw : 2 ≤ w) {zs : List Int} (h : zs ≠ []) : 1 ≤ fitS w zs := by
  cases zs with
  | nil => exact absurd rfl h
  | cons z zs =>
    have := ofS_le z
    simp only [fitS]
    rw [if_neg (by omega)]
    omega
/-- what the document gathers -/
def brk (w : Int) : List (Int × Int) → List (Int × Int) → Nat → List (List (Int × Int))
  | [], cur, _ => [cur]
  | g :: l, cur, s => if w < ((s + ofS g.1 : Nat) : Int) then cur :: brk w l [g] (ofS g.1) else brk w l (cur ++ [g]) (s + ofS g.1)
theorem brk_eq (w : Int) (g : Int × Int) (l cur : List (Int × Int)) (s : Nat) : brk w (g :: l) cur s = if w < ((s + ofS g.1 : Nat) : Int) then cur :: brk w l [g] (ofS g.1) else brk w l (cur ++ [g]) (s + ofS g.1) := rfl
def cutR (w : Int) (l : List (Int × Int)) : List (List (Int × Int)) := brk w l [] 0
theorem brk_fit {w : Int} (hw : 2 ≤ w) : ∀ (l cur : List (Int × Int)) (s : Nat), (s : Int) ≤ w →
    brk w l cur s = if fitS (w - s) (runesF l) = l.length then [cur ++ l] else (cur ++ l.take (fitS (w - s) (runesF l))) :: brk w (l.drop (fitS (w - s) (runesF l))) [] 0
  | [], cur, s, _ => by simp [brk, runesF, fitS]
  | g :: l, cur, s, hs => by
    rw [brk_eq]
    have hof := ofS_le g.1
    by_cases h : w < ((s + ofS g.1 : Nat) : Int)
    · have e : fitS (w - s) (runesF (g :: l)) = 0 := by
        show fitS (w - s) (g.1 :: runesF l) = 0
        simp only [fitS]
        rw [if_pos (by omega)]
      rw [if_pos h, e, if_neg (by simp), List.take_zero, List.append_nil, List.drop_zero]
      congr 1
      rw [brk_eq, if_neg (by omega)]
      simp
    · have e : fitS (w - s) (runesF (g :: l)) = fitS (w - ((s + ofS g.1 : Nat) : Int)) (runesF l) + 1 := by
        show fitS (w - s) (g.1 :: runesF l) = _
        simp only [fitS]
        rw [if_neg (by omega)]
        congr 2
        omega
      rw [if_neg h, e, brk_fit hw l (cur ++ [g]) (s + ofS g.1) (by omega), List.length_cons, List.take_succ_cons, List.drop_succ_cons]
      by_cases h2 : fitS (w - ((s + ofS g.1 : Nat) : Int)) (runesF l) = l.length
      · rw [if_pos h2, if_pos (by omega)]; simp
      · rw [if_neg h2, if_neg (by omega), List.append_assoc]; rfl
theorem runesF_len (l : List (Int × Int)) : (runesF l).length = l.length := List.length_map ..
theorem runesF_drop (l : List (Int × Int)) (k : Nat) : (runesF l).drop k = runesF (l.drop k) := by unfold runesF; rw [List.map_drop]
/-- the row of a cut -/
def rowOfC (l : List (Int × Int)) (p : Nat × Nat) : List (Int × Int) := (l.drop p.1).take (p.2 - p.1)
theorem cutFrom_rows {w : Int} (hw : 2 ≤ w) (l : List (Int × Int)) : ∀ (f a : Nat), l.length ≤ a + f → a ≤ l.length → (a < l.length ∨ l = [] ) → 1 ≤ f →
    (cutFrom w (runesF l) f a).map (rowOfC l) = cutR w (l.drop a)
  | 0, a, _, _, _, h1 => absurd h1 (by omega)
  | f + 1, a, hf, ha, hne, _ => by
    unfold cutFrom cutR
    rw [brk_fit hw (l.drop a) [] 0 (by omega)]
    have e0 : (w - ((0 : Nat) : Int)) = w := by omega
    rw [e0, runesF_drop, runesF_len]
    obtain ⟨k, hk⟩ : ∃ k, fitS w (runesF (l.drop a)) = k := ⟨_, rfl⟩
    have hkl : k ≤ l.length - a := by
      have := fitS_le (runesF (l.drop a)) w
      rw [runesF_len, List.length_drop, hk] at this
      exact this
    have hkp : l ≠ [] → 1 ≤ k := fun hl => by
      rw [← hk]
      refine fitS_pos hw (fun e => ?_)
      have e2 : (runesF (l.drop a)).length = 0 := by rw [e]; rfl
      rw [runesF_len, List.length_drop] at e2
      rcases hne with h | h
      · omega
      · exact hl h
    rw [hk, List.length_drop, List.map_cons]
    have er : rowOfC l (a, a + k) = (l.drop a).take k := by unfold rowOfC; simp
    by_cases h : a + k = l.length
    · rw [if_pos h, if_pos (by omega), er]
      simp only [List.map_nil, List.nil_append]
      congr 1
      exact List.take_of_length_le (by rw [List.length_drop]; omega)
    · rw [if_neg h, if_neg (by omega), er]
      have hl : l ≠ [] := by rintro rfl; simp at h hkl ha; omega
      have hk1 := hkp hl
      rw [cutFrom_rows hw l f (a + k) (by omega) (by omega) (.inl (by omega)) (by omega), List.drop_drop]
      rfl
theorem cuts_rows {w : Int} (hw : 2 ≤ w) (l : List (Int × Int)) : (cutsF w (runesF l)).map (rowOfC l) = cutR w l := by
  unfold cutsF
  rw [runesF_len, cutFrom_rows hw l (l.length + 1) 0 (by omega) (by omega) (by cases l with | nil => exact .inr rfl | cons _ _ => exact .inl (by simp)) (by omega), List.drop_zero]
theorem cuts_count {w : Int} (hw : 2 ≤ w) (l : List (Int × Int)) : (cutsF w (runesF l)).length = (cutR w l).length := by rw [← cuts_rows hw l, List.length_map]
/-- rows joined are the line -/
theorem brk_join (w : Int) : ∀ (l cur : List (Int × Int)) (s : Nat), (brk w l cur s).flatten = cur ++ l
  | [], cur, s => by simp [brk]
  | g :: l, cur, s => by
    unfold brk
    split
    · rw [List.flatten_cons, brk_join w l]; simp
    · rw [brk_join w l]; simp
theorem cutR_join (w : Int) (l : List (Int × Int)) : (cutR w l).flatten = l := by unfold cutR; rw [brk_join]; rfl
/-- where a glyph is -/
def place (w : Int) : Nat → List (Int × Int) → Nat → Nat × Nat
  | _, [], _ => (0, 0)
  | s, g :: _, 0 => if w < ((s + ofS g.1 : Nat) : Int) then (1, 0) else (0, s)
  | s, g :: l, i + 1 => if w < ((s + ofS g.1 : Nat) : Int) then ((place w (ofS g.1) l i).1 + 1, (place w (ofS g.1) l i).2) else place w (s + ofS g.1) l i
theorem brk_few {w : Int} (hw : 2 ≤ w) : ∀ (l cur : List (Int × Int)) (s : Nat), (s : Int) ≤ 2 * cur.length → (brk w l cur s).length ≤ l.length + 1 ∧ (cur = [] → l ≠ [] → (brk w l cur s).length ≤ l.length)
  | [], cur, s, _ => ⟨by simp [brk], fun _ h => absurd rfl h⟩
  | g :: l, cur, s, hs => by
    have hof := ofS_le g.1
    have h1 := brk_few hw l [g] (ofS g.1) (by simp; omega)
    have h2 := brk_few hw l (cur ++ [g]) (s + ofS g.1) (by simp; omega)
    refine ⟨?_, fun hc _ => ?_⟩
    · unfold brk
      split
      · rw [List.length_cons, List.length_cons]; omega
      · rw [List.length_cons]; omega
    · subst hc
      unfold brk
      rw [if_neg (by simp at hs; omega), List.length_cons]
      exact h2.1
/-- cuts follow each other -/
theorem cutFrom_ge (w : Int) (zs : List Int) : ∀ (f a : Nat), ∀ p ∈ cutFrom w zs f a, a ≤ p.1 ∧ p.1 ≤ p.2
  | 0, _, p, hp => by cases hp
  | f + 1, a, p, hp => by
    unfold cutFrom at hp
    rcases List.mem_cons.1 hp with rfl | hp
    · exact ⟨Nat.le_refl _, Nat.le_add_right _ _⟩
    · split at hp
      · cases hp
      · have := cutFrom_ge w zs f _ p hp
        exact ⟨by omega, this.2⟩
theorem cutFrom_le (w : Int) (zs : List Int) : ∀ (f a : Nat), a ≤ zs.length → ∀ p ∈ cutFrom w zs f a, p.2 ≤ zs.length
  | 0, _, _, p, hp => by cases hp
  | f + 1, a, ha, p, hp => by
    have hk := fitS_le (zs.drop a) w
    rw [List.length_drop] at hk
    unfold cutFrom at hp
    rcases List.mem_cons.1 hp with rfl | hp
    · simp only; omega
    · split at hp
      · cases hp
      · exact cutFrom_le w zs f _ (by omega) p hp
end Go.Proofs.YtkdkhphpknnceaaDoor.F

/- The contract of wide.Of: of any rune, in a world that holds the spans, it returns how many columns the rune has; it makes memory, and changes none that was. -/
namespace Go.Proofs.YtkdkhphpknnceaaDoor.W
open Go.RowKit

/-- The world holds the spans. -/
def Tab (w : World) : Prop := ∀ k, k < 27 → w.cell? ⟨0, k * 3, none⟩ = some (.int .i32 (tab.getD k (0, 0, 0)).1) ∧ w.cell? ⟨0, k * 3 + 1, none⟩ = some (.int .i32 (tab.getD k (0, 0, 0)).2.1) ∧ w.cell? ⟨0, k * 3 + 2, none⟩ = some (.int .i64 ((tab.getD k (0, 0, 0)).2.2 : Int))
theorem Tab.pos {w : World} (h : Tab w) : 0 < w.heap.size := World.block_lt_of_cell? w _ (h 0 (by decide)).1
theorem Tab.below {w w' : World} (h : Tab w) {b : Nat} (hb : Below b w w') (h0 : 0 < b) : Tab w' := fun k hk =>
  ⟨(hb.cell (p := ⟨0, k * 3, none⟩) h0).trans (h k hk).1, (hb.cell (p := ⟨0, k * 3 + 1, none⟩) h0).trans (h k hk).2.1, (hb.cell (p := ⟨0, k * 3 + 2, none⟩) h0).trans (h k hk).2.2⟩
theorem Tab.belowAll {w w' : World} (h : Tab w) (hb : Below w.heap.size w w') : Tab w' := h.below hb h.pos

set_option maxRecDepth 100000 in
set_option maxHeartbeats 2000000 in
theorem of_any (r : Int) (w : World) (hT : Tab w) :
    Calls Tryd.prog 59 #[.int .i32 r] w fun e w' => e = .returned (.int .i64 (ofS r : Int)) ∧ Below w.heap.size w w' := by
  have HT := Lib.hid hT
  obtain ⟨R, hR⟩ : ∃ R, ofS r = R := ⟨_, rfl⟩
  rw [hR]
  have HR : Hid (rest 0 r = R) := Lib.hid hR
  obtain ⟨base, hbase⟩ : ∃ base, w.heap.size = base := ⟨_, rfl⟩
  have hpos : 0 < base := by rw [← hbase]; exact hT.pos
  have h0 : Below base w w := Below.refl _ _
  rw [hbase]
  have HB0 := Lib.hid h0
  have hsz : base ≤ w.heap.size := by omega
  clear hT hR h0 hbase
  go_enter Tryd.func59, Tryd.ntmps59
  go_wp2
  go_loopw [5] (fun i wr => ∃ k : Nat, i = .int .i64 (k : Int) ∧ k ≤ 27 ∧ base ≤ wr.heap.size ∧ Hid (Below base w wr ∧ rest k r = R)) (fun i _ => 27 - (intOf i).toNat)
  case atStart => exact ⟨0, rfl, by omega, hsz, Lib.hid ⟨HB0.out, HR.out⟩⟩
  case round =>
    rename_i wr
    obtain ⟨k, rfl, hk, hbw, HF⟩ := hrel
    by_cases hlt : k < 27
    · obtain ⟨c0, c1, c2⟩ := (HT.out.below HF.out.1 hpos) k hlt
      have hst := rest_step k hlt r
      obtain ⟨⟨a, b, c⟩, hx⟩ : ∃ x, tab.getD k (0, 0, 0) = x := ⟨_, rfl⟩
      rw [hx] at c0 c1 c2 hst
      simp only at c0 c1 c2 hst
      clear hx
      by_cases h1 : r < a
      · rw [if_pos h1] at hst
        have HR' : Hid (R = 1) := Lib.hid (HF.out.2.symm.trans hst)
        clear hst
        go_wp2
        go_ret
        exact ⟨by rw [HR'.out]; rfl, HF.out.1.alloc hbw _⟩
      · rw [if_neg h1] at hst
        by_cases h2 : r ≤ b
        · rw [if_pos h2] at hst
          have HR' : Hid (R = c) := Lib.hid (HF.out.2.symm.trans hst)
          clear hst
          go_wp2
          go_ret
          exact ⟨by rw [HR'.out]; rfl, HF.out.1.alloc hbw _⟩
        · rw [if_neg h2] at hst
          have HSt := Lib.hid hst
          clear hst
          go_wp2
          go_roundw
          case rel => exact ⟨k + 1, by go_num, by omega, by simp; omega, Lib.hid ⟨HF.out.1.alloc hbw _, by rw [← HF.out.2, HSt.out]⟩⟩
          case measure => simp [intOf]; omega
    · obtain rfl : k = 27 := by omega
      have HR' : Hid (R = 1) := Lib.hid HF.out.2.symm
      have HB := Lib.hid HF.out.1
      clear HF
      go_wp2
      go_ret
      exact ⟨by rw [HR'.out]; rfl, HB.out⟩
end Go.Proofs.YtkdkhphpknnceaaDoor.W
