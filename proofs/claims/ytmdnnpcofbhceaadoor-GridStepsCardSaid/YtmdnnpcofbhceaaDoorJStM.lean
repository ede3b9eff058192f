/- Rows that go up some at once, or one by one. -/
import Derived.Test.YtmdnnpcofbhceaaDoorMerged13
namespace Go.Proofs.YtmdnnpcofbhceaaDoor.K

theorem upR_all {α : Type} (R : List α) (b : α) {k : Nat} (h : R.length ≤ k) : D.upR R k b = List.replicate R.length b := by
  unfold D.upR
  rw [List.drop_of_length_le h, Nat.min_eq_right h, List.nil_append]
/-- the grid behind so many steps -/
def upN (x : Gd) (top bot s : Int) (i : Nat) : Gd := (upG x top bot (i : Int) s).1
/-- what went, one by one -/
def goneN (x : Gd) (top bot s : Int) : Nat → List Ro
  | 0 => []
  | i + 1 => goneN x top bot s i ++ (upG (upN x top bot s i) top bot 1 s).2
theorem cntN_nat (i len : Nat) : cntN (i : Int) len = min i len := by unfold cntN; omega
theorem upN_rs {x : Gd} {top bot s : Int} (h : plN x.rs.length top ≤ plN x.rs.length bot) (i : Nat) : upN x top bot s i = ⟨x.W, D.inL x.rs (plN x.rs.length top) (plN x.rs.length bot) fun R => D.upR R (min i (plN x.rs.length bot + 1 - plN x.rs.length top)) (blankR x.W s)⟩ := by
  unfold upN upG
  simp only
  rw [if_neg (by omega), cntN_nat]
theorem upN_no {x : Gd} {top bot s : Int} (h : plN x.rs.length bot < plN x.rs.length top) (i : Nat) : upN x top bot s i = x ∧ ∀ n, (upG x top bot n s).2 = [] := by
  refine ⟨?_, fun n => ?_⟩
  · unfold upN upG
    simp only
    rw [if_pos h]
  · unfold upG
    simp only
    rw [if_pos h]
theorem upN_len {x : Gd} (hx : GdOk x) {top bot s : Int} (i : Nat) : (upN x top bot s i).rs.length = x.rs.length := by
  by_cases h : plN x.rs.length top ≤ plN x.rs.length bot
  · rw [upN_rs h]
    exact D.inL_length h (plN_lt (by have := hx.h1; omega) _) (fun R => D.upR_length R _ _)
  · rw [(upN_no (by omega) i).1]
theorem inL_same {α : Type} {l : List α} {t b : Nat} {f g : List α → List α} (h : f ((l.take (b + 1)).drop t) = g ((l.take (b + 1)).drop t)) : D.inL l t b f = D.inL l t b g := by
  unfold D.inL
  rw [h]
theorem upN_ok {x : Gd} (hx : GdOk x) (top bot s : Int) (i : Nat) : GdOk (upN x top bot s i) := upG_ok hx top bot i s
theorem upR_step {α : Type} (R : List α) (b : α) (i : Nat) (hR : 1 ≤ R.length) : D.upR (D.upR R (min i R.length) b) 1 b = D.upR R (min (i + 1) R.length) b := by
  by_cases h : i < R.length
  · rw [Nat.min_eq_left (by omega), Nat.min_eq_left (by omega)]
    exact D.upR_add R i 1 b (by omega)
  · rw [Nat.min_eq_right (by omega), Nat.min_eq_right (by omega), upR_all R b (Nat.le_refl _)]
    unfold D.upR
    rw [List.length_replicate, List.drop_replicate, Nat.min_eq_left hR, List.replicate_append_replicate]
    congr 1
    omega
theorem upN_zero (x : Gd) (top bot s : Int) : upN x top bot s 0 = x := by
  by_cases h : plN x.rs.length top ≤ plN x.rs.length bot
  · rw [upN_rs h]
    have e : D.inL x.rs (plN x.rs.length top) (plN x.rs.length bot) (fun R => D.upR R (min 0 (plN x.rs.length bot + 1 - plN x.rs.length top)) (blankR x.W s)) = x.rs := by
      rw [Nat.zero_min]
      simp only [D.upR_zero]
      exact D.inL_id x.rs h
    rw [e]
  · exact (upN_no (by omega) 0).1
theorem upN_succ {x : Gd} (hx : GdOk x) (top bot s : Int) (i : Nat) : (upG (upN x top bot s i) top bot 1 s).1 = upN x top bot s (i + 1) := by
  have hl := upN_len hx (top := top) (bot := bot) (s := s) i
  by_cases h : plN x.rs.length top ≤ plN x.rs.length bot
  · have hb := plN_lt (by have := hx.h1; omega : 0 < x.rs.length) bot
    have hreg := D.region_length (l := x.rs) h hb
    have e1 := upN_rs (s := s) h i
    have e2 := upN_rs (s := s) h (i + 1)
    have e3 := upN_rs (x := upN x top bot s i) (top := top) (bot := bot) (s := s) (by rw [hl]; exact h) 1
    have e4 : (upG (upN x top bot s i) top bot 1 s).1 = upN (upN x top bot s i) top bot s 1 := rfl
    rw [e4, e3, hl, e2]
    have hW : (upN x top bot s i).W = x.W := by rw [e1]
    rw [hW]
    congr 1
    rw [e1]
    simp only
    rw [D.inL_comp h hb (fun R => D.upR_length R _ _)]
    apply inL_same
    have hn : min 1 (plN x.rs.length bot + 1 - plN x.rs.length top) = 1 := by omega
    rw [hn, ← hreg]
    exact upR_step _ _ i (by rw [hreg]; omega)
  · obtain ⟨h1, h2⟩ := upN_no (s := s) (by omega : plN x.rs.length bot < plN x.rs.length top) i
    rw [h1, (upN_no (s := s) (by omega : plN x.rs.length bot < plN x.rs.length top) (i + 1)).1]
    exact (upN_no (s := s) (by omega : plN x.rs.length bot < plN x.rs.length top) 1).1
theorem gone_eq {x : Gd} (hx : GdOk x) {top bot s : Int} (h : plN x.rs.length top ≤ plN x.rs.length bot) (i : Nat) :
    goneN x top bot s i = (regR x.rs (plN x.rs.length top) (plN x.rs.length bot)).take (min i (plN x.rs.length bot + 1 - plN x.rs.length top)) ++ List.replicate (i - (plN x.rs.length bot + 1 - plN x.rs.length top)) (blankR x.W s) := by
  have hb := plN_lt (by have := hx.h1; omega : 0 < x.rs.length) bot
  have hreg := D.region_length (l := x.rs) h hb
  induction i with
  | zero => simp [goneN]
  | succ i ih =>
    have hl := upN_len hx (top := top) (bot := bot) (s := s) i
    have e1 := upN_rs (s := s) h i
    have eg : (upG (upN x top bot s i) top bot 1 s).2 = (D.upR (regR x.rs (plN x.rs.length top) (plN x.rs.length bot)) (min i (plN x.rs.length bot + 1 - plN x.rs.length top)) (blankR x.W s)).take 1 := by
      unfold upG
      simp only
      rw [hl, if_neg (by omega), show (1 : Int) = ((1 : Nat) : Int) from rfl, cntN_nat, show min 1 (plN x.rs.length bot + 1 - plN x.rs.length top) = 1 by omega]
      rw [e1]
      exact congrArg (List.take 1) (D.inL_region h hb (fun R => D.upR_length R _ _))
    have hR : (regR x.rs (plN x.rs.length top) (plN x.rs.length bot)).length = plN x.rs.length bot + 1 - plN x.rs.length top := hreg
    obtain ⟨R, hRe⟩ : ∃ R, regR x.rs (plN x.rs.length top) (plN x.rs.length bot) = R := ⟨_, rfl⟩
    rw [hRe] at ih eg hR ⊢
    unfold goneN
    rw [ih, eg, ← hR]
    by_cases hi : i < R.length
    · rw [Nat.min_eq_left (by omega), Nat.min_eq_left (by omega), show i - R.length = 0 by omega, show i + 1 - R.length = 0 by omega]
      unfold D.upR
      rw [List.take_append_of_le_length (by rw [List.length_drop]; omega)]
      simp only [List.replicate_zero, List.append_nil]
      exact List.take_add.symm
    · rw [Nat.min_eq_right (by omega), Nat.min_eq_right (by omega), upR_all R _ (Nat.le_refl _), List.append_assoc]
      congr 1
      rw [List.take_replicate, show min 1 R.length = 1 by omega, List.replicate_append_replicate]
      congr 1
      omega
theorem up_steps {x : Gd} (hx : GdOk x) (top bot s : Int) (n : Nat) : (upG x top bot (n : Int) s).2.length ≤ (goneN x top bot s n).length ∧ (goneN x top bot s n).take (upG x top bot (n : Int) s).2.length = (upG x top bot (n : Int) s).2 := by
  by_cases h : plN x.rs.length top ≤ plN x.rs.length bot
  · have hb := plN_lt (by have := hx.h1; omega : 0 < x.rs.length) bot
    have hreg : (regR x.rs (plN x.rs.length top) (plN x.rs.length bot)).length = _ := D.region_length (l := x.rs) h hb
    have e : (upG x top bot (n : Int) s).2 = (regR x.rs (plN x.rs.length top) (plN x.rs.length bot)).take (min n (plN x.rs.length bot + 1 - plN x.rs.length top)) := by
      unfold upG
      simp only
      rw [if_neg (by omega), cntN_nat]
    rw [gone_eq hx h, e]
    refine ⟨by rw [List.length_append]; omega, ?_⟩
    rw [List.take_left']
    rfl
  · have e := (upN_no (s := s) (by omega : plN x.rs.length bot < plN x.rs.length top) 0).2 n
    rw [e]
    exact ⟨Nat.zero_le _, rfl⟩
theorem gone_len {x : Gd} (top bot s : Int) (n : Nat) : (goneN x top bot s n).length ≤ n := by
  induction n with
  | zero => exact Nat.le_refl _
  | succ n ih =>
    unfold goneN
    rw [List.length_append]
    have : (upG (upN x top bot s n) top bot 1 s).2.length ≤ 1 := by
      unfold upG
      simp only
      split
      · exact Nat.zero_le _
      · rw [List.length_take]
        have : cntN 1 (plN (upN x top bot s n).rs.length bot + 1 - plN (upN x top bot s n).rs.length top) ≤ 1 := by unfold cntN; omega
        omega
    omega
end Go.Proofs.YtmdnnpcofbhceaaDoor.K
