/- The program's grid: rows that are made empty; rows that go over others of the same slice. -/
import Derived.Test.YtkggmcnocpgnbaaDoorMerged15
namespace Go.Proofs.YtkggmcnocpgnbaaDoor.K
open Go.RowKit

/-- m rows from the t-th on are u -/
def emp (us : List Rv) (t m : Nat) (u : Rv) : List Rv := us.take t ++ List.replicate m u ++ us.drop (t + m)
theorem emp_zero (us : List Rv) (t : Nat) (u : Rv) : emp us t 0 u = us := by unfold emp; simp
theorem emp_length {us : List Rv} {t m : Nat} (u : Rv) (h : t + m ≤ us.length) : (emp us t m u).length = us.length := by
  unfold emp; rw [List.length_append, List.length_append, List.length_take, List.length_replicate, List.length_drop]; omega
theorem emp_succ {us : List Rv} {t i : Nat} (u : Rv) (h : t + i < us.length) : (emp us t i u).set (t + i) u = emp us t (i + 1) u := by
  unfold emp
  have hl : (us.take t ++ List.replicate i u).length = t + i := by rw [List.length_append, List.length_take, List.length_replicate]; omega
  rw [List.set_append_right _ _ (by rw [hl]; exact Nat.le_refl _), hl, Nat.sub_self, List.drop_eq_getElem_cons h, List.set_cons_zero, List.replicate_succ', show t + (i + 1) = t + i + 1 by omega]
  simp
/-- m rows go from s to t -/
def upd (us : List Rv) (t s m : Nat) : List Rv := us.take t ++ (us.drop s).take m ++ us.drop (t + m)
theorem upd_length {us : List Rv} {t s m : Nat} (h : t + m ≤ us.length) (h2 : s + m ≤ us.length) : (upd us t s m).length = us.length := by
  unfold upd; rw [List.length_append, List.length_append, List.length_take, List.length_take, List.length_drop, List.length_drop]; omega
theorem upd_zero (us : List Rv) (t s : Nat) : upd us t s 0 = us := by unfold upd; simp
theorem split3 {us : List Rv} {t m : Nat} (h : t + m ≤ us.length) : ∃ A B C, us = A ++ (B ++ C) ∧ A.length = t ∧ B.length = m :=
  ⟨us.take t, (us.drop t).take m, (us.drop t).drop m, by rw [List.take_append_drop, List.take_append_drop], by rw [List.length_take]; omega, by rw [List.length_take, List.length_drop]; omega⟩
theorem take_len {α : Type} {A B : List α} {n : Nat} (h : A.length = n) : (A ++ B).take n = A := List.take_left' h
theorem drop_len {α : Type} {A B : List α} {n : Nat} (h : A.length = n) : (A ++ B).drop n = B := List.drop_left' h
theorem inL_eq (A B C : List Rv) (f : List Rv → List Rv) (hB : 1 ≤ B.length) : D.inL (A ++ (B ++ C)) A.length (A.length + B.length - 1) f = A ++ (f B ++ C) := by
  unfold D.inL
  rw [show A.length + B.length - 1 + 1 = (A ++ B).length by rw [List.length_append]; omega, ← List.append_assoc, take_len rfl, drop_len rfl, drop_len rfl, List.append_assoc, List.append_assoc, take_len rfl]
theorem up_list {us : List Rv} {t m n : Nat} (u : Rv) (hn : n ≤ m) (hm : 1 ≤ m) (h : t + m ≤ us.length) : emp (upd us t (t + n) (m - n)) (t + (m - n)) n u = D.inL us t (t + m - 1) fun R => D.upR R n u := by
  obtain ⟨A, B, C, rfl, rfl, rfl⟩ := split3 h
  rw [inL_eq A B C _ hm]
  obtain ⟨B1, B2, rfl, rfl⟩ : ∃ B1 B2, B = B1 ++ B2 ∧ B1.length = n := ⟨B.take n, B.drop n, by rw [List.take_append_drop], by rw [List.length_take]; omega⟩
  have hl : (B1 ++ B2).length - B1.length = B2.length := by rw [List.length_append]; omega
  rw [hl]
  have h1 : upd (A ++ (B1 ++ B2 ++ C)) A.length (A.length + B1.length) B2.length = A ++ B2 ++ ((B1 ++ B2 ++ C).drop B2.length) := by
    unfold upd
    rw [take_len rfl, show A ++ (B1 ++ B2 ++ C) = (A ++ B1) ++ (B2 ++ C) by simp, drop_len (by rw [List.length_append]), take_len rfl]
    congr 1
    rw [show (A ++ B1) ++ (B2 ++ C) = A ++ (B1 ++ B2 ++ C) by simp, ← List.drop_drop, drop_len rfl]
  rw [h1]
  unfold emp D.upR
  rw [take_len (by rw [List.length_append]), ← List.drop_drop, drop_len (by rw [List.length_append]), List.drop_drop, drop_len (A := B1 ++ B2) (by rw [List.length_append]; omega), drop_len rfl, Nat.min_eq_left (by rw [List.length_append]; omega)]
  simp only [List.append_assoc]
theorem down_list {us : List Rv} {t m n : Nat} (u : Rv) (hn : n ≤ m) (hm : 1 ≤ m) (h : t + m ≤ us.length) : emp (upd us (t + n) t (m - n)) t n u = D.inL us t (t + m - 1) fun R => D.downR R n u := by
  obtain ⟨A, B, C, rfl, rfl, rfl⟩ := split3 h
  rw [inL_eq A B C _ hm]
  obtain ⟨B1, B2, rfl, hB1⟩ : ∃ B1 B2, B = B1 ++ B2 ∧ B1.length = B.length - n := ⟨B.take (B.length - n), B.drop (B.length - n), by rw [List.take_append_drop], by rw [List.length_take]; omega⟩
  have hl2 : B2.length = n := by rw [List.length_append] at hB1 hn; omega
  obtain ⟨X, Y, hXY, hX⟩ : ∃ X Y, B1 ++ B2 = X ++ Y ∧ X.length = n := ⟨(B1 ++ B2).take n, (B1 ++ B2).drop n, by rw [List.take_append_drop], by rw [List.length_take]; omega⟩
  have hY : Y.length = B1.length := by
    have := congrArg List.length hXY
    rw [List.length_append, List.length_append] at this
    omega
  rw [← hB1]
  have h1 : upd (A ++ (B1 ++ B2 ++ C)) (A.length + n) A.length B1.length = A ++ (X ++ (B1 ++ C)) := by
    unfold upd
    rw [drop_len rfl, List.append_assoc B1 B2 C, take_len (A := B1) rfl, ← List.append_assoc B1 B2 C, hXY]
    rw [show A ++ (X ++ Y ++ C) = (A ++ X) ++ (Y ++ C) by simp, take_len (by rw [List.length_append]; omega), ← List.drop_drop, drop_len (by rw [List.length_append]; omega), drop_len hY]
    simp only [List.append_assoc]
  rw [h1]
  unfold emp D.downR
  rw [take_len rfl, ← List.drop_drop, drop_len rfl, drop_len hX, Nat.min_eq_left hn]
  have h2 : (B1 ++ B2).take ((B1 ++ B2).length - n) = B1 := take_len (by rw [List.length_append]; omega)
  rw [h2]
  simp only [List.append_assoc]
theorem RowsV.inL {rk : IntKind} {us : List Rv} {rs : List Ro} {w : World} (h : RowsV rk us rs w) (t b : Nat) {f : List Rv → List Rv} {f' : List Ro → List Ro} (hf : ∀ us rs, RowsV rk us rs w → RowsV rk (f us) (f' rs) w) : RowsV rk (D.inL us t b f) (D.inL rs t b f') w :=
  ((h.take t).append (hf _ _ ((h.take (b + 1)).drop t))).append (h.drop (b + 1))
theorem RowsV.upR {rk : IntKind} {us : List Rv} {rs : List Ro} {w : World} {u : Rv} {r : Ro} (h : RowsV rk us rs w) (hu : RowV rk u.val r w) (k : Nat) : RowsV rk (D.upR us k u) (D.upR rs k r) w := by
  unfold D.upR
  rw [h.1]
  exact (h.drop k).append (RowsV.rep hu _)
theorem RowsV.downR {rk : IntKind} {us : List Rv} {rs : List Ro} {w : World} {u : Rv} {r : Ro} (h : RowsV rk us rs w) (hu : RowV rk u.val r w) (k : Nat) : RowsV rk (D.downR us k u) (D.downR rs k r) w := by
  unfold D.downR
  rw [h.1]
  exact (RowsV.rep hu _).append (h.take _)
/-- where a row is stored, told by its place -/
theorem wpList_store_rowAt {t T : TypeId} {bytes : Nat} (hI : RvT t T bytes) {ops : Array Oper} {rest : List Oper} {o : Oper} {z : Act} {w : World} {Q : Exit → Act → World → Prop} (hgd : o.guard = none) (hd : o.dst = none) (pa pv : Operand) (ho : o.op = .store T pa pv)
    (base g cap : Nat) (l : List Rv) (i : Nat) (c : Rv) (off n : Nat) (hoff : off = i * 2) (hpa : z.eval pa = .pointer (some ⟨g, off, none⟩)) (hpv : z.eval pv = .agg (vArr c)) (hown : OwnV T base (.slice (some ⟨g, 0, none⟩) n cap) l w) (hn : n = l.length) (hi : i < l.length)
    (hK : ∀ w', OwnV T base (.slice (some ⟨g, 0, none⟩) n cap) (l.set i c) w' → w.grownBy w' (some g) → wpList Tryd.prog ops Q rest z w') : wpList Tryd.prog ops Q (o :: rest) z w := by
  subst hoff
  subst hn
  exact wpList_store_row hI hgd hd pa pv ho base g cap l i c hpa hpv hown hi hK
/-- copy within one slice of rows -/
theorem wpList_copy_rows {ops : Array Oper} {rest : List Oper} {o : Oper} {z : Act} {w : World} {Q : Exit → Act → World → Prop} (hgd : o.guard = none) (d s : Operand)
    (ho : o.op = .call { callee := .builtin .copy, args := #[d, s], argTypes := #[66, 66] }) (base q n cap : Nat) (us : List Rv) (hown : OwnV 27 base (.slice (some ⟨q, 0, none⟩) n cap) us w) (hn : n = us.length) (t sx m : Nat) (da sa : Option Addr) (dLen dCap sLen sCap : Nat)
    (hd : z.eval d = .slice da dLen dCap) (hs : z.eval s = .slice sa sLen sCap) (hm : Nat.min sLen dLen = m) (hda : m ≠ 0 → da = some ⟨q, t * 2, none⟩) (hsa : m ≠ 0 → sa = some ⟨q, sx * 2, none⟩) (ht : t + m ≤ us.length) (hsx : sx + m ≤ us.length)
    (hK : ∀ w', OwnV 27 base (.slice (some ⟨q, 0, none⟩) n cap) (upd us t sx m) w' → KeepB [q] w w' → wpList Tryd.prog ops Q rest (z.put o.dst (goInt (m : Nat))) w') : wpList Tryd.prog ops Q (o :: rest) z w := by
  subst hn
  by_cases h0 : m = 0
  · subst h0
    refine U.wpList_copy_zero hgd d s _ _ ho 27 2 Tryd.underlying66 (by kernel_rfl) da sa dLen dCap sLen sCap hd hs hm ?_
    exact hK w (by rw [upd_zero]; exact hown) (KeepB.refl _ _)
  · have e1 := hda h0
    have e2 := hsa h0
    subst e1 e2
    have hlf : (flatV ((us.drop sx).take m)).length = m * 2 := by rw [flatV_len, List.length_take, List.length_drop, Nat.min_eq_left (by omega)]
    have hrin : ∀ j v, (flatV ((us.drop sx).take m))[j]? = some v → w.cell? ((⟨q, sx * 2, none⟩ : Addr).add j) = some v := by
      intro j v hj
      have hadd : ((⟨q, sx * 2, none⟩ : Addr).add j) = ⟨q, sx * 2 + j, none⟩ := by unfold Addr.add; split <;> simp_all
      have hlt : j < m * 2 := by rw [← hlf]; exact (List.getElem?_eq_some_iff.1 hj).1
      rw [hadd, World.ownsRow.cellAt hown (sx * 2 + j) (by omega), ← hj, flatV_take, flatV_drop, List.getElem?_take, if_pos hlt, List.getElem?_drop]
    refine U.wpList_copy_own hgd d s _ _ ho 27 2 Tryd.underlying66 (by kernel_rfl) base q us.length cap (flatV us) hown t m dLen dCap ⟨q, sx * 2, none⟩ sLen sCap (flatV ((us.drop sx).take m)) hd hs hm hlf hrin ht (flatV_one _) ?_
    intro w' ho' hg
    refine hK w' ?_ (KeepB.of_grown hg)
    unfold OwnV
    rw [upd_length ht hsx]
    have e : flatV (upd us t sx m) = (flatV us).take (t * 2) ++ flatV ((us.drop sx).take m) ++ (flatV us).drop ((t + m) * 2) := by unfold upd; rw [flatV_append, flatV_append, flatV_take, flatV_drop]
    rw [e]
    exact ho'
/-- what empty leaves -/
def EmpPost (q n cap : Nat) (us : List Rv) (t m W : Nat) (s : Int) (w : World) (e : Ending) (w' : World) : Prop := (∃ v, e = .returned v) ∧ ∃ u, OwnV 27 0 (.slice (some ⟨q, 0, none⟩) n cap) (emp us t m u) w' ∧ RowV .i32 u.val (blankR W s) w' ∧ TyC 0 u w' ∧ KeepB [q] w w'
theorem TyC.keptB {base : Nat} {u : Rv} {L : List Nat} {w w' : World} (h : TyC base u w) (hk : KeepB L w w') (hL : ∀ p ∈ L, p < w.heap.size → ∃ cs T, w.heap[p]? = some (.cells cs T (0, 0)) ∧ T ≠ 105) : (∀ b off, u.a = some ⟨b, off, none⟩ → b < w.heap.size → w'.heap[b]? = w.heap[b]?) ∧ TyC base u w' := by
  have hne : ∀ b off, u.a = some ⟨b, off, none⟩ → b < w.heap.size → w'.heap[b]? = w.heap[b]? := fun b off e hl => hk.block b hl (fun hb => by
    obtain ⟨cs, T, hp, hT⟩ := hL b hb hl
    exact h.ne hp hT b off e rfl)
  exact ⟨hne, h.moved hne⟩
set_option maxRecDepth 100000 in
set_option maxHeartbeats 4000000 in
theorem empty_any {g q n cap W c' : Nat} {us : List Rv} (t m : Nat) (a : Option Addr) (s : Int) (w : World) (hW : w.cell? ⟨g, 0, none⟩ = some (.int .i64 (W : Int))) (hW2 : W ≤ 1000) (ho : OwnV 27 0 (.slice (some ⟨q, 0, none⟩) n cap) us w) (hn : n = us.length) (ha : m ≠ 0 → a = some ⟨q, t * 2, none⟩) (ht : t + m ≤ n) (hn2 : n ≤ 1000) :
    Calls Tryd.prog 75 #[.pointer (some ⟨g, 0, none⟩), .slice a m c', .int .i64 s] w (EmpPost q n cap us t m W s w) := by
  obtain ⟨P, hP⟩ : ∃ P, EmpPost q n cap us t m W s w = P := ⟨_, rfl⟩
  rw [hP]
  have HP := Lib.hid hP
  have hnW : nearN (W : Int) = W := by unfold nearN; omega
  have H1 := Lib.hid (rowBlank_any (W : Int) s w)
  rw [hnW] at H1
  have HO := Lib.hid ho
  have HN := Lib.hid hn
  have HA := Lib.hid ha
  clear hP hnW ho hn ha
  go_enter Tryd.func75, Tryd.ntmps75
  go_wp2_with fail
  refine H1.out.mono ?_
  rintro e w1 ⟨v1, rfl, hO1, hb1⟩
  obtain ⟨a1, c1, rfl, -⟩ := hO1.shape
  have hl1 : (blanks W s).length = W := blanks_length _ _
  rw [hl1] at hO1 ⊢
  obtain ⟨Y, hY⟩ : ∃ Y, w1.heap.size = Y := ⟨_, rfl⟩
  obtain ⟨w2, hw2⟩ : ∃ w2, w1.alloc (.cells #[.slice a1 W c1, .bool false] 27) = w2 := ⟨_, rfl⟩
  have hb2 : Below w1.heap.size w1 w2 := by rw [← hw2]; exact (Below.refl _ _).alloc (Nat.le_refl _) _
  have hR2 : RoB 27 Y (.slice a1 W c1) false w2 := by rw [← hw2, ← hY]; exact RoB.new _ _ _ _
  have hO2 := hO1.belowAll hb2
  have hrv : RowV .i32 (Rv.val ⟨a1, W, c1, false⟩) (blankR W s) w2 := hO2.rowV (r := blankR W s)
  have hty : TyC 0 ⟨a1, W, c1, false⟩ w2 := fun b off e => ⟨Nat.zero_le _, (TyC.of (b := false) hO2 b off e).2⟩
  have hbb : Below w.heap.size w w2 := hb1.trans (hb2.mono hb1.size)
  have hYw : w.heap.size ≤ Y := by rw [← hY]; exact hb1.size
  have hql : q < w.heap.size := (HO.out.ownBlock q rfl).2
  have hOw := HO.out.belowAll hbb
  have HOw : Hid (OwnV 27 0 (.slice (some ⟨q, 0, none⟩) n cap) (emp us t 0 ⟨a1, W, c1, false⟩) w2) := Lib.hid (by rw [emp_zero]; exact hOw)
  have HI0 : Hid (RoB 27 Y (.slice a1 W c1) false w2 ∧ RowV .i32 (Rv.val ⟨a1, W, c1, false⟩) (blankR W s) w2 ∧ TyC 0 ⟨a1, W, c1, false⟩ w2 ∧ KeepB [q] w w2) := Lib.hid ⟨hR2, hrv, hty, KeepB.of_below hbb⟩
  have HW2 := Lib.hid hw2
  have HY := Lib.hid hY
  clear hO1 hb1 hl1 hb2 hR2 hO2 hrv hty hbb hOw hw2 hY H1
  go_upto_region 1 with fail
  first | rw [HW2.out, HY.out] | rw [HW2.out]
  go_wp2_with fail
  go_loopw [16] (fun i wr => ∃ j : Nat, i = .int .i64 (j : Int) ∧ j ≤ m ∧ Hid (OwnV 27 0 (.slice (some ⟨q, 0, none⟩) n cap) (emp us t j ⟨a1, W, c1, false⟩) wr ∧ RoB 27 Y (.slice a1 W c1) false wr ∧ RowV .i32 (Rv.val ⟨a1, W, c1, false⟩) (blankR W s) wr ∧ TyC 0 ⟨a1, W, c1, false⟩ wr ∧ KeepB [q] w wr)) (fun i _ => m - (intOf i).toNat)
  case atStart => exact ⟨0, rfl, Nat.zero_le _, Lib.hid ⟨HOw.out, HI0.out⟩⟩
  case round =>
    obtain ⟨j, rfl, hj, HF⟩ := hrel
    obtain ⟨hOj, hRj, hVj, hTj, hKj⟩ := HF.out
    by_cases hlt : j < m
    · have hd : decide (j < m) = true := decide_eq_true hlt
      have ha : a = some ⟨q, t * 2, none⟩ := HA.out (by omega)
      subst ha
      have hjm : (j : Int) < m := by omega
      have HOj := Lib.hid hOj
      have r0 := hRj.c0
      have r1 := hRj.c1
      have HLe : Hid (n = (emp us t j ⟨a1, W, c1, false⟩).length) := Lib.hid (by rw [emp_length _ (by rw [← HN.out]; omega)]; exact HN.out)
      have HSu := Lib.hid (emp_succ (us := us) (t := t) (i := j) ⟨a1, W, c1, false⟩ (by rw [← HN.out]; omega))
      have HI : Hid (t + j < (emp us t j ⟨a1, W, c1, false⟩).length) := Lib.hid (by rw [← HLe.out]; omega)
      clear hOj hRj hVj hTj hKj
      go_wp2_with (refine wpList_store_rowAt rowsT rfl rfl _ _ rfl 0 q cap (emp us t j ⟨a1, W, c1, false⟩) (t + j) ⟨a1, W, c1, false⟩ _ n ?hoff rfl rfl HOj.out HLe.out HI.out ?_)
      case hoff => omega
      intro w5 h5 hg5
      rw [HSu.out] at h5
      obtain ⟨-, hRj, hVj, hTj, hKj⟩ := HF.out
      obtain ⟨cs, hqb, _⟩ := U.own_type HOj.out (g := q) rfl
      have hk5 := KeepB.of_grown hg5
      have hne := hTj.keptB hk5 (fun p hp _ => by rw [List.mem_singleton.1 hp]; exact ⟨cs, _, hqb, by decide⟩)
      have HF5 : Hid (OwnV 27 0 (.slice (some ⟨q, 0, none⟩) n cap) (emp us t (j + 1) ⟨a1, W, c1, false⟩) w5 ∧ RoB 27 Y (.slice a1 W c1) false w5 ∧ RowV .i32 (Rv.val ⟨a1, W, c1, false⟩) (blankR W s) w5 ∧ TyC 0 ⟨a1, W, c1, false⟩ w5 ∧ KeepB [q] w w5) := Lib.hid ⟨h5, hRj.grown hg5 (fun e => by cases e; omega), hVj.moved hk5.size hne.1, hne.2, hKj.trans hk5⟩
      clear h5 hg5 hRj hVj hTj hKj hqb hk5 hne
      go_wp2
      go_roundw
      case rel => exact ⟨j + 1, by go_num, by omega, HF5⟩
      case measure => simp [intOf]; omega
    · obtain rfl : j = m := by omega
      have hd : decide (j < j) = false := by simp
      have hd' : decide ((j : Int) < (j : Int)) = false := by simp
      clear hOj hRj hVj hTj hKj
      go_wp2
      go_end0
      rw [← HP.out]
      obtain ⟨hOj, hRj, hVj, hTj, hKj⟩ := HF.out
      exact ⟨⟨_, rfl⟩, _, hOj, hVj, hTj, hKj⟩
end Go.Proofs.YtkggmcnocpgnbaaDoor.K
