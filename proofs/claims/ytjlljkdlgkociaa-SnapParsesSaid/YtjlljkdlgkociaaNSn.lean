/- A snap (layer 16) as a value: may it be, its bytes, and back. No Go here. -/
import Derived.Test.YtjlljkdlgkociaaNMath
import Derived.Test.YtjlljkdlgkociaaMerged3
namespace Go.Proofs.Ytjlljkdlgkociaa.K
open Go.RowKit Go.Proofs.Ytjlljkdlgkociaa.I

structure Sn where
  k : Int
  w : Int
  h : Int
  x : Int
  y : Int
  t : ByteArray
  R : List Ro
  n : Int
  c : Int
  B : List (Int × Int)
deriving DecidableEq
def emptyN : Sn := ⟨0, 0, 0, 0, 0, ⟨#[]⟩, [], 0, 0, []⟩
def Stands (s : Sn) : Prop := (1 ≤ s.w ∧ s.w ≤ 1000) ∧ (1 ≤ s.h ∧ s.h ≤ 1000) ∧ (0 ≤ s.x ∧ s.x ≤ s.w - 1) ∧ 0 ≤ s.y ∧ s.y ≤ s.h - 1
def Counts (s : Sn) : Prop := (1 ≤ s.k ∧ s.k ≤ 1152921504606846976) ∧ (0 ≤ s.n ∧ s.n ≤ 1152921504606846976) ∧ (0 ≤ s.c ∧ s.c ≤ 281474976710656) ∧ s.t.size ≤ 200
def Shows (s : Sn) : Prop := (s.R.length : Int) = s.h ∧ ∀ r ∈ s.R, (r.l.length : Int) = s.w ∧ ∀ c ∈ r.l, okC c
def Begins (s : Sn) : Prop := (∀ g ∈ s.B, (0 ≤ g.1 ∧ g.1 ≤ 1114111) ∧ 0 ≤ g.2 ∧ g.2 ≤ 647) ∧ s.B.length ≤ 1024
instance (s : Sn) : Decidable (Stands s) := by unfold Stands; exact inferInstance
instance (s : Sn) : Decidable (Counts s) := by unfold Counts; exact inferInstance
instance (s : Sn) : Decidable (Shows s) := by unfold Shows; exact inferInstance
instance (s : Sn) : Decidable (Begins s) := by unfold Begins; exact inferInstance
def MayN (s : Sn) : Prop := s = emptyN ∨ (Stands s ∧ Counts s ∧ Shows s ∧ Begins s)
instance (s : Sn) : Decidable (MayN s) := by unfold MayN; exact inferInstance
theorem Begins.may {s : Sn} (h : Begins s) : MayL s.B := h.1
def numB (z : Int) : List UInt8 := digs (clipN z)
def headB (s : Sn) : List UInt8 := numB s.k ++ (numB s.w ++ (numB s.h ++ (numB s.x ++ (numB s.y ++ (textB s.t ++ (numB s.n ++ (numB s.c ++ packG s.B)))))))
def rawN (s : Sn) : List UInt8 := headB s ++ s.R.flatMap packR
def packN (s : Sn) : List UInt8 := if s ≠ emptyN ∧ MayN s then rawN s else []
theorem packN_rows (l : List Ro) (k : Nat) (h : k < l.length) : (l.take (k + 1)).flatMap packR = (l.take k).flatMap packR ++ packR l[k] := by
  rw [List.take_succ_eq_append_getElem h, List.flatMap_append]
  simp
theorem numB_len (z : Int) : (numB z).length ≤ 9 := digs_nine _ (clipN_le _)
theorem numB_pos (z : Int) : 0 < (numB z).length := digs_pos _
theorem headB_len {s : Sn} (h1 : s.t.size ≤ 200) (h2 : s.B.length ≤ 1024) : (headB s).length ≤ 20000 := by
  have a1 := numB_len s.k
  have a2 := numB_len s.w
  have a3 := numB_len s.h
  have a4 := numB_len s.x
  have a5 := numB_len s.y
  have a6 := numB_len s.n
  have a7 := numB_len s.c
  have a8 := packG_len s.B
  have a9 := textB_len s.t
  unfold headB
  simp only [List.length_append]
  omega
theorem rows_len : ∀ (l : List Ro) (w : Nat), (∀ r ∈ l, r.l.length ≤ w) → (l.flatMap packR).length ≤ (9 + 36 * w) * l.length
  | [], _, _ => by simp
  | r :: l, w, h => by
    have h1 := rows_len l w (fun q hq => h q (List.mem_cons_of_mem _ hq))
    have h2 := packR_len r
    have h3 := h r List.mem_cons_self
    rw [List.flatMap_cons, List.length_append, List.length_cons, Nat.mul_add, Nat.mul_one]
    omega
theorem rawN_pos (s : Sn) : rawN s ≠ [] := by
  have := numB_pos s.k
  intro e
  have h : (rawN s).length = 0 := by rw [e]; rfl
  unfold rawN headB at h
  simp only [List.length_append] at h
  omega
theorem packN_nil (s : Sn) : packN s = [] ↔ (s = emptyN ∨ ¬ MayN s) := by
  unfold packN
  by_cases h : s ≠ emptyN ∧ MayN s
  · rw [if_pos h]
    exact ⟨fun e => absurd e (rawN_pos s), fun e => by rcases e with e | e; exact absurd e h.1; exact absurd h.2 e⟩
  · rw [if_neg h]
    refine ⟨fun _ => ?_, fun _ => rfl⟩
    by_cases h1 : s = emptyN
    · exact .inl h1
    · exact .inr (fun h2 => h ⟨h1, h2⟩)
/-- rows, one behind the other -/
def rowsS (w : Nat) : Nat → Sta → Sta × List Ro
  | 0, st => (st, [])
  | n + 1, st => ((readR (rowsS w n st).1 w).1, (rowsS w n st).2 ++ [(readR (rowsS w n st).1 w).2])
theorem rowsS_len (w : Nat) : ∀ (n : Nat) (st : Sta), (rowsS w n st).2.length = n
  | 0, _ => rfl
  | n + 1, st => by show ((rowsS w n st).2 ++ [_]).length = _; rw [List.length_append, rowsS_len w n st]; rfl
theorem rowsS_ok (w : Nat) : ∀ (n : Nat) {st : Sta}, InOk st → InOk (rowsS w n st).1
  | 0, _, h => h
  | n + 1, _, h => readR_ok (rowsS_ok w n h) w
theorem rowsS_zero (w : Nat) : ∀ (n : Nat) (st : Sta), (rowsS w n st).1.2 = 0 → st.2 = 0 ∧ st.1 = (rowsS w n st).2.flatMap packR ++ (rowsS w n st).1.1
  | 0, st, h => ⟨h, by simp [rowsS]⟩
  | n + 1, st, h => by
    obtain ⟨h1, h2, -⟩ := readR_zero (st := (rowsS w n st).1) h
    obtain ⟨h3, h4⟩ := rowsS_zero w n st h1
    refine ⟨h3, ?_⟩
    show _ = ((rowsS w n st).2 ++ [(readR (rowsS w n st).1 w).2]).flatMap packR ++ (readR (rowsS w n st).1 w).1.1
    rw [List.flatMap_append, List.append_assoc]
    simp only [List.flatMap_cons, List.flatMap_nil, List.append_nil]
    rw [← h2, ← h4]
theorem rowsS_stuck (w : Nat) {st : Sta} (h : InOk st) : ∀ (n m : Nat), n ≤ m → (rowsS w n st).1.2 ≠ 0 → (rowsS w m st).1 = (rowsS w n st).1 := by
  intro n m hnm he
  induction m with
  | zero => rw [show n = 0 by omega]
  | succ m ih =>
    rcases Nat.lt_or_ge m n with h1 | h1
    · rw [show n = m + 1 by omega]
    · have h2 := ih h1
      show (readR (rowsS w m st).1 w).1 = _
      rw [readR_stuck (rowsS_ok w m h) (by rw [h2]; exact he), h2]
theorem rowsS_back {l : List Ro} {w : Nat} (hw : w ≤ 2000) (h : ∀ r ∈ l, r.l.length = w ∧ AllC okC r.l) (r : List UInt8) : ∀ j, j ≤ l.length → rowsS w j (l.flatMap packR ++ r, 0) = (((l.drop j).flatMap packR ++ r, 0), l.take j)
  | 0, _ => by simp [rowsS]
  | j + 1, hj => by
    have hjl : j < l.length := by omega
    have ih := rowsS_back hw h r j (by omega)
    obtain ⟨e1, e2⟩ := h _ (List.getElem_mem hjl)
    show ((readR (rowsS w j _).1 w).1, (rowsS w j _).2 ++ [(readR (rowsS w j _).1 w).2]) = _
    rw [ih]
    simp only
    have hb := readR_back e2 (by omega) ((l.drop (j + 1)).flatMap packR ++ r)
    rw [e1] at hb
    rw [List.drop_eq_getElem_cons hjl, List.flatMap_cons, List.append_assoc, hb, List.take_succ_eq_append_getElem hjl]
/-- the parts, one behind the other -/
def pK (st : Sta) : Sta × Nat := numS st.1 st.2
def pW (st : Sta) : Sta × Nat := atS (pK st).1 1000
def pH (st : Sta) : Sta × Nat := atS (pW st).1 1000
def pX (st : Sta) : Sta × Nat := numS (pH st).1.1 (pH st).1.2
def pY (st : Sta) : Sta × Nat := numS (pX st).1.1 (pX st).1.2
def pT (st : Sta) : Sta × List UInt8 := textS (pY st).1.1 (pY st).1.2
def pN (st : Sta) : Sta × Nat := numS (pT st).1.1 (pT st).1.2
def pC (st : Sta) : Sta × Nat := numS (pN st).1.1 (pN st).1.2
def pB (st : Sta) : Sta × List (Int × Int) := readS (pC st).1
def pR (st : Sta) : Sta × List Ro := rowsS (pW st).2 (pH st).2 (pB st).1
def readN (st : Sta) : Sta × Sn := ((pR st).1, ⟨((pK st).2 : Int), ((pW st).2 : Int), ((pH st).2 : Int), ((pX st).2 : Int), ((pY st).2 : Int), ⟨(pT st).2.toArray⟩, (pR st).2, ((pN st).2 : Int), ((pC st).2 : Int), (pB st).2⟩)
theorem pK_def (st : Sta) : pK st = numS st.1 st.2 := by rw [pK]
theorem pW_def (st : Sta) : pW st = atS (pK st).1 1000 := by rw [pW]
theorem pH_def (st : Sta) : pH st = atS (pW st).1 1000 := by rw [pH]
theorem pX_def (st : Sta) : pX st = numS (pH st).1.1 (pH st).1.2 := by rw [pX]
theorem pY_def (st : Sta) : pY st = numS (pX st).1.1 (pX st).1.2 := by rw [pY]
theorem pT_def (st : Sta) : pT st = textS (pY st).1.1 (pY st).1.2 := by rw [pT]
theorem pN_def (st : Sta) : pN st = numS (pT st).1.1 (pT st).1.2 := by rw [pN]
theorem pC_def (st : Sta) : pC st = numS (pN st).1.1 (pN st).1.2 := by rw [pC]
theorem pB_def (st : Sta) : pB st = readS (pC st).1 := by rw [pB]
theorem pR_def (st : Sta) : pR st = rowsS (pW st).2 (pH st).2 (pB st).1 := by rw [pR]
theorem readN_fst (st : Sta) : (readN st).1 = (pR st).1 := by rw [readN]
theorem numS_ok {st : Sta} (h : InOk st) : InOk (numS st.1 st.2).1 := numS_inv h
theorem textS_ok {st : Sta} (h : InOk st) : InOk (textS st.1 st.2).1 := by
  have h1 := numS_ok h
  unfold textS rawS
  split
  · exact failS_ok h1
  · intro he
    have := h1 he
    show (List.drop _ _) = []
    rw [this]
    simp
theorem readS_ok {st : Sta} (h : InOk st) : InOk (readS st).1 := rdN_ok _ (atS_ok h _)
theorem textS_zero {l l' dl : List UInt8} {e e' : Nat} (h : textS l e = ((l', e'), dl)) (h0 : e' = 0) : e = 0 ∧ l = digs (clipN (dl.length : Int)) ++ dl ++ l' := by
  obtain ⟨⟨⟨l1, e1⟩, v⟩, hn⟩ : ∃ q, numS l e = q := ⟨_, rfl⟩
  unfold textS rawS at h
  rw [hn] at h
  simp only at h
  split at h
  · rename_i h2
    unfold failS at h
    split at h
    · rename_i h3
      simp only [Prod.mk.injEq] at h
      obtain ⟨⟨_, rfl⟩, _⟩ := h
      rcases h3 with h3 | h3
      · exact absurd h0 h3
      · cases h3
    · simp only [Prod.mk.injEq] at h
      obtain ⟨⟨_, rfl⟩, _⟩ := h
      cases h0
  · rename_i h2
    simp only [Prod.mk.injEq] at h
    obtain ⟨⟨rfl, rfl⟩, rfl⟩ := h
    obtain ⟨h3, h4, h5⟩ := numS_zero hn h0
    refine ⟨h3, ?_⟩
    have hl : (l1.take v).length = v := by rw [List.length_take]; omega
    rw [hl, clip_nat h5, List.append_assoc, List.take_append_drop]
    exact h4
theorem readN_zero {st : Sta} (h0 : (readN st).1.2 = 0) : st.2 = 0 ∧ st.1 = rawN (readN st).2 ++ (readN st).1.1 := by
  rw [readN_fst, pR_def] at h0
  obtain ⟨h1, e1⟩ := rowsS_zero _ _ _ h0
  rw [← pR_def] at e1
  rw [pB_def] at h1
  obtain ⟨h2, e2⟩ := readS_zero h1
  rw [← pB_def] at e2
  rw [pC_def] at h2
  obtain ⟨h3, e3, t3⟩ := numS_zero (v := (pC st).2) (by rw [pC_def]) h2
  rw [← pC_def] at e3
  rw [pN_def] at h3
  obtain ⟨h4, e4, t4⟩ := numS_zero (v := (pN st).2) (by rw [pN_def]) h3
  rw [← pN_def] at e4
  rw [pT_def] at h4
  obtain ⟨h5, e5⟩ := textS_zero (dl := (pT st).2) (by rw [pT_def]) h4
  rw [← pT_def] at e5
  rw [pY_def] at h5
  obtain ⟨h6, e6, t6⟩ := numS_zero (v := (pY st).2) (by rw [pY_def]) h5
  rw [← pY_def] at e6
  rw [pX_def] at h6
  obtain ⟨h7, e7, t7⟩ := numS_zero (v := (pX st).2) (by rw [pX_def]) h6
  rw [← pX_def] at e7
  rw [pH_def] at h7
  obtain ⟨h8, e8', t8'⟩ := atS_zero h7
  rw [← pH_def] at e8' t8'
  rw [pW_def] at h8
  obtain ⟨h9, e9', t9'⟩ := atS_zero h8
  rw [← pW_def] at e9' t9'
  rw [pK_def] at h9
  obtain ⟨h10, e10, t10⟩ := numS_zero (v := (pK st).2) (by rw [pK_def]) h9
  rw [← pK_def] at e10
  refine ⟨h10, ?_⟩
  clear h0 h1 h2 h3 h4 h5 h6 h7 h8 h9
  unfold rawN headB readN numB textB
  generalize pK st = K at *
  generalize pW st = W at *
  generalize pH st = H at *
  generalize pX st = X at *
  generalize pY st = Y at *
  generalize pT st = T at *
  generalize pN st = N at *
  generalize pC st = C at *
  generalize pB st = B at *
  generalize pR st = R at *
  simp only
  have hz : (⟨T.2.toArray⟩ : ByteArray).size = T.2.length := by show (T.2.toArray).size = _; simp
  rw [hz, clip_nat t10, clip_nat t9', clip_nat t8', clip_nat t7, clip_nat t6, clip_nat t4, clip_nat t3]
  rw [e10, e9', e8', e7, e6, e5, e4, e3, e2, e1]
  simp only [List.append_assoc]
theorem bytes_list (t : ByteArray) : (⟨t.data.toList.toArray⟩ : ByteArray) = t := by cases t; simp
theorem numS_nat {z : Int} (h0 : 0 ≤ z) (h1 : z ≤ 1152921504606846976) (r : List UInt8) : numS (numB z ++ r) 0 = ((r, 0), z.toNat) := by
  have := numS_back z r
  have h2 : clipN z = z.toNat := by unfold clipN; have : (1152921504606846976 : Nat) ≤ top := by decide
                                    omega
  rw [h2] at this
  unfold numB
  rw [h2]
  exact this
theorem atS_nat {z : Int} (h0 : 0 ≤ z) (h1 : z ≤ 1000) (r : List UInt8) : atS (numB z ++ r, 0) 1000 = ((r, 0), z.toNat) := by
  unfold numB
  have h2 : clipN z = z.toNat := by unfold clipN; have : (1000 : Nat) ≤ top := by decide
                                    omega
  rw [h2]
  exact atS_back (by omega) (by decide) r
/-- what was written is read -/
theorem readN_back {s : Sn} (h1 : Stands s) (h2 : Counts s) (h3 : Shows s) (h4 : Begins s) (r : List UInt8) : readN (rawN s ++ r, 0) = ((r, 0), s) := by
  obtain ⟨k, w, h, x, y, t, R, n, c, B⟩ := s
  obtain ⟨⟨w1, w2⟩, ⟨g1, g2⟩, ⟨x1, x2⟩, y1, y2⟩ := h1
  obtain ⟨⟨k1, k2⟩, ⟨n1, n2⟩, ⟨c1, c2⟩, t1⟩ := h2
  obtain ⟨r1, r2⟩ := h3
  have h5 := h4.may
  obtain ⟨-, b2⟩ := h4
  simp only at w1 w2 g1 g2 x1 x2 y1 y2 k1 k2 n1 n2 c1 c2 t1 r1 r2 b2 h5
  obtain ⟨st, hst⟩ : ∃ st : Sta, (rawN ⟨k, w, h, x, y, t, R, n, c, B⟩ ++ r, 0) = st := ⟨_, rfl⟩
  have eK : pK st = ((numB w ++ (numB h ++ (numB x ++ (numB y ++ (textB t ++ (numB n ++ (numB c ++ (packG B ++ (R.flatMap packR ++ r)))))))), 0), k.toNat) := by
    rw [← hst, pK_def]
    unfold rawN headB
    simp only [List.append_assoc]
    exact numS_nat (by omega) k2 _
  have eW : pW st = ((numB h ++ (numB x ++ (numB y ++ (textB t ++ (numB n ++ (numB c ++ (packG B ++ (R.flatMap packR ++ r))))))), 0), w.toNat) := by
    rw [pW_def, eK]; exact atS_nat (by omega) w2 _
  have eH : pH st = ((numB x ++ (numB y ++ (textB t ++ (numB n ++ (numB c ++ (packG B ++ (R.flatMap packR ++ r)))))), 0), h.toNat) := by
    rw [pH_def, eW]; exact atS_nat (by omega) g2 _
  have eX : pX st = ((numB y ++ (textB t ++ (numB n ++ (numB c ++ (packG B ++ (R.flatMap packR ++ r))))), 0), x.toNat) := by
    rw [pX_def, eH]; exact numS_nat x1 (by omega) _
  have eY : pY st = ((textB t ++ (numB n ++ (numB c ++ (packG B ++ (R.flatMap packR ++ r)))), 0), y.toNat) := by
    rw [pY_def, eX]; exact numS_nat y1 (by omega) _
  have eT : pT st = ((numB n ++ (numB c ++ (packG B ++ (R.flatMap packR ++ r))), 0), t.data.toList) := by
    rw [pT_def, eY]; exact textS_back t _ (by omega)
  have eN : pN st = ((numB c ++ (packG B ++ (R.flatMap packR ++ r)), 0), n.toNat) := by
    rw [pN_def, eT]; exact numS_nat n1 n2 _
  have eC : pC st = ((packG B ++ (R.flatMap packR ++ r), 0), c.toNat) := by
    rw [pC_def, eN]; exact numS_nat c1 (by omega) _
  have eB : pB st = ((R.flatMap packR ++ r, 0), B) := by
    rw [pB_def, eC]; exact readS_back h5 b2 _
  have eR : pR st = ((r, 0), R) := by
    rw [pR_def, eB, eW, eH]
    simp only
    rw [show h.toNat = R.length by omega, rowsS_back (by omega) (fun q hq => ⟨by have := (r2 q hq).1; omega, (r2 q hq).2⟩) r R.length (Nat.le_refl _), List.drop_of_length_le (Nat.le_refl _), List.take_of_length_le (Nat.le_refl _)]
    simp
  rw [hst]
  unfold readN
  rw [eR, eK, eW, eH, eX, eY, eT, eN, eC, eB]
  simp only
  rw [bytes_list, Int.toNat_of_nonneg (by omega), Int.toNat_of_nonneg (by omega), Int.toNat_of_nonneg (by omega), Int.toNat_of_nonneg x1, Int.toNat_of_nonneg y1, Int.toNat_of_nonneg n1, Int.toNat_of_nonneg c1]
/-- a snap of bytes, and the error -/
def parseS (l : List UInt8) : Sn × Nat :=
  if l = [] then (emptyN, 0)
  else if endS (readN (l, 0)).1.1 (readN (l, 0)).1.2 ≠ 0 then (emptyN, endS (readN (l, 0)).1.1 (readN (l, 0)).1.2)
  else if (readN (l, 0)).2 = emptyN ∨ ¬ MayN (readN (l, 0)).2 then (emptyN, 1) else ((readN (l, 0)).2, 0)
theorem endS_zero {l : List UInt8} {e : Nat} (h : endS l e = 0) : e = 0 ∧ l = [] := by
  unfold endS at h
  split at h
  · cases h
  · rename_i h1
    subst h
    exact ⟨rfl, Decidable.not_not.1 (fun h2 => h1 ⟨rfl, h2⟩)⟩
theorem parse_back {s : Sn} (h : MayN s) : parseS (packN s) = (s, 0) := by
  by_cases he : s = emptyN
  · subst he
    have : packN emptyN = [] := (packN_nil _).2 (.inl rfl)
    rw [this]
    unfold parseS
    rw [if_pos rfl]
  · have hp : packN s = rawN s := by unfold packN; rw [if_pos ⟨he, h⟩]
    obtain ⟨h1, h2, h3, h4⟩ := h.resolve_left he
    have hb := readN_back h1 h2 h3 h4 []
    rw [List.append_nil] at hb
    unfold parseS
    rw [hp, if_neg (rawN_pos s), hb]
    simp only
    rw [if_neg (by decide), if_neg (by intro e; rcases e with e | e; exact he e; exact e h)]
theorem parse_zero {l : List UInt8} (h : (parseS l).2 = 0) : packN (parseS l).1 = l ∧ MayN (parseS l).1 := by
  unfold parseS at h ⊢
  by_cases h1 : l = []
  · rw [if_pos h1, h1]
    exact ⟨(packN_nil _).2 (.inl rfl), .inl rfl⟩
  · rw [if_neg h1] at h ⊢
    have hz := readN_zero (st := (l, 0))
    generalize readN (l, 0) = q at *
    obtain ⟨s1, x⟩ := q
    simp only at h hz ⊢
    by_cases h2 : endS s1.1 s1.2 ≠ 0
    · rw [if_pos h2] at h
      exact absurd h h2
    · rw [if_neg h2] at h ⊢
      by_cases h3 : x = emptyN ∨ ¬ MayN x
      · rw [if_pos h3] at h
        cases h
      · rw [if_neg h3]
        obtain ⟨e1, e2⟩ := endS_zero (Decidable.not_not.1 h2)
        obtain ⟨-, e4⟩ := hz e1
        rw [e2, List.append_nil] at e4
        have hm : MayN x := Decidable.not_not.1 (fun h => h3 (.inr h))
        refine ⟨?_, hm⟩
        unfold packN
        rw [if_pos ⟨fun h => h3 (.inl h), hm⟩]
        exact e4.symm
end Go.Proofs.Ytjlljkdlgkociaa.K
