/- slices.Insert of spans. -/
import Derived.Test.YtgagkmlkoeceiaaMerged6
namespace Go.Proofs.Ytgagkmlkoeceiaa.H
open Go.RowKit Go.Shelf

/-- spans come back, in the same row or in a new one -/
def RepPost (v : Value) (out : List Sp) (w : World) (e : Ending) (w' : World) : Prop := ∃ v', e = .returned v' ∧ OwnP .i64 81 0 v' out w' ∧ KeepB v.ownBlock.toList w w' ∧ ∀ q, v'.ownBlock = some q → v.ownBlock = some q ∨ w.heap.size ≤ q
set_option maxRecDepth 100000 in
set_option maxHeartbeats 4000000 in
theorem insert_none (a : Option Addr) (n c i : Nat) (a2 : Option Addr) (c2 : Nat) (l : List Sp) (w : World) (hown : OwnP .i64 81 0 (.slice a n c) l w) (hi : i ≤ n) (hc : n ≤ c) (hl : (c : Int) ≤ 9223372036854775807) :
    Calls Try.prog 57 #[.slice a n c, .int .i64 (i : Int), .slice a2 0 c2] w (RepPost (.slice a n c) l w) := by
  obtain ⟨P, hP⟩ : ∃ P, RepPost (.slice a n c) l w = P := ⟨_, rfl⟩
  rw [hP]
  have HE : Hid (P (.returned (.slice a n c)) w) := Lib.hid (by rw [← hP]; exact ⟨_, rfl, hown, KeepB.refl _ _, fun q hq => .inl hq⟩)
  clear hP hown
  have hii : (i : Int) ≤ (n : Int) := by omega
  by_cases hci : c = i
  · subst hci
    go_enter Try.func57, Try.ntmps57
    go_wp2_with fail
    exact HE.out
  · go_enter Try.func57, Try.ntmps57
    go_wp2_with fail
    exact HE.out
/-- the cells when a part has gone up, and others stand in its place -/
theorem shift_cells {C : List Value} {l vs : List Sp} {n m i cap : Nat} (hn : n = l.length) (hm : m = vs.length) (hi : i ≤ n) (hr : n + m ≤ cap) (hl : C.length = cap * 2) (ht : C.take (n * 2) = flatP .i64 l) :
    let C1 := C.take ((i + m) * 2) ++ flatP .i64 (l.drop i) ++ C.drop ((i + m) * 2 + (flatP .i64 (l.drop i)).length)
    let C2 := C1.take (i * 2) ++ flatP .i64 vs ++ C1.drop (i * 2 + (flatP .i64 vs).length)
    C1.length = cap * 2 ∧ C2.length = cap * 2 ∧ C2.take ((n + m) * 2) = flatP .i64 (l.take i ++ vs ++ l.drop i) := by
  intro C1 C2
  have hdl : (flatP .i64 (l.drop i)).length = (n - i) * 2 := by rw [flatP_len, List.length_drop, hn]
  have hvl : (flatP .i64 vs).length = m * 2 := by rw [flatP_len, hm]
  have h1 : C1.length = cap * 2 := by
    simp only [C1, List.length_append, List.length_take, List.length_drop, hl, hdl]; omega
  have h2 : C2.length = cap * 2 := by
    simp only [C2, List.length_append, List.length_take, List.length_drop, h1, hvl]; omega
  refine ⟨h1, h2, ?_⟩
  have e1 : C1.take (i * 2) = flatP .i64 (l.take i) := by
    simp only [C1]
    rw [List.append_assoc, List.take_append_of_le_length (by rw [List.length_take]; omega), List.take_take, Nat.min_eq_left (by omega), flatP_takeD, ← ht, List.take_take, Nat.min_eq_left (by omega)]
  have e2 : C1.drop (i * 2 + (flatP .i64 vs).length) = flatP .i64 (l.drop i) ++ C.drop ((i + m) * 2 + (flatP .i64 (l.drop i)).length) := by
    simp only [C1]
    rw [hvl, show i * 2 + m * 2 = (i + m) * 2 by omega, List.append_assoc]
    exact List.drop_left' (by rw [List.length_take]; omega)
  simp only [C2]
  rw [e1, e2, flatP_append, flatP_append, ← List.append_assoc]
  refine List.take_left' ?_
  rw [List.length_append, List.length_append, flatP_len, flatP_len, flatP_len, List.length_take, List.length_drop, ← hm, ← hn]
  omega
set_option maxRecDepth 100000 in
set_option maxHeartbeats 4000000 in
theorem insert_shift (q n cap i g m c2 : Nat) (l vs : List Sp) (D : List Value) (w : World) (hown : OwnP .i64 81 0 (.slice (some ⟨q, 0, none⟩) n cap) l w) (hi : i < n) (hm : 0 < m) (hr : n + m ≤ cap) (hl : n + m ≤ 2000000) (hg : RowC g D w) (hgq : g ≠ q) (hV : PairsIn .i64 (some ⟨g, 0, none⟩) m c2 vs w) :
    Calls Try.prog 57 #[.slice (some ⟨q, 0, none⟩) n cap, .int .i64 (i : Int), .slice (some ⟨g, 0, none⟩) m c2] w (RepPost (.slice (some ⟨q, 0, none⟩) n cap) (l.take i ++ vs ++ l.drop i) w) := by
  obtain ⟨P, hP⟩ : ∃ P, RepPost (.slice (some ⟨q, 0, none⟩) n cap) (l.take i ++ vs ++ l.drop i) w = P := ⟨_, rfl⟩
  rw [hP]
  have HP := Lib.hid hP
  obtain ⟨C, hC, hCl, hCt, hn, hnc, hcm, -⟩ := hown.rowC
  have hsh := shift_cells (C := C) (vs := vs) (cap := cap) hn hV.len (Nat.le_of_lt hi) hr hCl (by rw [hn]; exact hCt)
  have hml := hV.len
  obtain ⟨C1, hC1⟩ : ∃ C1, C1 = C.take ((i + m) * 2) ++ flatP .i64 (l.drop i) ++ C.drop ((i + m) * 2 + (flatP .i64 (l.drop i)).length) := ⟨_, rfl⟩
  obtain ⟨C2, hC2⟩ : ∃ C2, C2 = C1.take (i * 2) ++ flatP .i64 vs ++ C1.drop (i * 2 + (flatP .i64 vs).length) := ⟨_, rfl⟩
  simp only [← hC1] at hsh
  rw [← hC2] at hsh
  obtain ⟨hl1, hl2, ht2⟩ := hsh
  have hdl : (flatP .i64 (l.drop i)).length = (n - i) * 2 := by rw [flatP_len, List.length_drop, hn]
  have hvl : (flatP .i64 vs).length = m * 2 := by rw [flatP_len, hml]
  have hD : D ≠ [] := by
    intro e
    rcases hV.at_ with h | ⟨b, off, h, hlt, hi⟩
    · rw [h] at hml; simp at hml; omega
    · injection h with h; injection h with h1 h2
      subst h1
      have := (hi 0 _ (List.getElem?_eq_getElem (show 0 < vs.length by omega))).1
      rw [cell_block hg, e] at this
      simp at this
  -- what slices.overlaps says
  have hov : ∀ o2 lb cb, (callFunc 58 #[.slice (some ⟨g, 0, none⟩) m c2, .slice (some ⟨q, o2, none⟩) lb cb]).run Try.prog w = .ok (.value (.bool false)) w := fun o2 lb cb => overlaps_apart hg hC (Ne.symm hgq) (by intro e; rw [e] at hCl; simp at hCl; omega) 0 o2 m c2 lb cb
  -- the two copies
  have hcp1 : ∀ (W : World), RowC q C W → ∀ ty dc sc, (Builtin.copy_ #[67, 67] ty #[.slice (some ⟨q, (i + m) * 2, none⟩) (n + m - (i + m)) dc, .slice (some ⟨q, i * 2, none⟩) (n + m - i) sc]).run Try.prog W = .ok (goInt ((n - i : Nat))) (W.setRow q C1.toArray) := fun W hW ty dc sc => by
    have hmin : Nat.min (n + m - i) (n + m - (i + m)) = n - i := by show min _ _ = _; omega
    have h := copyC hW ty ((i + m) * 2) (n + m - (i + m)) dc ⟨q, i * 2, none⟩ (n + m - i) sc (flatP .i64 (l.drop i)) (by rw [hmin, hdl]) (fun j v hj => by
      refine hW.cells (i * 2) j v ?_
      have hjl := (List.getElem?_eq_some_iff.1 hj).1
      rw [flatP_dropD, ← hCt] at hj
      rw [List.getElem?_drop, List.getElem?_take] at hj
      split at hj
      · rw [List.getElem?_drop]; exact hj
      · cases hj) (by rw [hdl, hCl]; omega) (flatP_one .i64 _)
    rw [hmin, ← hC1] at h
    exact h
  have hcp2 : ∀ (W : World), RowC q C1 W → PairsIn .i64 (some ⟨g, 0, none⟩) m c2 vs W → ∀ ty dc, (Builtin.copy_ #[67, 67] ty #[.slice (some ⟨q, i * 2, none⟩) (n + m - i) dc, .slice (some ⟨g, 0, none⟩) m c2]).run Try.prog W = .ok (goInt (m : Nat)) (W.setRow q C2.toArray) := fun W hW hVW ty dc => by
    have hmin : Nat.min m (n + m - i) = m := by show min _ _ = _; omega
    have h := copyC hW ty (i * 2) (n + m - i) dc ⟨g, 0, none⟩ m c2 (flatP .i64 vs) (by rw [hmin, hvl]) hVW.news (by rw [hvl, hl1]; omega) (flatP_one .i64 _)
    rw [hmin, ← hC2] at h
    exact h
  have HEnd : Hid (∀ W, Below w.heap.size w W → P (.returned (.slice (some ⟨q, 0, none⟩) (n + m) cap)) ((W.setRow q C1.toArray).setRow q C2.toArray)) := Lib.hid (fun W hb => by
    have hr1 : RowC q C1 (W.setRow q C1.toArray) := RowC.set (C := C) ((hb.block q (Array.getElem?_eq_some_iff.1 hC).1).trans hC)
    have hr2 : RowC q C2 ((W.setRow q C1.toArray).setRow q C2.toArray) := hr1.set
    have hlen : (l.take i ++ vs ++ l.drop i).length = n + m := by simp only [List.length_append, List.length_take, List.length_drop]; omega
    rw [← HP.out]
    refine ⟨_, rfl, ?_, ?_, fun p hp => .inl hp⟩
    · have := hr2.own (l := l.take i ++ vs ++ l.drop i) hl2 (by rw [hlen]; exact ht2) (by rw [hlen]; omega) hcm
      rw [hlen] at this
      exact this
    · exact ((KeepB.of_below hb).trans (setRow_keep _ _ _)).trans (setRow_keep _ _ _))
  have HC := Lib.hid hC
  have HG := Lib.hid hg
  have HV := Lib.hid hV
  have HCP1 := Lib.hid hcp1
  have HCP2 := Lib.hid hcp2
  have HGQ := Lib.hid hgq
  have hqlt : Hid (q < w.heap.size ∧ g < w.heap.size) := Lib.hid ⟨(Array.getElem?_eq_some_iff.1 hC).1, (Array.getElem?_eq_some_iff.1 hg).1⟩
  have hz1 : ¬ ((m : Int) = 0) := by omega
  have hz2 : ¬ ((i : Int) = (n : Int)) := by omega
  have hin : i ≤ n := by omega
  have hii : (i : Int) ≤ (n : Int) := by omega
  have hw1 : IntKind.i64.wrap ((i : Int) + (m : Int)) = (i : Int) + (m : Int) := by rw [IntKind.wrap_i64]; omega
  have hw2 : IntKind.i64.wrap ((n : Int) + (m : Int)) = (n : Int) + (m : Int) := by rw [IntKind.wrap_i64]; omega
  have hb0 : ¬ ((cap : Int) < (n : Int) + (m : Int)) := by omega
  have hb1 : (0 : Int) ≤ (i : Int) + (m : Int) := by omega
  have hb1' : (0 : Int) ≤ (n : Int) + (m : Int) := by omega
  have htn : ((i : Int) + (m : Int)).toNat = i + m := by omega
  have htn' : ((n : Int) + (m : Int)).toNat = n + m := by omega
  have hb2 : ¬ (cap = i + m) := by omega
  have hb3 : (i : Int) ≤ (n : Int) + (m : Int) := by omega
  have hb4 : ¬ (cap = i) := by omega
  have hb5 : (n : Int) + (m : Int) ≤ (cap : Int) := by omega
  have hb6 : (i : Int) + (m : Int) ≤ (n : Int) + (m : Int) := by omega
  clear hP hown hC hCl hCt hn hnc hcm hml hC1 hC2 hl1 hl2 ht2 hdl hvl hD hcp1 hcp2 hg hgq hV
  go_enter Try.func57, Try.ntmps57
  go_wp2_with (simp only [hov])
  go_still_tail 8, (by kernel_rfl)
  change wpList _ _ _ _ _ w.drew
  have HW1 : Hid (Below w.heap.size w w.drew) := Lib.hid ((Below.refl _ _).drew)
  have HC1w : Hid (RowC q C w.drew) := Lib.hid HC.out
  generalize w.drew = w1 at HW1 HC1w ⊢
  have e1 := fun dc sc => HCP1.out w1 HC1w.out 3 dc sc
  have hVw : PairsIn .i64 (some ⟨g, 0, none⟩) m c2 vs (w1.setRow q C1.toArray) := HV.out.blocks (by have := HW1.out.size; have := (setRow_keep w1 q C1.toArray).size; omega) (fun b off e hb => by
    injection e with e; injection e with e _
    subst e
    exact ((setRow_keep w1 q C1.toArray).block g (Nat.lt_of_lt_of_le hb HW1.out.size) (by simpa using HGQ.out)).trans (HW1.out.block g hb))
  have e2 := fun dc => HCP2.out (w1.setRow q C1.toArray) (RowC.set HC1w.out) hVw 3 dc
  clear hVw hov
  go_wp2_with fail
  exact HEnd.out w1 HW1.out
end Go.Proofs.Ytgagkmlkoeceiaa.H
