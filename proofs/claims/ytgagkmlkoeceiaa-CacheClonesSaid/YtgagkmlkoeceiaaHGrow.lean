/- Rows of spans that are made anew, with others put among them; slices.Insert where there is no room. -/
import Derived.Test.YtgagkmlkoeceiaaHIns
namespace Go.Proofs.Ytgagkmlkoeceiaa.H
open Go.RowKit Go.Shelf

theorem wpList_append_run {ops : Array Oper} {rest : List Oper} {o : Oper} {z : Act} {w : World} {Q : Exit → Act → World → Prop} (hg : o.guard = none) (d x : Operand) (dT sT : TypeId)
    (hop : o.op = .call { callee := .builtin .append, args := #[d, x], argTypes := #[dT, sT] }) (v u : Value) (hd : z.eval d = v) (hx : z.eval x = u) {v' : Value} {w' : World} (hr : (Builtin.append_ #[dT, sT] o.type #[v, u]).run Try.prog w = .ok v' w') (hK : wpList Try.prog ops Q rest (z.put o.dst v') w') :
    wpList Try.prog ops Q (o :: rest) z w :=
  wpList_plain hg fun _ hK' => by
    unfold Oper.wp execOp
    simp only [hop, resolve, invoke, builtin, Sem.run_bind, Sem.run_pure, Result.andThen_ok, List.map_toArray, List.map_cons, List.map_nil, hd, hx, hr]
    exact hK' _ _ hK
/-- a new row whose front is a row's, with places behind it -/
theorem growZ {q n cap i k : Nat} {l : List Sp} {w : World} (hown : OwnP .i64 81 0 (.slice (some ⟨q, 0, none⟩) n cap) l w) (hi : i ≤ n) (hk : 0 < k) (hg : cap < i + k) (hb : i + k ≤ 4000000) :
    ∃ cp C w', (∀ ty, (Builtin.append_ #[67, 3] ty #[.slice (some ⟨q, 0, none⟩) i cap, .int .i64 (k : Int)]).run Try.prog w = .ok (.slice (some ⟨w.heap.size, 0, none⟩) (i + k) cp) w') ∧ RowC w.heap.size C w' ∧ C.length = cp * 2 ∧ C.take (i * 2) = flatP .i64 (l.take i) ∧ i + k ≤ cp ∧ cp ≤ maxLen ∧ Below w.heap.size w w' := by
  obtain ⟨i0, hi0, hz0, hz1, hz2⟩ := info_parts spanT.info
  obtain ⟨C, hC, hCl, hCt, hn, hnc, hcm, -⟩ := hown.rowC
  have hold : (Builtin.firstCells i0.size i (.slice (some ⟨q, 0, none⟩) i cap)).run Try.prog w.drew = .ok (flatP .i64 (l.take i)).toArray w.drew := by
    rw [hz1]
    refine run_firstCells_some w.drew 2 i ⟨q, 0, none⟩ i cap (flatP .i64 (l.take i)) (by rw [flatP_len, List.length_take]; omega) (fun j v hj => ?_)
    have hCd : RowC q C w.drew := hC
    have h2 := hCd.cells 0 j v
    rw [List.drop_zero] at h2
    refine h2 ?_
    rw [flatP_takeD, ← hCt, List.getElem?_take] at hj
    split at hj
    · rw [List.getElem?_take] at hj
      split at hj
      · exact hj
      · cases hj
    · cases hj
  obtain ⟨G, hG⟩ : ∃ G, G = grownCap w (i + k) cap 81 := ⟨_, rfl⟩
  have hr := fun ty => Lib.run_append_grow_zeros w 67 3 ty 81 i0 _ .i64 .i64 sl_span Try.underlying3 hi0 hz0 (some ⟨q, 0, none⟩) i cap (flatP .i64 (l.take i)) hold k hk (by omega) hg (by omega) (by rw [hz2]; omega) (by rw [hz2]; exact growslice_fits hg (by omega))
  have hGn : i + k ≤ G := by rw [hG]; exact grownCap_ge w _ _ _
  have hGm : G ≤ maxLen := by rw [hG]; exact grownCap_le_maxLen w (i + k) cap _ (by unfold maxLen; omega)
  rw [← hG] at hr
  have hfl : (flatP .i64 (l.take i)).length = i * 2 := by rw [flatP_len, List.length_take]; omega
  refine ⟨G, ((flatP .i64 (l.take i)).toArray ++ Builtin.zeroCells (Value.agg #[.int .i64 0, .int .i64 0]).cells k ++ Builtin.zeroCells (Value.agg #[.int .i64 0, .int .i64 0]).cells (G - (i + k))).toList, _, hr, ?_, ?_, ?_, hGn, hGm, ?_⟩
  · unfold RowC
    have := heap_alloc_new w.drew (.cells ((flatP .i64 (l.take i)).toArray ++ Builtin.zeroCells (Value.agg #[.int .i64 0, .int .i64 0]).cells k ++ Builtin.zeroCells (Value.agg #[.int .i64 0, .int .i64 0]).cells (G - (i + k))) 81)
    rw [Array.toArray_toList]
    exact this
  · simp only [Array.length_toList, Array.size_append, List.size_toArray, size_zeroCells, hfl, show (Value.agg #[.int .i64 0, .int .i64 0]).cells.size = 2 from rfl]
    omega
  · simp only [Array.toList_append, List.append_assoc]
    rw [← hfl]
    exact List.take_left' (by simp)
  · exact (Below.refl _ _).drew.alloc (Nat.le_refl _) _
/-- others, put behind a row's front -/
theorem put_cells {C : List Value} {cap i : Nat} {A B : List Sp} (hl : C.length = cap * 2) (ht : C.take (i * 2) = flatP .i64 A) (hA : A.length = i) (hr : i + B.length ≤ cap) :
    let C' := C.take (i * 2) ++ flatP .i64 B ++ C.drop (i * 2 + (flatP .i64 B).length)
    C'.length = cap * 2 ∧ C'.take ((i + B.length) * 2) = flatP .i64 (A ++ B) ∧ C'.drop ((i + B.length) * 2) = C.drop ((i + B.length) * 2) := by
  intro C'
  have hb : (flatP .i64 B).length = B.length * 2 := flatP_len _ _
  have h1 : (C.take (i * 2) ++ flatP .i64 B).length = (i + B.length) * 2 := by rw [List.length_append, List.length_take, hb]; omega
  refine ⟨by simp only [C', List.length_append, List.length_take, List.length_drop, hl, hb]; omega, ?_, ?_⟩
  · simp only [C']
    rw [List.take_left' h1, ht, flatP_append]
  · simp only [C']
    rw [List.drop_left' h1, hb]
    congr 1
    omega
/-- the copy of spans into a row, behind its front -/
theorem copy_put {W : World} {g : Nat} {C : List Value} {cap i : Nat} {A B : List Sp} (hC : RowC g C W) (hl : C.length = cap * 2) (ht : C.take (i * 2) = flatP .i64 A) (hA : A.length = i) (hr : i + B.length ≤ cap) (dLen : Nat) (hd : B.length ≤ dLen) (a : Option Addr) (c : Nat) (hB : PairsIn .i64 a B.length c B W) (hsp : ∀ x, a = some x → x = ⟨x.block, x.off, none⟩) :
    ∃ C' W', (∀ ty dc, (Builtin.copy_ #[67, 67] ty #[.slice (some ⟨g, i * 2, none⟩) dLen dc, .slice a B.length c]).run Try.prog W = .ok (goInt (B.length : Nat)) W') ∧ RowC g C' W' ∧ KeepB [g] W W' ∧ C'.length = cap * 2 ∧ C'.take ((i + B.length) * 2) = flatP .i64 (A ++ B) ∧ C'.drop ((i + B.length) * 2) = C.drop ((i + B.length) * 2) := by
  have hmin : Nat.min B.length dLen = B.length := by show min _ _ = _; omega
  cases a with
  | none =>
    have h0 : B = [] := hB.at_.resolve_right (by rintro ⟨b, off, e, -⟩; cases e)
    subst h0
    refine ⟨C, W, fun ty dc => ?_, hC, KeepB.refl _ _, hl, by simpa using ht, rfl⟩
    exact U.run_copy_zero (P := Try.prog) W _ _ ty 81 2 (some ⟨g, i * 2, none⟩) none dLen dc 0 c sl_span info_span (by show min _ _ = _; omega)
  | some ad =>
    obtain ⟨b, off, sp⟩ := ad
    have := hsp _ rfl
    obtain rfl : sp = none := by injection this
    obtain ⟨h1, h2, h3⟩ := put_cells (B := B) hl ht hA hr
    refine ⟨_, _, fun ty dc => ?_, RowC.set hC, setRow_keep _ _ _, h1, h2, h3⟩
    have h := copyC hC ty (i * 2) dLen dc ⟨b, off, none⟩ B.length c (flatP .i64 B) (by rw [hmin, flatP_len]) hB.news (by rw [flatP_len, hl]; omega) (flatP_one .i64 _)
    rw [hmin] at h
    exact h
/-- spans of a row, as a slice of them -/
theorem RowC.pairs {q : Nat} {C : List Value} {l : List Sp} {w : World} (hC : RowC q C w) (o : Nat) (ht : (C.drop (o * 2)).take (l.length * 2) = flatP .i64 l) (c : Nat) (hc : l.length ≤ c) (hc2 : (c : Int) ≤ 9223372036854775807) : PairsIn .i64 (some ⟨q, o * 2, none⟩) l.length c l w := by
  refine ⟨rfl, hc, hc2, .inr ⟨q, o * 2, rfl, (Array.getElem?_eq_some_iff.1 hC).1, fun i u hu => ?_⟩⟩
  have hil := (List.getElem?_eq_some_iff.1 hu).1
  have hcell : ∀ j, j < 2 → w.cell? ⟨q, o * 2 + i * 2 + j, none⟩ = (pCells .i64 u)[j]? := fun j hj => by
    obtain ⟨x, hx⟩ : ∃ x, (pCells .i64 u)[j]? = some x := ⟨_, List.getElem?_eq_getElem (by simp [pCells]; omega)⟩
    have h1 := flatP_get .i64 l i j u hu hj
    rw [← ht, List.getElem?_take, if_pos (by omega), List.getElem?_drop] at h1
    rw [cell_block hC, Nat.add_assoc, ← h1]
    simp
  exact ⟨hcell 0 (by decide), hcell 1 (by decide)⟩
theorem drop_cells {C : List Value} {l : List Sp} {n : Nat} (hn : n = l.length) (ht : C.take (n * 2) = flatP .i64 l) (j : Nat) : (C.drop (j * 2)).take ((l.drop j).length * 2) = flatP .i64 (l.drop j) := by
  rw [flatP_dropD, ← ht, List.length_drop, List.drop_take, ← hn]
  congr 1
  omega
set_option maxRecDepth 100000 in
set_option maxHeartbeats 4000000 in
theorem insert_grow (q n cap i m c2 : Nat) (a2 : Option Addr) (l vs : List Sp) (w : World) (hown : OwnP .i64 81 0 (.slice (some ⟨q, 0, none⟩) n cap) l w) (hi : i < n) (hm : 0 < m) (hr : cap < n + m) (hl : n + m ≤ 2000000) (hV : PairsIn .i64 a2 m c2 vs w) (hsp : ∀ x, a2 = some x → x = ⟨x.block, x.off, none⟩) :
    Calls Try.prog 57 #[.slice (some ⟨q, 0, none⟩) n cap, .int .i64 (i : Int), .slice a2 m c2] w (RepPost (.slice (some ⟨q, 0, none⟩) n cap) (l.take i ++ vs ++ l.drop i) w) := by
  obtain ⟨P, hP⟩ : ∃ P, RepPost (.slice (some ⟨q, 0, none⟩) n cap) (l.take i ++ vs ++ l.drop i) w = P := ⟨_, rfl⟩
  rw [hP]
  obtain ⟨C0, hC0, hCl0, hCt0, hn, hnc, hcm, -⟩ := hown.rowC
  have hml := hV.len
  obtain ⟨cp, C, w1, hr1, hC, hCl, hCt, hcp, hcpm, hb1⟩ := growZ (k := n + m - i) hown (Nat.le_of_lt hi) (by omega) (by omega) (by omega)
  have hti : (l.take i).length = i := by rw [List.length_take]; omega
  have hg1 : w.heap.size < w1.heap.size := (Array.getElem?_eq_some_iff.1 hC).1
  -- the first copy
  obtain ⟨C1, w2, hr2, hC1, hk2, hl2, ht2, -⟩ := copy_put (B := vs) hC hCl hCt hti (by omega) (i + (n + m - i) - i) (by omega) a2 c2 (by rw [← hml]; exact hV.belowAll hb1) hsp
  have hk12 : KeepB [w.heap.size] w1 w2 := hk2
  have hq0 := (Array.getElem?_eq_some_iff.1 hC0).1
  have hq2 : RowC q C0 w2 := (hk12.block q (by omega) (by simp; omega)).trans ((hb1.block q hq0).trans hC0)
  have hqn : q ≠ w.heap.size := by omega
  have hkk : ((n + m - i : Nat) : Int) = (n : Int) + (m : Int) - (i : Int) := by omega
  rw [hkk] at hr1
  have hik : i + (n + m - i) = n + m := by omega
  rw [hik] at hr1 hcp hr2
  rw [← hml] at hr2 ht2
  obtain ⟨G, hG⟩ : ∃ G, w.heap.size = G := ⟨_, rfl⟩
  rw [hG] at hC hC1 hk12 hr1 hr2 hqn hg1
  have hw1 : IntKind.i64.wrap ((i : Int) + (m : Int)) = (i : Int) + (m : Int) := by rw [IntKind.wrap_i64]; omega
  have hw2 : IntKind.i64.wrap ((n : Int) + (m : Int)) = (n : Int) + (m : Int) := by rw [IntKind.wrap_i64]; omega
  have hw3 : IntKind.i64.wrap ((n : Int) + (m : Int) - (i : Int)) = (n : Int) + (m : Int) - (i : Int) := by rw [IntKind.wrap_i64]; omega
  have HEnd : Hid (∀ w3 w4 C2, Below w2.heap.size w2 w3 → KeepB [G] w3 w4 → RowC G C2 w4 → C2.length = cp * 2 → C2.take ((n + m) * 2) = flatP .i64 (l.take i ++ vs ++ l.drop i) → P (.returned (.slice (some ⟨G, 0, none⟩) (n + m) cp)) w4) := Lib.hid (fun w3 w4 C2 h3 h4 hC2 hl2 ht2 => by
    have hlen : (l.take i ++ vs ++ l.drop i).length = n + m := by simp only [List.length_append, List.length_take, List.length_drop]; omega
    rw [← hP]
    refine ⟨_, rfl, ?_, ?_, fun p hp => .inr ?_⟩
    · have := hC2.own (l := l.take i ++ vs ++ l.drop i) hl2 (by rw [hlen]; exact ht2) (by rw [hlen]; exact hcp) hcpm
      rw [hlen] at this
      exact this
    · have k1 : KeepB [G] w w4 := (((KeepB.of_below hb1).trans hk12).trans (KeepB.of_below h3)).trans h4
      exact (KeepB.strike k1 (by omega)).mono (fun x hx => by cases hx)
    · have : p = G := by simpa [Value.ownBlock] using hp.symm
      omega)
  have HS : Hid (∀ w3, Below w2.heap.size w2 w3 → RowC G C1 w3 ∧ RowC q C0 w3) := Lib.hid (fun w3 h3 => ⟨(h3.block G (Array.getElem?_eq_some_iff.1 hC1).1).trans hC1, (h3.block q (Array.getElem?_eq_some_iff.1 hq2).1).trans hq2⟩)
  have HC0 := Lib.hid (And.intro hCt0 (And.intro hCl0 (And.intro hn hcm)))
  have H1 := Lib.hid (And.intro hl2 ht2)
  have HML := Lib.hid hml
  have HTI := Lib.hid hti
  have HCPM := Lib.hid hcpm
  have HR1 := Lib.hid hr1
  have hz1 : ¬ ((m : Int) = 0) := by omega
  have hz2 : ¬ ((i : Int) = (n : Int)) := by omega
  have hin : i ≤ n := by omega
  have hii : (i : Int) ≤ (n : Int) := by omega
  have hb0 : ((cap : Int) < (n : Int) + (m : Int)) := by omega
  have hb1' : (0 : Int) ≤ (i : Int) + (m : Int) := by omega
  have hb1'' : (0 : Int) ≤ (n : Int) + (m : Int) := by omega
  have htn : ((i : Int) + (m : Int)).toNat = i + m := by omega
  have hb2 : ¬ (cp = i + m) := by omega
  have hb3 : (i : Int) ≤ (n : Int) + (m : Int) := by omega
  have hb4 : ¬ (cap = i) := by omega
  have hb5 : ¬ (cp = i) := by omega
  have hb6 : (i : Int) + (m : Int) ≤ (n : Int) + (m : Int) := by omega
  have e2 := fun dc => hr2 3 dc
  have hic : i ≤ cap := by omega
  have hnc2 : n ≤ cap := hnc
  clear hP hown hC0 hCt0 hCl0 hn hcm hml hV hsp hC hCl hCt hcpm hb1 hti hk2 hl2 ht2 hk12 hq2 hkk hik hG hr1 hr2 hC1 hqn hg1 hnc hq0
  go_enter Try.func57, Try.ntmps57
  go_wp2_with (at_builtin; refine wpList_append_run rfl _ _ _ _ rfl _ _ rfl rfl (HR1.out _) ?_)
  clear e2 HR1
  go_still_tail 8, (by kernel_rfl)
  change wpList _ _ _ _ _ w2.drew
  have HW3 : Hid (Below w2.heap.size w2 w2.drew) := Lib.hid ((Below.refl _ _).drew)
  generalize w2.drew = w3 at HW3 ⊢
  obtain ⟨hC1, hC0⟩ := HS.out w3 HW3.out
  obtain ⟨hCt0, hCl0, hn, hcm⟩ := HC0.out
  have q1 : i + m + (n - i) ≤ cp := by clear htn hb1' hb1'' hb6 hw1 hw2 hw3; omega
  have q2 : n - i ≤ n + m - (i + m) := by clear htn hb1' hb1'' hb6 hw1 hw2 hw3; omega
  have q3 : n - i ≤ cap - i := by clear htn hb1' hb1'' hb6 hw1 hw2 hw3; omega
  have hdl : (l.drop i).length = n - i := by rw [List.length_drop, hn]
  have hdp : PairsIn .i64 (some ⟨q, i * 2, none⟩) (l.drop i).length (cap - i) (l.drop i) w3 := hC0.pairs i (drop_cells hn (by rw [hn]; exact hCt0) i) _ (by rw [hdl]; exact q3) (by unfold maxLen at hcm; omega)
  obtain ⟨C2, w4, hr4, hC2, hk4, hl4, ht4, -⟩ := copy_put (A := l.take i ++ vs) (B := l.drop i) (i := i + m) hC1 H1.out.1 H1.out.2 (by rw [List.length_append, HTI.out, ← HML.out]) (by rw [hdl]; exact q1) (n + m - (i + m)) (by rw [hdl]; exact q2) (some ⟨q, i * 2, none⟩) (cap - i) hdp (by rintro x ⟨⟩; rfl)
  rw [hdl] at hr4 ht4
  rw [show (i + m + (n - i)) = n + m by omega] at ht4
  have HE := Lib.hid (HEnd.out w3 w4 C2 HW3.out hk4 hC2 hl4 ht4)
  have e4 := fun dc => hr4 3 dc
  clear q1 q2 q3 hC1 hC0 hCt0 hCl0 hn hcm hdl hdp hC2 hk4 hl4 ht4 hr4
  go_wp2_with fail
  exact HE.out
end Go.Proofs.Ytgagkmlkoeceiaa.H
