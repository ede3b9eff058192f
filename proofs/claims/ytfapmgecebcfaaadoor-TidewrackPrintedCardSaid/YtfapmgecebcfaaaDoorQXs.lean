/- append of what the document says upon what it said; the contracts of the document's prints and Titles. -/
import Derived.Test.YtfapmgecebcfaaaDoorQIs
import Derived.Test.YtfapmgecebcfaaaDoorMerged0
namespace Go.Proofs.YtfapmgecebcfaaaDoor.Q
open Go.RowKit
open Go.Proofs.YtfapmgecebcfaaaDoor.W (OwnI OwnR IntsIn RunesIn)
open Go.Proofs.YtfapmgecebcfaaaDoor.Y (toI toI_len)

theorem append_xs_run (base : Nat) (v v2 : Value) (l l2 : List Say) (w : World) (hown : OwnX base v l w) (h2 : OwnX base v2 l2 w) (hl : (l.length : Int) ≤ 1000000) (hl2 : (l2.length : Int) ≤ 1000000) (hbase : base ≤ w.heap.size) :
    ∃ v' w', (Builtin.append_ #[35, 35] 35 #[v, v2]).run Tryd.prog w = .ok v' w' ∧ OwnX base v' (l ++ l2) w' ∧ w.grownBy w' v.ownBlock := by
  obtain ⟨i0, hi, hz0, hz1, hz2⟩ := info_parts infoX
  obtain ⟨rows, k1, k2, k3⟩ := hown.rows
  obtain ⟨rows2, m1, m2, m3⟩ := h2.rows
  have hlen2 : rows2.length = l2.length := by rw [← m1, List.length_map]
  rcases m2.2 with ⟨rfl, h0⟩ | ⟨g, cap, cur, rfl, hb2, hg2, hc2, hm2, hs2, ht2⟩
  · have hl0 : l2 = [] := List.length_eq_zero_iff.1 h0
    subst hl0
    refine ⟨v, w, run_append_owned_none w base _ _ _ i0 6 Tryd.underlying35 hi v _ _ k2, by rw [List.append_nil]; exact hown, ⟨rfl, rfl, rfl, Nat.le_refl _, fun _ _ _ => rfl⟩⟩
  · obtain ⟨v', w', hr, hw', h4, _⟩ := run_append_own w base 35 35 47 i0 (.agg #[.int .i64 0, .int .i64 0, .int .i64 0, .bool false, .slice none 0 0, .string ⟨#[]⟩]) 6 72 Tryd.underlying35 hi hz0 hz1 hz2 rfl (by decide) v l.length (flatX rows) k2 ⟨g, 0, none⟩ l2.length cap (flatX rows2) (by rw [flatX_len, hlen2])
      (fun j u hj => by
        have hadd : ((⟨g, 0, none⟩ : Addr).add j) = ⟨g, j, none⟩ := by unfold Addr.add; split <;> simp_all
        have hjl : j < l2.length * 6 := by have := (List.getElem?_eq_some_iff.1 hj).1; rw [flatX_len, hlen2] at this; exact this
        rw [hadd, World.ownsRow.cellAt m2 j hjl, hj])
      (fun u hu => by
        unfold flatX at hu
        obtain ⟨r, hr, hu⟩ := List.mem_flatMap.1 hu
        simp only [xCells, List.mem_cons, List.not_mem_nil, or_false] at hu
        rcases hu with rfl | rfl | rfl | rfl | rfl | rfl
        · rfl
        · rfl
        · rfl
        · rfl
        · rcases (m3 r hr).2 with ⟨h, _⟩ | ⟨_, _, _, h, _⟩ <;> rw [h] <;> rfl
        · rfl)
      (by unfold maxLen; omega) (by omega) hbase
    refine ⟨v', w', hr, ⟨⟨rows ++ rows2, by rw [List.map_append, k1, m1], ?_, ?_⟩⟩, h4⟩
    · rw [List.length_append]
      unfold flatX
      rw [List.flatMap_append]
      exact hw'
    · have keep : ∀ (q : Value) (zs : List Int), OwnI base q zs w → OwnI base q zs w' := fun q zs hq => World.ownsRow.kept hq h4 (by
        cases hv : q.ownBlock with
        | none => exact .inl rfl
        | some k =>
          refine .inr (fun e => ?_)
          obtain ⟨cs, hcs, _⟩ := own_type hq hv
          obtain ⟨ds, hds, _⟩ := own_type k2 e.symm
          exact absurd (types_ne hcs hds) (by decide))
      intro q hq
      rcases List.mem_append.1 hq with hq | hq
      · exact keep _ _ (k3 q hq)
      · exact keep _ _ (m3 q hq)
theorem wpList_append_xs {ops : Array Oper} {rest : List Oper} {o : Oper} {z : Act} {w : World} {Q : Exit → Act → World → Prop} (hgd : o.guard = none) (s x : Operand)
    (ho : o.op = .call { callee := .builtin .append, args := #[s, x], argTypes := #[35, 35] }) (hty : o.type = 35)
    (base : Nat) (v v2 : Value) (l l2 : List Say) (hs : z.eval s = v) (hxv : z.eval x = v2) (hown : OwnX base v l w) (h2 : OwnX base v2 l2 w) (hl : (l.length : Int) ≤ 1000000) (hl2 : (l2.length : Int) ≤ 1000000) (hbase : base ≤ w.heap.size)
    (hK : ∀ v' w', OwnX base v' (l ++ l2) w' → w.grownBy w' v.ownBlock → wpList Tryd.prog ops Q rest (z.put o.dst v') w') : wpList Tryd.prog ops Q (o :: rest) z w :=
  wpList_plain hgd fun _ hK' => by
    obtain ⟨v', w', hr, h1, h2⟩ := append_xs_run base v v2 l l2 w hown h2 hl hl2 hbase
    unfold Oper.wp execOp
    simp only [ho, hty, resolve, invoke, builtin, Sem.run_bind, Sem.run_pure, Result.andThen_ok, List.map_toArray, List.map_cons, List.map_nil, hs, hxv, hr]
    exact hK' _ _ (hK v' w' h1 h2)
theorem OwnX.weaken {base base' : Nat} {v : Value} {l : List Say} {w : World} (h : OwnX base v l w) (hb : base' ≤ base) : OwnX base' v l w := by
  obtain ⟨rows, h1, h2, h3⟩ := h.rows
  refine ⟨⟨rows, h1, ⟨h2.1, h2.2.imp id ?_⟩, fun r hr => own_weaken (h3 r hr) hb⟩⟩
  rintro ⟨g, cap, cur, k1, k2, k3⟩
  exact ⟨g, cap, cur, k1, Nat.le_trans hb k2, k3⟩
theorem OwnX.empty (w : World) (base : Nat) (hb : base ≤ w.heap.size) : OwnX base (.slice (some ⟨w.heap.size, 0, none⟩) 0 0) [] (w.alloc (.cells #[] 47)) :=
  ⟨⟨[], rfl, World.ownsRow_lit w #[] 0 hb (by decide) rfl, fun _ h => by cases h⟩⟩
def XPost (base : Nat) (l : List Say) (w : World) (e : Ending) (w' : World) : Prop := ∃ v', e = .returned v' ∧ OwnX base v' l w' ∧ Below base w w'

set_option maxRecDepth 100000 in
set_option maxHeartbeats 4000000 in
theorem refPrints_any (b2 : Nat) (a : Option Addr) (c : Nat) (l : List Nat) (w : World) (hI : OwnI b2 (.slice a l.length c) (toI l) w) (hn : (l.length : Int) ≤ 100000) :
    Calls Tryd.prog 22 #[.slice a l.length c] w (XPost w.heap.size (prints l) w) := by
  obtain ⟨base, hbase⟩ : ∃ base, w.heap.size = base := ⟨_, rfl⟩
  rw [hbase]
  obtain ⟨P, hP⟩ : ∃ P, XPost base (prints l) w = P := ⟨_, rfl⟩
  rw [hP]
  have HP := Lib.hid hP
  have HI := Lib.hid hI
  obtain ⟨M, hM⟩ : ∃ M, l.length = M := ⟨_, rfl⟩
  rw [hM] at HI hn ⊢
  have HM := Lib.hid hM
  obtain ⟨w1, hw1⟩ : ∃ w1, w.alloc (.cells #[] 47) = w1 := ⟨_, rfl⟩
  have hb1 : Below base w w1 := by rw [← hw1, ← hbase]; exact (Below.refl _ _).alloc (Nat.le_refl _) _
  have hO1 : OwnX base (.slice (some ⟨base, 0, none⟩) 0 0) [] w1 := by rw [← hw1, ← hbase]; exact OwnX.empty w _ (Nat.le_refl _)
  have hbw1 : base ≤ w1.heap.size := by have := hb1.size; omega
  have HB1 := Lib.hid hb1
  have HO1 := Lib.hid hO1
  have HW1 := Lib.hid hw1
  have HBs := Lib.hid hbase
  have HI1 : Hid (OwnI b2 (.slice a M c) (toI l) w1) := Lib.hid (OwnI.belowAll HI.out (by rw [hbase]; exact hb1))
  clear hP hI hM hw1 hb1 hO1 hbase HI
  go_enter Tryd.func22, Tryd.ntmps22
  go_upto_region 2 with fail
  rw [HW1.out, HBs.out]
  go_wp2_with fail
  go_loopw [3, 9] (fun u i wr => ∃ j : Nat, i = .int .i64 (j : Int) ∧ j ≤ M ∧ base ≤ wr.heap.size ∧ Hid (Below base w wr ∧ OwnX base u (prints (l.take j)) wr ∧ OwnI b2 (.slice a M c) (toI l) wr)) (fun _ i _ => M - (intOf i).toNat)
  case atStart => exact ⟨0, rfl, by omega, hbw1, Lib.hid ⟨HB1.out, HO1.out, HI1.out⟩⟩
  case round =>
    rename_i u0 wr
    obtain ⟨j, rfl, hj, hbw, HF⟩ := hrel
    obtain ⟨hB, hOw, hRw⟩ := HF.out
    by_cases hlt : j < M
    · have hjl : j < l.length := by rw [HM.out]; exact hlt
      obtain ⟨a', c', he, hin, _⟩ := hRw.shape
      obtain ⟨rfl, hml, rfl⟩ : a = a' ∧ M = (toI l).length ∧ c = c' := by injection he with h1 h2 h3; exact ⟨h1, h2, h3⟩
      obtain ⟨b, off, rfl, hbl, hIx⟩ := hin.2.resolve_left (by intro e; have := toI_len l; rw [e] at this; simp at this; omega)
      have hc := hIx j (by rw [toI_len]; exact hjl)
      obtain ⟨x, hx⟩ : ∃ x, l[j] = x := ⟨_, rfl⟩
      have hgx : (toI l).getD j 0 = (x : Int) := by rw [← hx]; simp [toI, List.getD_eq_getElem?_getD, hjl]
      have hts : l.take (j + 1) = l.take j ++ [x] := by rw [List.take_succ_eq_append_getElem hjl, hx]
      rw [hgx] at hc
      have HTs := Lib.hid hts
      have HB := Lib.hid hB
      have HOw := Lib.hid hOw
      have HRw := Lib.hid hRw
      have HLen : Hid (((prints (l.take j)).length : Int) ≤ 1000000) := Lib.hid (by unfold prints; rw [List.length_map, List.length_take]; omega)
      clear hml hB hOw hRw hin hIx hgx hts HF he hx hbl
      go_wp2_with (at_builtin; refine wpList_append_x rfl _ _ rfl rfl base _ (prints (l.take j)) wr.heap.size (prt x, .slice none 0 0) rfl rfl (HOw.out.alloc _) (x_one wr (prt x) (.slice none 0 0) _) (OwnI.nil _ _) HLen.out (by simp; omega) ?_)
      intro v' w4 hown4 hgr
      have HB4 : Hid (Below base w w4) := Lib.hid ((HB.out.alloc hbw _).grown hgr (by simp; omega) (fun q hq => HOw.out.ownBlock q hq))
      have HR4 : Hid (OwnI b2 (.slice (some ⟨b, off, none⟩) M c) (toI l) w4) := Lib.hid (World.ownsRow.kept (OwnI.alloc HRw.out _) hgr (.inr (fun e => by
        obtain ⟨cs, hcs, _⟩ := own_type (OwnI.alloc HRw.out (.cells #[] 0)) (g := b) rfl
        obtain ⟨rows, _, h2, _⟩ := HOw.out.rows
        obtain ⟨ds, hds, _⟩ := own_type h2 e.symm
        obtain ⟨cs', hcs', _⟩ := own_type HRw.out (g := b) rfl
        exact absurd (types_ne hcs' hds) (by decide))))
      have hbw4 : base ≤ w4.heap.size := by have := hgr.size; simp at this; omega
      have HOw4 : Hid (OwnX base v' (prints (l.take (j + 1))) w4) := Lib.hid (by rw [HTs.out, prints_append]; exact hown4)
      clear hown4 hgr
      go_wp2
      go_roundw
      case rel => exact ⟨j + 1, by go_num, by omega, hbw4, Lib.hid ⟨HB4.out, HOw4.out, HR4.out⟩⟩
      case measure => simp [intOf]; omega
    · obtain rfl : j = M := by omega
      have hta : l.take j = l := List.take_of_length_le (by rw [HM.out]; exact Nat.le_refl _)
      rw [hta] at hOw
      have HB := Lib.hid hB
      have HOw := Lib.hid hOw
      clear hB hOw hRw HF hta
      go_wp2
      rw [← HP.out]
      exact ⟨_, rfl, HOw.out, HB.out⟩
end Go.Proofs.YtfapmgecebcfaaaDoor.Q
