/- append of an action; the contract of seq.printed. -/
import Derived.Test.YtfapmgecebcfaaaDoorQBlk
namespace Go.Proofs.YtfapmgecebcfaaaDoor.Q
open Go.RowKit
open Go.Proofs.YtfapmgecebcfaaaDoor.W (OwnI OwnR IntsIn RunesIn)
open Go.Proofs.YtfapmgecebcfaaaDoor.Y (toI toI_len)

theorem append_act_run (base : Nat) (v : Value) (l : List Say) (g : Nat) (r : Say × Value) (w : World) (hown : OwnA base v l w) (hc : ∀ j u, (aCells r)[j]? = some u → w.cell? ⟨g, j, none⟩ = some u) (hn : OwnI base r.2 r.1.nums w) (hl : (l.length : Int) ≤ 1000000) (hbase : base ≤ w.heap.size) :
    ∃ v' w', (Builtin.append_ #[33, 33] 33 #[v, .slice (some ⟨g, 0, none⟩) 1 1]).run Tryd.prog w = .ok v' w' ∧ OwnA base v' (l ++ [r.1]) w' ∧ w.grownBy w' v.ownBlock := by
  obtain ⟨i0, hi, hz0, hz1, hz2⟩ := info_parts infoAct
  obtain ⟨rows, h1, h2, h3⟩ := hown.rows
  obtain ⟨v', w', hr, hw', h4, _⟩ := run_append_own w base 33 33 51 i0 (.agg #[.int .i64 0, .int .i32 0, .int .u8 0, .bool false, .slice none 0 0, .string ⟨#[]⟩]) 6 56 Tryd.underlying33 hi hz0 hz1 hz2 rfl (by decide) v l.length (flat rows) h2 ⟨g, 0, none⟩ 1 1 (aCells r) rfl
    (fun j u hj => by
      have hadd : ((⟨g, 0, none⟩ : Addr).add j) = ⟨g, j, none⟩ := by unfold Addr.add; split <;> simp_all
      rw [hadd]; exact hc j u hj)
    (fun u hu => by
      simp only [aCells, List.mem_cons, List.not_mem_nil, or_false] at hu
      rcases hu with rfl | rfl | rfl | rfl | rfl | rfl
      · rfl
      · rfl
      · rfl
      · rfl
      · rcases hn.2 with ⟨h, _⟩ | ⟨_, _, _, h, _⟩ <;> rw [h] <;> rfl
      · rfl)
    (by unfold maxLen; omega) (by omega) hbase
  refine ⟨v', w', hr, ⟨⟨rows ++ [r], by rw [List.map_append, h1]; rfl, ?_, ?_⟩⟩, h4⟩
  · rw [List.length_append]
    show w'.ownsRow base _ 6 v' (l.length + 1) (flat (rows ++ [r]))
    unfold flat
    rw [List.flatMap_append, List.flatMap_singleton]
    exact hw'
  · have keep : ∀ (q : Value) (zs : List Int), OwnI base q zs w → OwnI base q zs w' := fun q zs hq => World.ownsRow.kept hq h4 (by
      cases hv : q.ownBlock with
      | none => exact .inl rfl
      | some k =>
        refine .inr (fun e => ?_)
        obtain ⟨cs, hcs, _⟩ := own_type hq hv
        obtain ⟨ds, hds, _⟩ := own_type h2 e.symm
        exact absurd (types_ne hcs hds) (by decide))
    intro q hq
    rcases List.mem_append.1 hq with hq | hq
    · exact keep _ _ (h3 q hq)
    · obtain rfl : q = r := by simpa using hq
      exact keep _ _ hn
theorem wpList_append_act {ops : Array Oper} {rest : List Oper} {o : Oper} {z : Act} {w : World} {Q : Exit → Act → World → Prop} (hgd : o.guard = none) (s x : Operand)
    (ho : o.op = .call { callee := .builtin .append, args := #[s, x], argTypes := #[33, 33] }) (hty : o.type = 33)
    (base : Nat) (v : Value) (l : List Say) (g : Nat) (r : Say × Value) (hs : z.eval s = v) (hxv : z.eval x = .slice (some ⟨g, 0, none⟩) 1 1) (hown : OwnA base v l w) (hc : ∀ j u, (aCells r)[j]? = some u → w.cell? ⟨g, j, none⟩ = some u) (hn : OwnI base r.2 r.1.nums w) (hl : (l.length : Int) ≤ 1000000) (hbase : base ≤ w.heap.size)
    (hK : ∀ v' w', OwnA base v' (l ++ [r.1]) w' → w.grownBy w' v.ownBlock → wpList Tryd.prog ops Q rest (z.put o.dst v') w') : wpList Tryd.prog ops Q (o :: rest) z w :=
  wpList_plain hgd fun _ hK' => by
    obtain ⟨v', w', hr, h1, h2⟩ := append_act_run base v l g r w hown hc hn hl hbase
    unfold Oper.wp execOp
    simp only [ho, hty, resolve, invoke, builtin, Sem.run_bind, Sem.run_pure, Result.andThen_ok, List.map_toArray, List.map_cons, List.map_nil, hs, hxv, hr]
    exact hK' _ _ (hK v' w' h1 h2)
theorem act_one (w : World) (s : Say) (nv : Value) (t : TypeId) (j : Nat) (u : Value) (h : (aCells (s, nv))[j]? = some u) : (w.alloc (.cells (aArr s nv) t)).cell? ⟨w.heap.size, j, none⟩ = some u := by
  rw [World.cell?_alloc_new]
  simp only [aArr, aCells] at h ⊢
  simpa using h
theorem OwnR.grown {base b2 : Nat} {v q : Value} {l : List Say} {zs : List Int} {w w' : World} (h : OwnR b2 q zs w) (hown : OwnA base v l w) (hgr : w.grownBy w' v.ownBlock) : OwnR b2 q zs w' := World.ownsRow.kept h hgr (by
  cases hv : q.ownBlock with
  | none => exact .inl rfl
  | some k =>
    refine .inr (fun e => ?_)
    obtain ⟨rows, _, h2, _⟩ := hown.rows
    obtain ⟨cs, hcs, _⟩ := own_type h hv
    obtain ⟨ds, hds, _⟩ := own_type h2 e.symm
    exact absurd (types_ne hcs hds) (by decide))
def SaidPost (base : Nat) (l : List Say) (w : World) (e : Ending) (w' : World) : Prop := ∃ v', e = .returned v' ∧ OwnA base v' l w' ∧ Below base w w'

set_option maxRecDepth 100000 in
set_option maxHeartbeats 4000000 in
theorem printed_any (base b2 : Nat) (v : Value) (acts : List Say) (a : Option Addr) (c : Nat) (l : List Nat) (w : World) (hO : OwnA base v acts w) (hR : OwnR b2 (.slice a l.length c) (toI l) w) (hbase : base ≤ w.heap.size) (hn : ((acts.length + l.length : Nat) : Int) ≤ 1000000) :
    Calls Tryd.prog 39 #[v, .slice a l.length c] w (SaidPost base (acts ++ prints l) w) := by
  obtain ⟨P, hP⟩ : ∃ P, SaidPost base (acts ++ prints l) w = P := ⟨_, rfl⟩
  rw [hP]
  have HP := Lib.hid hP
  have HO := Lib.hid hO
  have HR := Lib.hid hR
  obtain ⟨M, hM⟩ : ∃ M, l.length = M := ⟨_, rfl⟩
  rw [hM] at HR hn ⊢
  have HM := Lib.hid hM
  have hn' : (acts.length : Int) + M ≤ 1000000 := by omega
  clear hP hO hR hM hn
  go_enter Tryd.func39, Tryd.ntmps39
  go_wp2_with fail
  go_loopw [0, 9] (fun u i wr => ∃ j : Nat, i = .int .i64 (j : Int) ∧ j ≤ M ∧ base ≤ wr.heap.size ∧ Hid (Below base w wr ∧ OwnA base u (acts ++ prints (l.take j)) wr ∧ OwnR b2 (.slice a M c) (toI l) wr)) (fun _ i _ => M - (intOf i).toNat)
  case atStart => exact ⟨0, rfl, by omega, hbase, Lib.hid ⟨Below.refl _ _, by rw [List.take_zero]; simpa [prints] using HO.out, HR.out⟩⟩
  case round =>
    rename_i u0 wr
    obtain ⟨j, rfl, hj, hbw, HF⟩ := hrel
    obtain ⟨hB, hOw, hRw⟩ := HF.out
    by_cases hlt : j < M
    · have hjl : j < l.length := by rw [HM.out]; exact hlt
      have hsh := hRw.shape
      obtain ⟨a', c', he, hin, _⟩ := hsh
      obtain ⟨rfl, hml, rfl⟩ : a = a' ∧ M = (toI l).length ∧ c = c' := by injection he with h1 h2 h3; exact ⟨h1, h2, h3⟩
      obtain ⟨b, off, rfl, hbl, hI⟩ := hin.2.resolve_left (by intro e; have := toI_len l; rw [e] at this; simp at this; omega)
      have hc := hI j (by rw [toI_len]; exact hjl)
      obtain ⟨x, hx⟩ : ∃ x, l[j] = x := ⟨_, rfl⟩
      have hgx : (toI l).getD j 0 = (x : Int) := by rw [← hx]; simp [toI, List.getD_eq_getElem?_getD, hjl]
      have hts : l.take (j + 1) = l.take j ++ [x] := by rw [List.take_succ_eq_append_getElem hjl, hx]
      rw [hgx] at hc
      have HTs := Lib.hid hts
      have HB := Lib.hid hB
      have HOw := Lib.hid hOw
      have HRw := Lib.hid hRw
      have hlen : (acts ++ prints (l.take j)).length ≤ acts.length + j := by rw [List.length_append]; unfold prints; rw [List.length_map, List.length_take]; omega
      have HLen := Lib.hid hlen
      clear hml hB hOw hRw hin hI hgx hts HF he hx hlen hbl
      go_wp2_with (at_builtin; refine wpList_append_act rfl _ _ rfl rfl base _ (acts ++ prints (l.take j)) wr.heap.size (prt x, .slice none 0 0) rfl rfl (HOw.out.alloc _) (act_one wr (prt x) (.slice none 0 0) _) (OwnI.nil _ _) (by have := HLen.out; omega) (by simp; omega) ?_)
      intro v' w4 hown4 hgr
      have HB4 : Hid (Below base w w4) := Lib.hid ((HB.out.alloc hbw _).grown hgr (by simp; omega) (fun q hq => HOw.out.ownBlock q hq))
      have HR4 : Hid (OwnR b2 (.slice (some ⟨b, off, none⟩) M c) (toI l) w4) := Lib.hid (OwnR.grown (HRw.out.alloc _) (HOw.out.alloc _) hgr)
      have hbw4 : base ≤ w4.heap.size := by have := hgr.size; simp at this; omega
      have HOw4 : Hid (OwnA base v' (acts ++ prints (l.take (j + 1))) w4) := Lib.hid (by rw [HTs.out]; have := hown4; simpa [prints] using this)
      clear hown4 hgr
      go_wp2
      go_roundw
      case rel => exact ⟨j + 1, by go_num, by omega, hbw4, Lib.hid ⟨HB4.out, HOw4.out, HR4.out⟩⟩
      case measure => simp [intOf]; omega
    · obtain rfl : j = M := by omega
      have hta : l.take j = l := List.take_of_length_le (by rw [HM.out]; exact Nat.le_refl _)
      rw [hta] at hOw
      have HB := Lib.hid hB
      have HOw := Lib.hid hOw
      clear hB hOw hRw HF hta
      go_wp2
      rw [← HP.out]
      exact ⟨_, rfl, HOw.out, HB.out⟩
end Go.Proofs.YtfapmgecebcfaaaDoor.Q
