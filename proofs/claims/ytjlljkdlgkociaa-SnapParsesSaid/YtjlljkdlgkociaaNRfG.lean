/- The contract of the document's Parse (layer 16). -/
import Derived.Test.YtjlljkdlgkociaaNRfM
import Derived.Test.YtjlljkdlgkociaaNRfR
import Derived.Test.YtjlljkdlgkociaaNPrs
import Derived.Test.YtjlljkdlgkociaaMerged24
namespace Go.Proofs.Ytjlljkdlgkociaa.K
open Go.RowKit Go.Proofs.Ytjlljkdlgkociaa.I

/-- what it leaves -/
def SnRPost (q : Sn × Nat) (w : World) (e : Ending) (w' : World) : Prop := ∃ xa xn xc ya yn yc, e = .returned (.tuple #[.agg (snA q.1 xa xn xc ya yn yc), .int .i64 (q.2 : Int)]) ∧ SnIn .i64 xa xn xc ya yn yc q.1 w' ∧ Below w.heap.size w w'
/-- its blocks: the result, what is read, and the snap -/
structure PfB (rb ib xb : Nat) (t : ByteArray) (e : Nat) (cs : Array Value) (w wr : World) : Prop where
  b : Below rb w wr
  o : wr.heap[rb]? = some (.cells #[.int .i64 0, .int .i64 0, .int .i64 0, .int .i64 0, .int .i64 0, .string ⟨#[]⟩, .slice none 0 0, .int .i64 0, .int .i64 0, .slice none 0 0] 35 (0, 0))
  i : wr.heap[ib]? = some (.cells #[.string t, .int .i64 (e : Int)] 65 (0, 0))
  x : wr.heap[xb]? = some (.cells cs 35 (0, 0))
  lt : rb < ib ∧ ib < xb
section
variable {rb ib xb : Nat} {t t' : ByteArray} {e : Nat} {cs cs' : Array Value} {w wr w' : World}
theorem PfB.size (h : PfB rb ib xb t e cs w wr) : xb + 1 ≤ wr.heap.size := (Array.getElem?_eq_some_iff.1 h.x).1
theorem PfB.more (h : PfB rb ib xb t e cs w wr) (hb : Below (xb + 1) wr w') : PfB rb ib xb t e cs w w' :=
  have hl := h.lt
  ⟨h.b.trans (hb.mono (by omega)), (hb.block rb (by omega)).trans h.o, (hb.block ib (by omega)).trans h.i, (hb.block xb (by omega)).trans h.x, h.lt⟩
theorem PfB.below (h : PfB rb ib xb t e cs w wr) (hb : Below wr.heap.size wr w') : PfB rb ib xb t e cs w w' := h.more (hb.mono h.size)
theorem PfB.set (h : PfB rb ib xb t e cs w wr) (t' : ByteArray) (e' : Nat) : PfB rb ib xb t' e' cs w ((wr.setCell ⟨ib, 0, none⟩ (.string t')).setCell ⟨ib, 1, none⟩ (.int .i64 (e' : Int))) := by
  have hl := h.lt
  refine ⟨(h.b.setCell (p := ⟨ib, 0, none⟩) (by show rb ≤ ib; omega) _).setCell (p := ⟨ib, 1, none⟩) (by show rb ≤ ib; omega) _, ?_, by simp [World.setCell, Array.getElem?_modify, h.i], ?_, hl⟩
  · rw [Below.heap_setCell _ _ _ _ (by show rb ≠ ib; omega), Below.heap_setCell _ _ _ _ (by show rb ≠ ib; omega)]
    exact h.o
  · rw [Below.heap_setCell _ _ _ _ (by show xb ≠ ib; omega), Below.heap_setCell _ _ _ _ (by show xb ≠ ib; omega)]
    exact h.x
theorem PfB.cell (h : PfB rb ib xb t e cs w wr) (i : Nat) (v : Value) (hz : cs.setIfInBounds i v = cs') : PfB rb ib xb t e cs' w (wr.setCell ⟨xb, i, none⟩ v) := by
  have hl := h.lt
  refine ⟨h.b.setCell (p := ⟨xb, i, none⟩) (by show rb ≤ xb; omega) _, ?_, ?_, ?_, hl⟩
  · rw [Below.heap_setCell _ _ _ _ (by show rb ≠ xb; omega)]; exact h.o
  · rw [Below.heap_setCell _ _ _ _ (by show ib ≠ xb; omega)]; exact h.i
  · have hk := h.x
    unfold World.setCell
    simp only [Array.getElem?_modify, hk]
    simp [← hz]
theorem PfB.i0 (h : PfB rb ib xb t e cs w wr) : wr.cell? ⟨ib, 0, none⟩ = some (.string t) := by rw [cell_block h.i]; rfl
theorem PfB.i1 (h : PfB rb ib xb t e cs w wr) : wr.cell? ⟨ib, 1, none⟩ = some (.int .i64 (e : Int)) := by rw [cell_block h.i]; rfl
theorem PfB.xc (h : PfB rb ib xb t e cs w wr) (i : Nat) : wr.cell? ⟨xb, i, none⟩ = cs[i]? := by rw [cell_block h.x]
end
theorem ownP_keepB {rk : IntKind} {T : TypeId} {base : Nat} {v : Value} {l : List (Int × Int)} {L : List Nat} {w w' : World} (h : OwnP rk T base v l w) (hk : KeepB L w w') (hv : ∀ q, v.ownBlock = some q → q ∉ L) : OwnP rk T base v l w' := by
  unfold OwnP at h ⊢
  refine ⟨h.1, ?_⟩
  rcases h.2 with h0 | ⟨g', c', cur, he, hbase, hgb, hc, hmx, hsz, ht⟩
  · exact .inl h0
  · exact .inr ⟨g', c', cur, he, hbase, (hk.block g' (Array.getElem?_eq_some_iff.1 hgb).1 (hv g' (by rw [he]; rfl))).trans hgb, hc, hmx, hsz, ht⟩
/-- and the rows, and what is begun -/
structure PfL (rb ib xb : Nat) (t : ByteArray) (st : Sta) (cs : Array Value) (v vb : Value) (rs : List Ro) (B : List (Int × Int)) (w wr : World) : Prop where
  p : PfB rb ib xb t st.2 cs w wr
  t : t.data.toList = st.1 ∧ (t.size : Int) ≤ 1000000
  g : Gath 75 [rb, ib, xb] (xb + 1) v rs wr
  q : OwnP .i64 93 (xb + 1) vb B wr
section
variable {rb ib xb : Nat} {t t' : ByteArray} {st st' : Sta} {cs cs' : Array Value} {v v' vb : Value} {rs : List Ro} {B : List (Int × Int)} {w wr w2 w' wB w5 : World} {r : Ro}
theorem PfL.ni (h : PfL rb ib xb t st cs v vb rs B w wr) : (∀ q, v.ownBlock = some q → q ∉ [rb, ib, xb]) ∧ ∀ q, vb.ownBlock = some q → q ∉ [rb, ib, xb] := by
  have hl := h.p.lt
  refine ⟨fun q hq hm => ?_, fun q hq hm => ?_⟩
  · have := (h.g.own q hq).1
    simp at hm
    omega
  · have := (h.q.ownBlock q hq).1
    simp at hm
    omega
theorem PfL.below (h : PfL rb ib xb t st cs v vb rs B w wr) (hb : Below wr.heap.size wr w') : PfL rb ib xb t st cs v vb rs B w w' := ⟨h.p.below hb, h.t, h.g.belowAll hb, h.q.belowAll hb⟩
theorem PfL.row (h : PfL rb ib xb t st cs v vb rs B w wr) (hb : Below (wr.heap.size + 1) (wr.alloc (.cells #[.slice none 0 0, .bool false] 75)) w2) (ht : t'.data.toList = st'.1 ∧ (t'.size : Int) ≤ 1000000) (x : Value) (y : Bool) :
    PfL rb ib xb t' st' cs v vb rs B w ((((w2.setCell ⟨ib, 0, none⟩ (.string t')).setCell ⟨ib, 1, none⟩ (.int .i64 (st'.2 : Int))).setCell ⟨wr.heap.size, 0, none⟩ x).setCell ⟨wr.heap.size, 1, none⟩ (.bool y)) ∧
    RoB 75 wr.heap.size x y ((((w2.setCell ⟨ib, 0, none⟩ (.string t')).setCell ⟨ib, 1, none⟩ (.int .i64 (st'.2 : Int))).setCell ⟨wr.heap.size, 0, none⟩ x).setCell ⟨wr.heap.size, 1, none⟩ (.bool y)) := by
  have hl := h.p.lt
  have hz := h.p.size
  have ha : Below wr.heap.size wr (wr.alloc (.cells #[.slice none 0 0, .bool false] 75)) := (Below.refl _ _).alloc (Nat.le_refl _) _
  have h2 : PfB rb ib xb t st.2 cs w w2 := (h.p.below ha).below (by rw [World.size_alloc]; exact hb)
  have hr0 : w2.heap[wr.heap.size]? = some (.cells #[.slice none 0 0, .bool false] 75 (0, 0)) := (hb.block _ (by omega)).trans (heap_alloc_new wr _)
  have hk : KeepB [rb, ib, xb] wr ((((w2.setCell ⟨ib, 0, none⟩ (.string t')).setCell ⟨ib, 1, none⟩ (.int .i64 (st'.2 : Int))).setCell ⟨wr.heap.size, 0, none⟩ x).setCell ⟨wr.heap.size, 1, none⟩ (.bool y)) := by
    refine KeepB.strike (q := wr.heap.size) ?_ (Nat.le_refl _)
    have k1 : KeepB [wr.heap.size, rb, ib, xb] wr w2 := (KeepB.of_below ha).trans (KeepB.of_below (by rw [World.size_alloc]; exact hb))
    exact (((k1.trans ((KeepB.setCell (q := ib) (o := 0) _).mono (by simp))).trans ((KeepB.setCell (q := ib) (o := 1) _).mono (by simp))).trans ((KeepB.setCell (q := wr.heap.size) (o := 0) _).mono (by simp))).trans ((KeepB.setCell (q := wr.heap.size) (o := 1) _).mono (by simp))
  refine ⟨⟨(h2.set t' st'.2).more ?_, ht, h.g.keptB hk h.ni.1, ownP_keepB h.q hk h.ni.2⟩, ?_⟩
  · exact ((Below.refl _ _).setCell (p := ⟨wr.heap.size, 0, none⟩) (by show xb + 1 ≤ wr.heap.size; omega) _).setCell (p := ⟨wr.heap.size, 1, none⟩) (by show xb + 1 ≤ wr.heap.size; omega) _
  · have hr1 : ((w2.setCell ⟨ib, 0, none⟩ (.string t')).setCell ⟨ib, 1, none⟩ (.int .i64 (st'.2 : Int))).heap[wr.heap.size]? = some (.cells #[.slice none 0 0, .bool false] 75 (0, 0)) := by
      rw [Below.heap_setCell _ _ _ _ (by show wr.heap.size ≠ ib; omega), Below.heap_setCell _ _ _ _ (by show wr.heap.size ≠ ib; omega)]
      exact hr0
    unfold RoB
    generalize (w2.setCell ⟨ib, 0, none⟩ (.string t')).setCell ⟨ib, 1, none⟩ (.int .i64 (st'.2 : Int)) = W at hr1
    unfold World.setCell
    simp only [Array.getElem?_modify, hr1]
    simp
theorem PfL.push (h : PfL rb ib xb t st cs v vb rs B w wB) (hg : Gath 75 [rb, ib, xb] (xb + 1) v' (rs ++ [r]) w5) (hgr : wB.grownBy w5 v.ownBlock) (hz : cs.setIfInBounds 6 v' = cs') : PfL rb ib xb t st cs' v' vb (rs ++ [r]) B w (w5.setCell ⟨xb, 6, none⟩ v') := by
  have hl := h.p.lt
  have hs := h.p.size
  have hb : Below (xb + 1) wB w5 := (Below.refl _ _).grown hgr (by omega) (fun q hq => (h.g.own q hq).1)
  have h5 := h.p.more hb
  have hk : KeepB [rb, ib, xb] w5 (w5.setCell ⟨xb, 6, none⟩ v') := (KeepB.setCell (q := xb) (o := 6) _).mono (by simp)
  have hx : PfB rb ib xb t st.2 cs' w (w5.setCell ⟨xb, 6, none⟩ v') := h5.cell 6 v' hz
  have hq5 : OwnP .i64 93 (xb + 1) vb B w5 := ownP_of h.q hgr (fun q hq => by
    obtain ⟨-, h2, cs2, h3⟩ := h.g.own q hq
    exact .inr ⟨cs2, 75, h3, by decide⟩)
  refine ⟨hx, h.t, hg.keptB hk (fun q hq hm => ?_), ownP_keepB hq5 hk h.ni.2⟩
  have := (hg.own q hq).1
  simp at hm
  omega
theorem PfL.snIn {s : Sn} {xa : Option Addr} {xn xc : Nat} {ya : Option Addr} {yn yc : Nat} (h : PfL rb ib xb t st cs (.slice xa xn xc) (.slice ya yn yc) s.R s.B w wr) : SnIn .i64 xa xn xc ya yn yc s wr := by
  obtain ⟨a, c, e, h3, -, h4⟩ := h.q.shape
  injection e with e1 e2 e3
  subst e1 e2 e3
  exact ⟨h.g.rowsL (fun p hp => by cases hp) (fun p hp => by cases hp), h3, h4⟩
theorem PfL.out {s : Sn} {xa : Option Addr} {xn xc : Nat} {ya : Option Addr} {yn yc : Nat} (h : PfL rb ib xb t st cs (.slice xa xn xc) (.slice ya yn yc) s.R s.B w wr) (hk : KeepB [rb] wr w') : SnIn .i64 xa xn xc ya yn yc s w' := by
  have hk' : KeepB [rb, ib, xb] wr w' := hk.mono (by simp)
  have hq := ownP_keepB h.q hk' h.ni.2
  have hg := h.g.keptB hk' h.ni.1
  obtain ⟨a, c, e, h3, -, h4⟩ := hq.shape
  injection e with e1 e2 e3
  subst e1 e2 e3
  exact ⟨hg.rowsL (fun p hp => by cases hp) (fun p hp => by cases hp), h3, h4⟩
end
theorem readS_stuck {st : Sta} (h : InOk st) (he : st.2 ≠ 0) : readS st = (st, []) := by
  unfold readS
  rw [atS_stuck h he]
  show (st, if st.2 = 0 then [] else []) = (st, [])
  rw [if_neg he]
set_option maxRecDepth 100000 in
set_option maxHeartbeats 16000000 in
theorem nrfparse_any (s : ByteArray) (hs : (s.size : Int) ≤ 1000000) (w : World) : Calls Try.prog 9 #[.string s] w (SnRPost (parseS s.data.toList) w) := by
  obtain ⟨rb, hrb⟩ : ∃ rb, w.heap.size = rb := ⟨_, rfl⟩
  obtain ⟨P, hP⟩ : ∃ P, SnRPost (parseS s.data.toList) w = P := ⟨_, rfl⟩
  rw [hP]
  have HP := Lib.hid hP
  obtain ⟨w1, hw1⟩ : ∃ w1, w.alloc (.cells #[.int .i64 0, .int .i64 0, .int .i64 0, .int .i64 0, .int .i64 0, .string ⟨#[]⟩, .slice none 0 0, .int .i64 0, .int .i64 0, .slice none 0 0] 35) = w1 := ⟨_, rfl⟩
  have hz1 : w1.heap[rb]? = some (.cells #[.int .i64 0, .int .i64 0, .int .i64 0, .int .i64 0, .int .i64 0, .string ⟨#[]⟩, .slice none 0 0, .int .i64 0, .int .i64 0, .slice none 0 0] 35 (0, 0)) := by rw [← hw1, ← hrb]; exact heap_alloc_new w _
  have hb1 : Below rb w w1 := by rw [← hw1, ← hrb]; exact (Below.refl _ _).alloc (Nat.le_refl _) _
  have HW1 := Lib.hid hw1
  have HRb := Lib.hid hrb
  have HBw1 := Lib.hid hb1
  have HZ1 := Lib.hid hz1
  have hs1 : w1.heap.size = rb + 1 := by rw [← hw1, World.size_alloc, hrb]
  have HS1 := Lib.hid hs1
  clear hP hrb hw1 hb1 hz1 hs1
  by_cases h0 : s.data.toList = []
  · have hq : (s.toList == ([] : List UInt8)) = true := by rw [ByteArray.toList_eq, h0]; rfl
    have hq2 : (s.toList == (⟨#[]⟩ : ByteArray).toList) = true := by rw [ByteArray.toList_eq, ByteArray.toList_eq, h0]; rfl
    have HX0 : Hid (parseS s.data.toList = (emptyN, 0)) := Lib.hid (by unfold parseS; rw [if_pos h0])
    have he : s = ⟨#[]⟩ := bytes_eqN (by rw [h0])
    go_enter Try.func9, Try.ntmps9
    go_upto_region 1 with fail
    rw [HW1.out, HRb.out]
    clear h0
    subst he
    have hO := HZ1.out
    obtain ⟨d0, d1, d2, d3, d4, d5, d6, d7, d8, d9⟩ := ten_cells (s := emptyN) (ra := none) (rn := 0) (rc := 0) (ga := none) (gn := 0) (gc := 0) hO
    have f0 := frozen_block hO 0
    have f1 := frozen_block hO 1
    have f2 := frozen_block hO 2
    have f3 := frozen_block hO 3
    have f4 := frozen_block hO 4
    have f5 := frozen_block hO 5
    have f6 := frozen_block hO 6
    have f7 := frozen_block hO 7
    have f8 := frozen_block hO 8
    have f9 := frozen_block hO 9
    unfold emptyN at d0 d1 d2 d3 d4 d5 d7 d8
    simp only at d0 d1 d2 d3 d4 d5 d7 d8
    have hend : Hid (P (.returned (.tuple #[.agg #[.int .i64 0, .int .i64 0, .int .i64 0, .int .i64 0, .int .i64 0, .string ⟨#[]⟩, .slice none 0 0, .int .i64 0, .int .i64 0, .slice none 0 0], .int .i64 0])) ((((((((((w1.setCell ⟨rb, 0, none⟩ (.int .i64 0)).setCell ⟨rb, 1, none⟩ (.int .i64 0)).setCell ⟨rb, 2, none⟩ (.int .i64 0)).setCell ⟨rb, 3, none⟩ (.int .i64 0)).setCell ⟨rb, 4, none⟩ (.int .i64 0)).setCell ⟨rb, 5, none⟩ (.string ⟨#[]⟩)).setCell ⟨rb, 6, none⟩ (.slice none 0 0)).setCell ⟨rb, 7, none⟩ (.int .i64 0)).setCell ⟨rb, 8, none⟩ (.int .i64 0)).setCell ⟨rb, 9, none⟩ (.slice none 0 0))) := Lib.hid (by
      rw [← HP.out]
      have hg : ∀ (u : World) (o : Nat) (x : Value), u.grownBy (u.setCell ⟨rb, o, none⟩ x) (some rb) := fun u o x => grown_set u rb o x
      have gg : w1.grownBy ((((((((((w1.setCell ⟨rb, 0, none⟩ (.int .i64 0)).setCell ⟨rb, 1, none⟩ (.int .i64 0)).setCell ⟨rb, 2, none⟩ (.int .i64 0)).setCell ⟨rb, 3, none⟩ (.int .i64 0)).setCell ⟨rb, 4, none⟩ (.int .i64 0)).setCell ⟨rb, 5, none⟩ (.string ⟨#[]⟩)).setCell ⟨rb, 6, none⟩ (.slice none 0 0)).setCell ⟨rb, 7, none⟩ (.int .i64 0)).setCell ⟨rb, 8, none⟩ (.int .i64 0)).setCell ⟨rb, 9, none⟩ (.slice none 0 0)) (some rb) := grown_trans (grown_trans (grown_trans (grown_trans (grown_trans (grown_trans (grown_trans (grown_trans (grown_trans (hg w1 0 _) (hg _ 1 _)) (hg _ 2 _)) (hg _ 3 _)) (hg _ 4 _)) (hg _ 5 _)) (hg _ 6 _)) (hg _ 7 _)) (hg _ 8 _)) (hg _ 9 _)
      have hb : Below rb w1 _ := (Below.refl rb w1).grown gg (by have := (Array.getElem?_eq_some_iff.1 hO).1; omega) (fun q e => by have := Option.some.inj e; omega)
      have hx := HX0.out
      refine ⟨none, 0, 0, none, 0, 0, ?_, ?_, ?_⟩
      · rw [hx]; rfl
      · rw [hx]
        exact ⟨⟨⟨[], ⟨rfl, Nat.le_refl _, by decide, .inl rfl⟩, RowsV.nil _ _, fun u hu => by cases hu⟩, fun _ => rfl, fun h => absurd rfl h⟩, ⟨rfl, Nat.le_refl _, by decide, .inl rfl⟩, fun _ => rfl⟩
      · rw [HRb.out]; exact HBw1.out.trans hb)
    clear hO
    go_wp2_with fail
    refine bodyPost_ret (v := .tuple #[.agg #[.int .i64 0, .int .i64 0, .int .i64 0, .int .i64 0, .int .i64 0, .string ⟨#[]⟩, .slice none 0 0, .int .i64 0, .int .i64 0, .slice none 0 0], .int .i64 0]) (by rw [results_cell_tmp rfl]; go_simp) rfl ?_
    exact hend.out
  have hq : (s.toList == ([] : List UInt8)) = false := by rw [ByteArray.toList_eq, beq_eq_false_iff_ne]; exact h0
  have hq2 : (s.toList == (⟨#[]⟩ : ByteArray).toList) = false := by rw [ByteArray.toList_eq, ByteArray.toList_eq, beq_eq_false_iff_ne]; exact h0
  have HPs : Hid (parseS s.data.toList = if endS (readN (s.data.toList, 0)).1.1 (readN (s.data.toList, 0)).1.2 ≠ 0 then (emptyN, endS (readN (s.data.toList, 0)).1.1 (readN (s.data.toList, 0)).1.2) else if (readN (s.data.toList, 0)).2 = emptyN ∨ ¬ MayN (readN (s.data.toList, 0)).2 then (emptyN, 1) else ((readN (s.data.toList, 0)).2, 0)) := Lib.hid (by unfold parseS; rw [if_neg h0])
  clear h0
  obtain ⟨l0, hl0⟩ : ∃ l, s.data.toList = l := ⟨_, rfl⟩
  rw [hl0] at HPs HP
  have HT0 : Hid (s.data.toList = ((l0, 0) : Sta).1 ∧ (s.size : Int) ≤ 1000000) := Lib.hid ⟨hl0, hs⟩
  have HL0 := Lib.hid hl0
  obtain ⟨wi, hwi⟩ : ∃ wi, (w1.alloc (.cells #[.string s, .int .i64 0] 65)).alloc (.cells #[.int .i64 0, .int .i64 0, .int .i64 0, .int .i64 0, .int .i64 0, .string ⟨#[]⟩, .slice none 0 0, .int .i64 0, .int .i64 0, .slice none 0 0] 35) = wi := ⟨_, rfl⟩
  obtain ⟨ib, hib⟩ : ∃ ib, rb + 1 = ib := ⟨_, rfl⟩
  obtain ⟨xb, hxb⟩ : ∃ xb, ib + 1 = xb := ⟨_, rfl⟩
  have hS0 : PfB rb ib xb s 0 #[.int .i64 0, .int .i64 0, .int .i64 0, .int .i64 0, .int .i64 0, .string ⟨#[]⟩, .slice none 0 0, .int .i64 0, .int .i64 0, .slice none 0 0] w wi := by
    have hs1 := HS1.out
    have b1 : Below w1.heap.size w1 (w1.alloc (.cells #[.string s, .int .i64 0] 65)) := (Below.refl _ _).alloc (Nat.le_refl _) _
    have b2 : Below w1.heap.size w1 wi := by rw [← hwi]; exact b1.alloc (by simp only [World.size_alloc]; omega) _
    refine ⟨HBw1.out.trans (b2.mono (by omega)), (b2.block rb (by omega)).trans HZ1.out, ?_, ?_, by omega⟩
    · rw [← hwi, ← hib, ← hs1, Below.heap_alloc _ _ _ (by simp only [World.size_alloc]; omega)]
      exact heap_alloc_new w1 _
    · have h := heap_alloc_new (w1.alloc (.cells #[.string s, .int .i64 0] 65)) (.cells #[.int .i64 0, .int .i64 0, .int .i64 0, .int .i64 0, .int .i64 0, .string ⟨#[]⟩, .slice none 0 0, .int .i64 0, .int .i64 0, .slice none 0 0] 35)
      rw [World.size_alloc, hs1, hwi] at h
      rw [← hxb, ← hib]
      exact h
  have HS0 := Lib.hid hS0
  have HWi := Lib.hid hwi
  have HIb := Lib.hid hib
  have HXb := Lib.hid hxb
  have HNe : Hid (xb ≠ ib ∧ ib ≠ xb) := Lib.hid (by omega)
  have HOk0 : Hid (InOk (l0, 0)) := Lib.hid (fun h => absurd rfl h)
  clear hS0 hwi hib hxb hs hl0
  go_enter Try.func9, Try.ntmps9
  go_upto_region 1 with fail
  rw [HW1.out, HRb.out]
  go_upto_region 5 with fail
  rw [HWi.out]
  try rw [HS1.out]
  try rw [HIb.out]
  try rw [HXb.out]
  clear hq hq2
  obtain ⟨⟨⟨l1, e1⟩, x1⟩, hq1⟩ : ∃ q, numS l0 0 = q := ⟨_, rfl⟩
  have HQ1 : Hid (numS l0 0 = ((l1, e1), x1)) := Lib.hid hq1
  have hok1 : InOk (l1, e1) := by
    have h := numS_ok HOk0.out
    (try simp only at h)
    rw [hq1] at h
    exact h
  have HOk1 := Lib.hid hok1
  have HL1 : Hid (Calls Try.prog 25 #[.agg #[.string s, .int .i64 (0 : Int)]] wi fun en w' => ∃ t' : ByteArray, en = .returned (.tuple #[.agg #[.string t', .int .i64 (e1 : Int)], .int .i64 (x1 : Int)]) ∧ t'.data.toList = l1 ∧ (t'.size : Int) ≤ 1000000 ∧ Below wi.heap.size wi w') := Lib.hid (by
    have h := refread_any s HT0.out.2 0 (fun h => by rw [HT0.out.1]; exact HOk0.out h) wi
    rw [HT0.out.1] at h
    unfold inV at h
    (try simp only at h)
    rw [hq1] at h
    exact h)
  clear hq1 hok1
  have q0 := HS0.out.i0
  have q1 := HS0.out.i1
  go_wp2_with fail
  refine HL1.out.mono ?_
  rintro e wA1 ⟨t1, rfl, htA, hzA, hbA⟩
  have hA := HS0.out.below hbA
  have hC := (hA.set t1 e1).cell 0 (.int .i64 (x1 : Int)) (cs' := #[.int .i64 (x1 : Int), .int .i64 0, .int .i64 0, .int .i64 0, .int .i64 0, .string ⟨#[]⟩, .slice none 0 0, .int .i64 0, .int .i64 0, .slice none 0 0]) rfl
  have a0 := hA.i0
  have a1 := hA.i1
  have b0 := frozen_block hA.i 0
  have b1 := frozen_block hA.i 1
  have j0 : wA1.cell? ⟨xb, 0, none⟩ = some (.int .i64 0) := by rw [hA.xc]; rfl
  have j1 := frozen_block hA.x 0
  have hne1 := HNe.out.1
  have hne2 := HNe.out.2
  obtain ⟨wC1, hwC⟩ : ∃ wC, ((wA1.setCell ⟨ib, 0, none⟩ (.string t1)).setCell ⟨ib, 1, none⟩ (.int .i64 (e1 : Int))).setCell ⟨xb, 0, none⟩ (.int .i64 (x1 : Int)) = wC := ⟨_, rfl⟩
  rw [hwC] at hC
  have HS1 := Lib.hid hC
  have HT1 : Hid (t1.data.toList = ((l1, e1) : Sta).1 ∧ (t1.size : Int) ≤ 1000000) := Lib.hid ⟨htA, hzA⟩
  have HWC1 := Lib.hid hwC
  clear htA hzA hbA hA hC hwC q0 q1 HL1
  go_upto_region 6 with (fail)
  rw [HWC1.out]
  clear a0 a1 b0 b1 j0 j1 hne1 hne2
  obtain ⟨⟨⟨l2, e2⟩, x2⟩, hq2⟩ : ∃ q, atS (l1, e1) 1000 = q := ⟨_, rfl⟩
  have HQ2 : Hid (atS (l1, e1) 1000 = ((l2, e2), x2)) := Lib.hid hq2
  have hok2 : InOk (l2, e2) := by
    have h := atS_ok HOk1.out 1000
    (try simp only at h)
    rw [hq2] at h
    exact h
  have HOk2 := Lib.hid hok2
  have HL2 : Hid (Calls Try.prog 26 #[.agg #[.string t1, .int .i64 (e1 : Int)], .int .i64 1000] wC1 fun en w' => ∃ t' : ByteArray, en = .returned (.tuple #[.agg #[.string t', .int .i64 (e2 : Int)], .int .i64 (x2 : Int)]) ∧ t'.data.toList = l2 ∧ (t'.size : Int) ≤ 1000000 ∧ Below wC1.heap.size wC1 w') := Lib.hid (by
    have h := nlim_any t1 HT1.out.2 (l1, e1) HT1.out.1 HOk1.out 1000 (by decide) wC1
    rw [hq2] at h
    unfold LimPost at h
    exact h)
  clear hq2 hok2
  have q0 := HS1.out.i0
  have q1 := HS1.out.i1
  go_wp2_with fail
  refine HL2.out.mono ?_
  rintro e wA2 ⟨t2, rfl, htA, hzA, hbA⟩
  have hA := HS1.out.below hbA
  have hC := (hA.set t2 e2).cell 1 (.int .i64 (x2 : Int)) (cs' := #[.int .i64 (x1 : Int), .int .i64 (x2 : Int), .int .i64 0, .int .i64 0, .int .i64 0, .string ⟨#[]⟩, .slice none 0 0, .int .i64 0, .int .i64 0, .slice none 0 0]) rfl
  have a0 := hA.i0
  have a1 := hA.i1
  have b0 := frozen_block hA.i 0
  have b1 := frozen_block hA.i 1
  have j0 : wA2.cell? ⟨xb, 1, none⟩ = some (.int .i64 0) := by rw [hA.xc]; rfl
  have j1 := frozen_block hA.x 1
  have hne1 := HNe.out.1
  have hne2 := HNe.out.2
  obtain ⟨wC2, hwC⟩ : ∃ wC, ((wA2.setCell ⟨ib, 0, none⟩ (.string t2)).setCell ⟨ib, 1, none⟩ (.int .i64 (e2 : Int))).setCell ⟨xb, 1, none⟩ (.int .i64 (x2 : Int)) = wC := ⟨_, rfl⟩
  rw [hwC] at hC
  have HS2 := Lib.hid hC
  have HT2 : Hid (t2.data.toList = ((l2, e2) : Sta).1 ∧ (t2.size : Int) ≤ 1000000) := Lib.hid ⟨htA, hzA⟩
  have HWC2 := Lib.hid hwC
  clear htA hzA hbA hA hC hwC q0 q1 HL2
  go_upto_region 7 with (fail)
  rw [HWC2.out]
  clear a0 a1 b0 b1 j0 j1 hne1 hne2
  obtain ⟨⟨⟨l3, e3⟩, x3⟩, hq3⟩ : ∃ q, atS (l2, e2) 1000 = q := ⟨_, rfl⟩
  have HQ3 : Hid (atS (l2, e2) 1000 = ((l3, e3), x3)) := Lib.hid hq3
  have hok3 : InOk (l3, e3) := by
    have h := atS_ok HOk2.out 1000
    (try simp only at h)
    rw [hq3] at h
    exact h
  have HOk3 := Lib.hid hok3
  have HL3 : Hid (Calls Try.prog 26 #[.agg #[.string t2, .int .i64 (e2 : Int)], .int .i64 1000] wC2 fun en w' => ∃ t' : ByteArray, en = .returned (.tuple #[.agg #[.string t', .int .i64 (e3 : Int)], .int .i64 (x3 : Int)]) ∧ t'.data.toList = l3 ∧ (t'.size : Int) ≤ 1000000 ∧ Below wC2.heap.size wC2 w') := Lib.hid (by
    have h := nlim_any t2 HT2.out.2 (l2, e2) HT2.out.1 HOk2.out 1000 (by decide) wC2
    rw [hq3] at h
    unfold LimPost at h
    exact h)
  clear hq3 hok3
  have q0 := HS2.out.i0
  have q1 := HS2.out.i1
  go_wp2_with fail
  refine HL3.out.mono ?_
  rintro e wA3 ⟨t3, rfl, htA, hzA, hbA⟩
  have hA := HS2.out.below hbA
  have hC := (hA.set t3 e3).cell 2 (.int .i64 (x3 : Int)) (cs' := #[.int .i64 (x1 : Int), .int .i64 (x2 : Int), .int .i64 (x3 : Int), .int .i64 0, .int .i64 0, .string ⟨#[]⟩, .slice none 0 0, .int .i64 0, .int .i64 0, .slice none 0 0]) rfl
  have a0 := hA.i0
  have a1 := hA.i1
  have b0 := frozen_block hA.i 0
  have b1 := frozen_block hA.i 1
  have j0 : wA3.cell? ⟨xb, 2, none⟩ = some (.int .i64 0) := by rw [hA.xc]; rfl
  have j1 := frozen_block hA.x 2
  have hne1 := HNe.out.1
  have hne2 := HNe.out.2
  obtain ⟨wC3, hwC⟩ : ∃ wC, ((wA3.setCell ⟨ib, 0, none⟩ (.string t3)).setCell ⟨ib, 1, none⟩ (.int .i64 (e3 : Int))).setCell ⟨xb, 2, none⟩ (.int .i64 (x3 : Int)) = wC := ⟨_, rfl⟩
  rw [hwC] at hC
  have HS3 := Lib.hid hC
  have HT3 : Hid (t3.data.toList = ((l3, e3) : Sta).1 ∧ (t3.size : Int) ≤ 1000000) := Lib.hid ⟨htA, hzA⟩
  have HWC3 := Lib.hid hwC
  clear htA hzA hbA hA hC hwC q0 q1 HL3
  go_upto_region 8 with (fail)
  rw [HWC3.out]
  clear a0 a1 b0 b1 j0 j1 hne1 hne2
  obtain ⟨⟨⟨l4, e4⟩, x4⟩, hq4⟩ : ∃ q, numS l3 e3 = q := ⟨_, rfl⟩
  have HQ4 : Hid (numS l3 e3 = ((l4, e4), x4)) := Lib.hid hq4
  have hok4 : InOk (l4, e4) := by
    have h := numS_ok HOk3.out
    (try simp only at h)
    rw [hq4] at h
    exact h
  have HOk4 := Lib.hid hok4
  have HL4 : Hid (Calls Try.prog 25 #[.agg #[.string t3, .int .i64 (e3 : Int)]] wC3 fun en w' => ∃ t' : ByteArray, en = .returned (.tuple #[.agg #[.string t', .int .i64 (e4 : Int)], .int .i64 (x4 : Int)]) ∧ t'.data.toList = l4 ∧ (t'.size : Int) ≤ 1000000 ∧ Below wC3.heap.size wC3 w') := Lib.hid (by
    have h := refread_any t3 HT3.out.2 e3 (fun h => by rw [HT3.out.1]; exact HOk3.out h) wC3
    rw [HT3.out.1] at h
    unfold inV at h
    (try simp only at h)
    rw [hq4] at h
    exact h)
  clear hq4 hok4
  have q0 := HS3.out.i0
  have q1 := HS3.out.i1
  go_wp2_with fail
  refine HL4.out.mono ?_
  rintro e wA4 ⟨t4, rfl, htA, hzA, hbA⟩
  have hA := HS3.out.below hbA
  have hC := (hA.set t4 e4).cell 3 (.int .i64 (x4 : Int)) (cs' := #[.int .i64 (x1 : Int), .int .i64 (x2 : Int), .int .i64 (x3 : Int), .int .i64 (x4 : Int), .int .i64 0, .string ⟨#[]⟩, .slice none 0 0, .int .i64 0, .int .i64 0, .slice none 0 0]) rfl
  have a0 := hA.i0
  have a1 := hA.i1
  have b0 := frozen_block hA.i 0
  have b1 := frozen_block hA.i 1
  have j0 : wA4.cell? ⟨xb, 3, none⟩ = some (.int .i64 0) := by rw [hA.xc]; rfl
  have j1 := frozen_block hA.x 3
  have hne1 := HNe.out.1
  have hne2 := HNe.out.2
  obtain ⟨wC4, hwC⟩ : ∃ wC, ((wA4.setCell ⟨ib, 0, none⟩ (.string t4)).setCell ⟨ib, 1, none⟩ (.int .i64 (e4 : Int))).setCell ⟨xb, 3, none⟩ (.int .i64 (x4 : Int)) = wC := ⟨_, rfl⟩
  rw [hwC] at hC
  have HS4 := Lib.hid hC
  have HT4 : Hid (t4.data.toList = ((l4, e4) : Sta).1 ∧ (t4.size : Int) ≤ 1000000) := Lib.hid ⟨htA, hzA⟩
  have HWC4 := Lib.hid hwC
  clear htA hzA hbA hA hC hwC q0 q1 HL4
  go_upto_region 9 with (fail)
  rw [HWC4.out]
  clear a0 a1 b0 b1 j0 j1 hne1 hne2
  obtain ⟨⟨⟨l5, e5⟩, x5⟩, hq5⟩ : ∃ q, numS l4 e4 = q := ⟨_, rfl⟩
  have HQ5 : Hid (numS l4 e4 = ((l5, e5), x5)) := Lib.hid hq5
  have hok5 : InOk (l5, e5) := by
    have h := numS_ok HOk4.out
    (try simp only at h)
    rw [hq5] at h
    exact h
  have HOk5 := Lib.hid hok5
  have HL5 : Hid (Calls Try.prog 25 #[.agg #[.string t4, .int .i64 (e4 : Int)]] wC4 fun en w' => ∃ t' : ByteArray, en = .returned (.tuple #[.agg #[.string t', .int .i64 (e5 : Int)], .int .i64 (x5 : Int)]) ∧ t'.data.toList = l5 ∧ (t'.size : Int) ≤ 1000000 ∧ Below wC4.heap.size wC4 w') := Lib.hid (by
    have h := refread_any t4 HT4.out.2 e4 (fun h => by rw [HT4.out.1]; exact HOk4.out h) wC4
    rw [HT4.out.1] at h
    unfold inV at h
    (try simp only at h)
    rw [hq5] at h
    exact h)
  clear hq5 hok5
  have q0 := HS4.out.i0
  have q1 := HS4.out.i1
  go_wp2_with fail
  refine HL5.out.mono ?_
  rintro e wA5 ⟨t5, rfl, htA, hzA, hbA⟩
  have hA := HS4.out.below hbA
  have hC := (hA.set t5 e5).cell 4 (.int .i64 (x5 : Int)) (cs' := #[.int .i64 (x1 : Int), .int .i64 (x2 : Int), .int .i64 (x3 : Int), .int .i64 (x4 : Int), .int .i64 (x5 : Int), .string ⟨#[]⟩, .slice none 0 0, .int .i64 0, .int .i64 0, .slice none 0 0]) rfl
  have a0 := hA.i0
  have a1 := hA.i1
  have b0 := frozen_block hA.i 0
  have b1 := frozen_block hA.i 1
  have j0 : wA5.cell? ⟨xb, 4, none⟩ = some (.int .i64 0) := by rw [hA.xc]; rfl
  have j1 := frozen_block hA.x 4
  have hne1 := HNe.out.1
  have hne2 := HNe.out.2
  obtain ⟨wC5, hwC⟩ : ∃ wC, ((wA5.setCell ⟨ib, 0, none⟩ (.string t5)).setCell ⟨ib, 1, none⟩ (.int .i64 (e5 : Int))).setCell ⟨xb, 4, none⟩ (.int .i64 (x5 : Int)) = wC := ⟨_, rfl⟩
  rw [hwC] at hC
  have HS5 := Lib.hid hC
  have HT5 : Hid (t5.data.toList = ((l5, e5) : Sta).1 ∧ (t5.size : Int) ≤ 1000000) := Lib.hid ⟨htA, hzA⟩
  have HWC5 := Lib.hid hwC
  clear htA hzA hbA hA hC hwC q0 q1 HL5
  go_upto_region 10 with (fail)
  rw [HWC5.out]
  clear a0 a1 b0 b1 j0 j1 hne1 hne2
  obtain ⟨⟨⟨l6, e6⟩, x6⟩, hq6⟩ : ∃ q, textS l5 e5 = q := ⟨_, rfl⟩
  have HQ6 : Hid (textS l5 e5 = ((l6, e6), x6)) := Lib.hid hq6
  have hok6 : InOk (l6, e6) := by
    have h := textS_ok HOk5.out
    (try simp only at h)
    rw [hq6] at h
    exact h
  have HOk6 := Lib.hid hok6
  have HL6 : Hid (Calls Try.prog 27 #[.agg #[.string t5, .int .i64 (e5 : Int)]] wC5 fun en w' => ∃ t' : ByteArray, en = .returned (.tuple #[.agg #[.string t', .int .i64 (e6 : Int)], .string ⟨x6.toArray⟩]) ∧ t'.data.toList = l6 ∧ (t'.size : Int) ≤ 1000000 ∧ Below wC5.heap.size wC5 w') := Lib.hid (by
    refine (nreftext_any t5 HT5.out.2 e5 (fun h => by rw [HT5.out.1]; exact HOk5.out h) wC5).mono ?_
    rintro en w' ⟨t1, t2, rfl, h1, h2, h3, h4⟩
    rw [HT5.out.1] at h1 h2
    (try simp only at h1 h2)
    rw [hq6] at h1 h2
    refine ⟨t1, ?_, h1, h3, h4⟩
    have e2 : t2 = ⟨x6.toArray⟩ := bytes_eqN (by rw [h2])
    rw [e2, HT5.out.1]
    unfold inV
    (try simp only)
    rw [hq6])
  clear hq6 hok6
  have q0 := HS5.out.i0
  have q1 := HS5.out.i1
  go_wp2_with fail
  refine HL6.out.mono ?_
  rintro e wA6 ⟨t6, rfl, htA, hzA, hbA⟩
  have hA := HS5.out.below hbA
  have hC := (hA.set t6 e6).cell 5 (.string ⟨x6.toArray⟩) (cs' := #[.int .i64 (x1 : Int), .int .i64 (x2 : Int), .int .i64 (x3 : Int), .int .i64 (x4 : Int), .int .i64 (x5 : Int), .string ⟨x6.toArray⟩, .slice none 0 0, .int .i64 0, .int .i64 0, .slice none 0 0]) rfl
  have a0 := hA.i0
  have a1 := hA.i1
  have b0 := frozen_block hA.i 0
  have b1 := frozen_block hA.i 1
  have j0 : wA6.cell? ⟨xb, 5, none⟩ = some (.string ⟨#[]⟩) := by rw [hA.xc]; rfl
  have j1 := frozen_block hA.x 5
  have hne1 := HNe.out.1
  have hne2 := HNe.out.2
  obtain ⟨wC6, hwC⟩ : ∃ wC, ((wA6.setCell ⟨ib, 0, none⟩ (.string t6)).setCell ⟨ib, 1, none⟩ (.int .i64 (e6 : Int))).setCell ⟨xb, 5, none⟩ (.string ⟨x6.toArray⟩) = wC := ⟨_, rfl⟩
  rw [hwC] at hC
  have HS6 := Lib.hid hC
  have HT6 : Hid (t6.data.toList = ((l6, e6) : Sta).1 ∧ (t6.size : Int) ≤ 1000000) := Lib.hid ⟨htA, hzA⟩
  have HWC6 := Lib.hid hwC
  clear htA hzA hbA hA hC hwC q0 q1 HL6
  go_upto_region 11 with (fail)
  rw [HWC6.out]
  clear a0 a1 b0 b1 j0 j1 hne1 hne2
  obtain ⟨⟨⟨l7, e7⟩, x7⟩, hq7⟩ : ∃ q, numS l6 e6 = q := ⟨_, rfl⟩
  have HQ7 : Hid (numS l6 e6 = ((l7, e7), x7)) := Lib.hid hq7
  have hok7 : InOk (l7, e7) := by
    have h := numS_ok HOk6.out
    (try simp only at h)
    rw [hq7] at h
    exact h
  have HOk7 := Lib.hid hok7
  have HL7 : Hid (Calls Try.prog 25 #[.agg #[.string t6, .int .i64 (e6 : Int)]] wC6 fun en w' => ∃ t' : ByteArray, en = .returned (.tuple #[.agg #[.string t', .int .i64 (e7 : Int)], .int .i64 (x7 : Int)]) ∧ t'.data.toList = l7 ∧ (t'.size : Int) ≤ 1000000 ∧ Below wC6.heap.size wC6 w') := Lib.hid (by
    have h := refread_any t6 HT6.out.2 e6 (fun h => by rw [HT6.out.1]; exact HOk6.out h) wC6
    rw [HT6.out.1] at h
    unfold inV at h
    (try simp only at h)
    rw [hq7] at h
    exact h)
  clear hq7 hok7
  have q0 := HS6.out.i0
  have q1 := HS6.out.i1
  go_wp2_with fail
  refine HL7.out.mono ?_
  rintro e wA7 ⟨t7, rfl, htA, hzA, hbA⟩
  have hA := HS6.out.below hbA
  have hC := (hA.set t7 e7).cell 7 (.int .i64 (x7 : Int)) (cs' := #[.int .i64 (x1 : Int), .int .i64 (x2 : Int), .int .i64 (x3 : Int), .int .i64 (x4 : Int), .int .i64 (x5 : Int), .string ⟨x6.toArray⟩, .slice none 0 0, .int .i64 (x7 : Int), .int .i64 0, .slice none 0 0]) rfl
  have a0 := hA.i0
  have a1 := hA.i1
  have b0 := frozen_block hA.i 0
  have b1 := frozen_block hA.i 1
  have j0 : wA7.cell? ⟨xb, 7, none⟩ = some (.int .i64 0) := by rw [hA.xc]; rfl
  have j1 := frozen_block hA.x 7
  have hne1 := HNe.out.1
  have hne2 := HNe.out.2
  obtain ⟨wC7, hwC⟩ : ∃ wC, ((wA7.setCell ⟨ib, 0, none⟩ (.string t7)).setCell ⟨ib, 1, none⟩ (.int .i64 (e7 : Int))).setCell ⟨xb, 7, none⟩ (.int .i64 (x7 : Int)) = wC := ⟨_, rfl⟩
  rw [hwC] at hC
  have HS7 := Lib.hid hC
  have HT7 : Hid (t7.data.toList = ((l7, e7) : Sta).1 ∧ (t7.size : Int) ≤ 1000000) := Lib.hid ⟨htA, hzA⟩
  have HWC7 := Lib.hid hwC
  clear htA hzA hbA hA hC hwC q0 q1 HL7
  go_upto_region 12 with (fail)
  rw [HWC7.out]
  clear a0 a1 b0 b1 j0 j1 hne1 hne2
  obtain ⟨⟨⟨l8, e8⟩, x8⟩, hq8⟩ : ∃ q, numS l7 e7 = q := ⟨_, rfl⟩
  have HQ8 : Hid (numS l7 e7 = ((l8, e8), x8)) := Lib.hid hq8
  have hok8 : InOk (l8, e8) := by
    have h := numS_ok HOk7.out
    (try simp only at h)
    rw [hq8] at h
    exact h
  have HOk8 := Lib.hid hok8
  have HL8 : Hid (Calls Try.prog 25 #[.agg #[.string t7, .int .i64 (e7 : Int)]] wC7 fun en w' => ∃ t' : ByteArray, en = .returned (.tuple #[.agg #[.string t', .int .i64 (e8 : Int)], .int .i64 (x8 : Int)]) ∧ t'.data.toList = l8 ∧ (t'.size : Int) ≤ 1000000 ∧ Below wC7.heap.size wC7 w') := Lib.hid (by
    have h := refread_any t7 HT7.out.2 e7 (fun h => by rw [HT7.out.1]; exact HOk7.out h) wC7
    rw [HT7.out.1] at h
    unfold inV at h
    (try simp only at h)
    rw [hq8] at h
    exact h)
  clear hq8 hok8
  have q0 := HS7.out.i0
  have q1 := HS7.out.i1
  go_wp2_with fail
  refine HL8.out.mono ?_
  rintro e wA8 ⟨t8, rfl, htA, hzA, hbA⟩
  have hA := HS7.out.below hbA
  have hC := (hA.set t8 e8).cell 8 (.int .i64 (x8 : Int)) (cs' := #[.int .i64 (x1 : Int), .int .i64 (x2 : Int), .int .i64 (x3 : Int), .int .i64 (x4 : Int), .int .i64 (x5 : Int), .string ⟨x6.toArray⟩, .slice none 0 0, .int .i64 (x7 : Int), .int .i64 (x8 : Int), .slice none 0 0]) rfl
  have a0 := hA.i0
  have a1 := hA.i1
  have b0 := frozen_block hA.i 0
  have b1 := frozen_block hA.i 1
  have j0 : wA8.cell? ⟨xb, 8, none⟩ = some (.int .i64 0) := by rw [hA.xc]; rfl
  have j1 := frozen_block hA.x 8
  have hne1 := HNe.out.1
  have hne2 := HNe.out.2
  obtain ⟨wC8, hwC⟩ : ∃ wC, ((wA8.setCell ⟨ib, 0, none⟩ (.string t8)).setCell ⟨ib, 1, none⟩ (.int .i64 (e8 : Int))).setCell ⟨xb, 8, none⟩ (.int .i64 (x8 : Int)) = wC := ⟨_, rfl⟩
  rw [hwC] at hC
  have HS8 := Lib.hid hC
  have HT8 : Hid (t8.data.toList = ((l8, e8) : Sta).1 ∧ (t8.size : Int) ≤ 1000000) := Lib.hid ⟨htA, hzA⟩
  have HWC8 := Lib.hid hwC
  clear htA hzA hbA hA hC hwC q0 q1 HL8
  go_upto_region 13 with (fail)
  rw [HWC8.out]
  clear a0 a1 b0 b1 j0 j1 hne1 hne2
  have hK : pK (l0, 0) = ((l1, e1), x1) := by rw [pK_def]; exact HQ1.out
  have hW : pW (l0, 0) = ((l2, e2), x2) := by rw [pW_def, hK]; exact HQ2.out
  have hH : pH (l0, 0) = ((l3, e3), x3) := by rw [pH_def, hW]; exact HQ3.out
  have hX : pX (l0, 0) = ((l4, e4), x4) := by rw [pX_def, hH]; exact HQ4.out
  have hY : pY (l0, 0) = ((l5, e5), x5) := by rw [pY_def, hX]; exact HQ5.out
  have hT : pT (l0, 0) = ((l6, e6), x6) := by rw [pT_def, hY]; exact HQ6.out
  have hN : pN (l0, 0) = ((l7, e7), x7) := by rw [pN_def, hT]; exact HQ7.out
  have hC : pC (l0, 0) = ((l8, e8), x8) := by rw [pC_def, hN]; exact HQ8.out
  have HPB : Hid (pB (l0, 0) = readS (l8, e8)) := Lib.hid (by rw [pB_def, hC])
  have HRd : Hid (∀ l9 e9 B, pB (l0, 0) = ((l9, e9), B) → (readN (l0, 0)).1 = (rowsS x2 x3 (l9, e9)).1 ∧ (readN (l0, 0)).2 = ⟨(x1 : Int), (x2 : Int), (x3 : Int), (x4 : Int), (x5 : Int), ⟨x6.toArray⟩, (rowsS x2 x3 (l9, e9)).2, (x7 : Int), (x8 : Int), B⟩) := Lib.hid (fun l9 e9 B h => by
    have hr : pR (l0, 0) = rowsS x2 x3 (l9, e9) := by rw [pR_def, h, hW, hH]
    refine ⟨by rw [readN_fst, hr], ?_⟩
    unfold readN
    simp only
    rw [hr, hK, hW, hH, hX, hY, hT, hN, hC, h])
  have HW2 : Hid (x2 ≤ 1000 ∧ x3 ≤ 1000) := Lib.hid (by
    have h1 := atS_le (l1, e1) 1000
    have h2 := atS_le (l2, e2) 1000
    rw [HQ2.out] at h1
    rw [HQ3.out] at h2
    exact ⟨h1, h2⟩)
  clear hK hW hH hX hY hT hN hC
  have hw2I : (x2 : Int) ≤ 1000 := by have := HW2.out; omega
  have hw3I : (x3 : Int) ≤ 1000 := by have := HW2.out; omega
  have HSb := Lib.hid (readN_b (l0, 0))
  have i1 := HS8.out.i1
  by_cases hE8 : e8 = 0
  rotate_left
  · have q : ((e8 : Int) == 0) = false := by rw [beq_eq_false_iff_ne]; omega
    obtain ⟨l9, e9, t9, B, wj, ya, yn, yc, hwj, hjb, hok9, hJ⟩ : ∃ (l9 : List UInt8) (e9 : Nat) (t9 : ByteArray) (B : List (Int × Int)) (wj : World) (ya : Option Addr) (yn yc : Nat), wC8 = wj ∧ pB (l0, 0) = ((l9, e9), B) ∧ InOk (l9, e9) ∧ PfL rb ib xb t9 (l9, e9) #[.int .i64 (x1 : Int), .int .i64 (x2 : Int), .int .i64 (x3 : Int), .int .i64 (x4 : Int), .int .i64 (x5 : Int), .string ⟨x6.toArray⟩, .slice none 0 0, .int .i64 (x7 : Int), .int .i64 (x8 : Int), .slice ya yn yc] (.slice none 0 0) (.slice ya yn yc) [] B w wj := ⟨l8, e8, t8, [], wC8, none, 0, 0, rfl, by rw [HPB.out, readS_stuck HOk8.out hE8], HOk8.out, HS8.out, HT8.out, Gath.nil _ _ _ _, OwnP.nil _ _ _ _⟩
    have HJB := Lib.hid hjb
    have HOk9 := Lib.hid hok9
    have HJ := Lib.hid hJ
    have HWj := Lib.hid hwj
    clear hjb hok9 hJ hwj hE8
    go_upto_region 15 with fail
    rw [HWj.out]
    clear i1 q
    go_wp2_with fail
    go_loopw [6] (fun i wr => ∃ j : Nat, i = .int .i64 (j : Int) ∧ j ≤ x3 ∧ Hid (∃ (t : ByteArray) (va : Option Addr) (vc : Nat), PfL rb ib xb t (rowsS x2 j (l9, e9)).1 #[.int .i64 (x1 : Int), .int .i64 (x2 : Int), .int .i64 (x3 : Int), .int .i64 (x4 : Int), .int .i64 (x5 : Int), .string ⟨x6.toArray⟩, .slice va j vc, .int .i64 (x7 : Int), .int .i64 (x8 : Int), .slice ya yn yc] (.slice va j vc) (.slice ya yn yc) (rowsS x2 j (l9, e9)).2 B w wr)) (fun i _ => x3 - (intOf i).toNat)
    case atStart => exact ⟨0, rfl, Nat.zero_le _, Lib.hid ⟨t9, none, 0, HJ.out⟩⟩
    case round =>
      obtain ⟨j, rfl, hj, HF0⟩ := hrel
      obtain ⟨t, va, vc, hF⟩ := HF0.out
      have hnx : rowsS x2 (j + 1) (l9, e9) = ((readR (rowsS x2 j (l9, e9)).1 x2).1, (rowsS x2 j (l9, e9)).2 ++ [(readR (rowsS x2 j (l9, e9)).1 x2).2]) := rfl
      have hok := rowsS_ok x2 j HOk9.out
      have hrl := rowsS_len x2 j (l9, e9)
      have hstk := rowsS_stuck x2 HOk9.out j x3 hj
      have hat : j = x3 → rowsS x2 x3 (l9, e9) = rowsS x2 j (l9, e9) := fun h => by rw [h]
      obtain ⟨⟨⟨lj, ej⟩, rs⟩, hrs⟩ : ∃ q, rowsS x2 j (l9, e9) = q := ⟨_, rfl⟩
      rw [hrs] at hF hnx hok hrl hstk hat
      simp only at hF hnx hok hrl hstk hat
      have HF := Lib.hid hF
      have HNx := Lib.hid hnx
      have HOkj := Lib.hid hok
      have HRl := Lib.hid hrl
      have HStk := Lib.hid hstk
      have HAt := Lib.hid hat
      clear hF hnx hok hrl hstk hat hrs HF0
      by_cases hlt : j < x3
      rotate_left
      · obtain rfl : j = x3 := by omega
        have hd : decide (j < j) = false := by simp
        have i1 := HF.out.p.i1
        have c2 : wr.cell? ⟨xb, 2, none⟩ = some (.int .i64 (j : Int)) := by rw [HF.out.p.xc]; rfl
        have HFin : Hid ((readN (l0, 0)).1 = (lj, ej)) := Lib.hid (by rw [(HRd.out l9 e9 B HJB.out).1, HAt.out rfl])
        have HRN : Hid ((readN (l0, 0)).2 = (⟨(x1 : Int), (x2 : Int), (j : Int), (x4 : Int), (x5 : Int), ⟨x6.toArray⟩, rs, (x7 : Int), (x8 : Int), B⟩ : Sn)) := Lib.hid (by rw [(HRd.out l9 e9 B HJB.out).2, HAt.out rfl])
        obtain ⟨vn, hvn⟩ : ∃ vn, vn = j := ⟨_, rfl⟩
        have HF2 : Hid (PfL rb ib xb t (lj, ej) #[.int .i64 (x1 : Int), .int .i64 (x2 : Int), .int .i64 (j : Int), .int .i64 (x4 : Int), .int .i64 (x5 : Int), .string ⟨x6.toArray⟩, .slice va vn vc, .int .i64 (x7 : Int), .int .i64 (x8 : Int), .slice ya yn yc] (.slice va vn vc) (.slice ya yn yc) rs B w wr) := Lib.hid (by rw [hvn]; exact HF.out)
        clear hvn HF
        simp only at i1
        go_upto_region 21 with fail
        clear c2 i1 hlt hd
        have i0 := HF2.out.p.i0
        have i1 := HF2.out.p.i1
        simp only at i0 i1
        obtain ⟨er, her⟩ : ∃ n, endS lj ej = n := ⟨_, rfl⟩
        have HE : Hid (Calls Try.prog 30 #[.agg #[.string t, .int .i64 (ej : Int)]] wr fun en w' => en = .returned (.int .i64 (er : Int)) ∧ Below wr.heap.size wr w') := Lib.hid (by
          have h := refend_any t ej wr
          rw [HF2.out.t.1] at h
          unfold inV at h
          (try simp only at h)
          rw [her] at h
          exact h)
        have HPr : Hid (parseS l0 = if er ≠ 0 then (emptyN, er) else if (readN (l0, 0)).2 = emptyN ∨ ¬ MayN (readN (l0, 0)).2 then (emptyN, 1) else ((readN (l0, 0)).2, 0)) := Lib.hid (by rw [HPs.out, HFin.out]; simp only; rw [her])
        have HEr := Lib.hid her
        clear her
        go_wp2_with fail
        refine HE.out.mono ?_
        rintro e wE ⟨rfl, hbE⟩
        have HFE := Lib.hid (HF2.out.below hbE)
        clear hbE i0 i1
        by_cases he : er ≠ 0
        · have q : ((er : Int) != 0) = true := by rw [bne_iff_ne]; omega
          have hO := HFE.out.p.o
          obtain ⟨d0, d1, d2, d3, d4, d5, d6, d7, d8, d9⟩ := ten_cells (s := emptyN) (ra := none) (rn := 0) (rc := 0) (ga := none) (gn := 0) (gc := 0) hO
          have f0 := frozen_block hO 0
          have f1 := frozen_block hO 1
          have f2 := frozen_block hO 2
          have f3 := frozen_block hO 3
          have f4 := frozen_block hO 4
          have f5 := frozen_block hO 5
          have f6 := frozen_block hO 6
          have f7 := frozen_block hO 7
          have f8 := frozen_block hO 8
          have f9 := frozen_block hO 9
          unfold emptyN at d0 d1 d2 d3 d4 d5 d7 d8
          simp only at d0 d1 d2 d3 d4 d5 d7 d8
          have hend : Hid (P (.returned (.tuple #[.agg #[.int .i64 0, .int .i64 0, .int .i64 0, .int .i64 0, .int .i64 0, .string ⟨#[]⟩, .slice none 0 0, .int .i64 0, .int .i64 0, .slice none 0 0], .int .i64 (er : Int)])) ((((((((((wE.setCell ⟨rb, 0, none⟩ (.int .i64 0)).setCell ⟨rb, 1, none⟩ (.int .i64 0)).setCell ⟨rb, 2, none⟩ (.int .i64 0)).setCell ⟨rb, 3, none⟩ (.int .i64 0)).setCell ⟨rb, 4, none⟩ (.int .i64 0)).setCell ⟨rb, 5, none⟩ (.string ⟨#[]⟩)).setCell ⟨rb, 6, none⟩ (.slice none 0 0)).setCell ⟨rb, 7, none⟩ (.int .i64 0)).setCell ⟨rb, 8, none⟩ (.int .i64 0)).setCell ⟨rb, 9, none⟩ (.slice none 0 0))) := Lib.hid (by
            rw [← HP.out]
            have hg : ∀ (u : World) (o : Nat) (x : Value), u.grownBy (u.setCell ⟨rb, o, none⟩ x) (some rb) := fun u o x => grown_set u rb o x
            have gg : wE.grownBy ((((((((((wE.setCell ⟨rb, 0, none⟩ (.int .i64 0)).setCell ⟨rb, 1, none⟩ (.int .i64 0)).setCell ⟨rb, 2, none⟩ (.int .i64 0)).setCell ⟨rb, 3, none⟩ (.int .i64 0)).setCell ⟨rb, 4, none⟩ (.int .i64 0)).setCell ⟨rb, 5, none⟩ (.string ⟨#[]⟩)).setCell ⟨rb, 6, none⟩ (.slice none 0 0)).setCell ⟨rb, 7, none⟩ (.int .i64 0)).setCell ⟨rb, 8, none⟩ (.int .i64 0)).setCell ⟨rb, 9, none⟩ (.slice none 0 0)) (some rb) := grown_trans (grown_trans (grown_trans (grown_trans (grown_trans (grown_trans (grown_trans (grown_trans (grown_trans (hg wE 0 _) (hg _ 1 _)) (hg _ 2 _)) (hg _ 3 _)) (hg _ 4 _)) (hg _ 5 _)) (hg _ 6 _)) (hg _ 7 _)) (hg _ 8 _)) (hg _ 9 _)
            have hb : Below rb wE _ := (Below.refl rb wE).grown gg (by have := (Array.getElem?_eq_some_iff.1 hO).1; omega) (fun q e => by have := Option.some.inj e; omega)
            have hx := (show parseS l0 = (emptyN, er) by rw [HPr.out, if_pos he])
            refine ⟨none, 0, 0, none, 0, 0, ?_, ?_, ?_⟩
            · rw [hx]; rfl
            · rw [hx]
              exact ⟨⟨⟨[], ⟨rfl, Nat.le_refl _, by decide, .inl rfl⟩, RowsV.nil _ _, fun u hu => by cases hu⟩, fun _ => rfl, fun h => absurd rfl h⟩, ⟨rfl, Nat.le_refl _, by decide, .inl rfl⟩, fun _ => rfl⟩
            · rw [HRb.out]; exact HFE.out.p.b.trans hb)
          clear hO
          clear he
          go_wp2_with fail
          refine bodyPost_ret (v := .tuple #[.agg #[.int .i64 0, .int .i64 0, .int .i64 0, .int .i64 0, .int .i64 0, .string ⟨#[]⟩, .slice none 0 0, .int .i64 0, .int .i64 0, .slice none 0 0], .int .i64 (er : Int)]) (by rw [results_cell_tmp rfl]; go_simp) rfl ?_
          exact hend.out
        have q : ((er : Int) != 0) = false := by rw [bne_eq_false_iff_eq]; omega
        have HPr2 : Hid (parseS l0 = if (readN (l0, 0)).2 = emptyN ∨ ¬ MayN (readN (l0, 0)).2 then (emptyN, 1) else ((readN (l0, 0)).2, 0)) := Lib.hid (by rw [HPr.out, if_neg he])
        have hRN := HRN.out
        have hSb := HSb.out
        rw [hRN] at HPr2 hSb
        have hSI := HFE.out.snIn (s := (⟨(x1 : Int), (x2 : Int), (j : Int), (x4 : Int), (x5 : Int), ⟨x6.toArray⟩, rs, (x7 : Int), (x8 : Int), B⟩ : Sn))
        have hrl := hSI.rows.len
        have hgl := hSI.beg.len
        have hr1 := hSb.rows
        have hg1 := hSb.beg
        have HKE := Lib.hid (nrfempty_any (⟨(x1 : Int), (x2 : Int), (j : Int), (x4 : Int), (x5 : Int), ⟨x6.toArray⟩, rs, (x7 : Int), (x8 : Int), B⟩ : Sn) va vn vc ya yn yc wE hrl hgl (by simp only at hrl hr1; omega) (by simp only at hgl hg1; omega))
        have HKM : Hid (∀ v, Below wE.heap.size wE v → Calls Try.prog 14 #[.agg (snA (⟨(x1 : Int), (x2 : Int), (j : Int), (x4 : Int), (x5 : Int), ⟨x6.toArray⟩, rs, (x7 : Int), (x8 : Int), B⟩ : Sn) va vn vc ya yn yc)] v fun e w' => e = .returned (.bool (decide (MayN (⟨(x1 : Int), (x2 : Int), (j : Int), (x4 : Int), (x5 : Int), ⟨x6.toArray⟩, rs, (x7 : Int), (x8 : Int), B⟩ : Sn)))) ∧ Below v.heap.size v w') := Lib.hid (fun v hb => nrfmay_any _ va vn vc ya yn yc v (hSI.belowAll hb) hSb)
        clear hRN hSb hSI hrl hgl hr1 hg1 he
        obtain ⟨D1, hD1⟩ : ∃ D, decide ((⟨(x1 : Int), (x2 : Int), (j : Int), (x4 : Int), (x5 : Int), ⟨x6.toArray⟩, rs, (x7 : Int), (x8 : Int), B⟩ : Sn) = emptyN) = D := ⟨_, rfl⟩
        obtain ⟨D2, hD2⟩ : ∃ D, decide (MayN (⟨(x1 : Int), (x2 : Int), (j : Int), (x4 : Int), (x5 : Int), ⟨x6.toArray⟩, rs, (x7 : Int), (x8 : Int), B⟩ : Sn)) = D := ⟨_, rfl⟩
        rw [hD1] at HKE
        rw [hD2] at HKM
        have HD1 := Lib.hid hD1
        have HD2 := Lib.hid hD2
        clear hD1 hD2
        unfold snA at HKE HKM
        simp only at HKE HKM
        have c0 : wE.cell? ⟨xb, 0, none⟩ = some (.int .i64 (x1 : Int)) := by rw [HFE.out.p.xc]; rfl
        have c1 : wE.cell? ⟨xb, 1, none⟩ = some (.int .i64 (x2 : Int)) := by rw [HFE.out.p.xc]; rfl
        have c2 : wE.cell? ⟨xb, 2, none⟩ = some (.int .i64 (j : Int)) := by rw [HFE.out.p.xc]; rfl
        have c3 : wE.cell? ⟨xb, 3, none⟩ = some (.int .i64 (x4 : Int)) := by rw [HFE.out.p.xc]; rfl
        have c4 : wE.cell? ⟨xb, 4, none⟩ = some (.int .i64 (x5 : Int)) := by rw [HFE.out.p.xc]; rfl
        have c5 : wE.cell? ⟨xb, 5, none⟩ = some (.string ⟨x6.toArray⟩) := by rw [HFE.out.p.xc]; rfl
        have c6 : wE.cell? ⟨xb, 6, none⟩ = some (.slice va vn vc) := by rw [HFE.out.p.xc]; rfl
        have c7 : wE.cell? ⟨xb, 7, none⟩ = some (.int .i64 (x7 : Int)) := by rw [HFE.out.p.xc]; rfl
        have c8 : wE.cell? ⟨xb, 8, none⟩ = some (.int .i64 (x8 : Int)) := by rw [HFE.out.p.xc]; rfl
        have c9 : wE.cell? ⟨xb, 9, none⟩ = some (.slice ya yn yc) := by rw [HFE.out.p.xc]; rfl
        go_wp2_with fail
        refine HKE.out.mono ?_
        rintro e wF ⟨rfl, hbF⟩
        have HFF := Lib.hid (HFE.out.below hbF)
        have HKM2 := Lib.hid (HKM.out wF hbF)
        clear hbF c0 c1 c2 c3 c4 c5 c6 c7 c8 c9
        cases D1
        rotate_left
        · have hx := of_decide_eq_true HD1.out
          have HNo : Hid (parseS l0 = (emptyN, 1)) := Lib.hid (by rw [HPr2.out, if_pos (.inl hx)])
          clear hx
          have hO := HFF.out.p.o
          obtain ⟨d0, d1, d2, d3, d4, d5, d6, d7, d8, d9⟩ := ten_cells (s := emptyN) (ra := none) (rn := 0) (rc := 0) (ga := none) (gn := 0) (gc := 0) hO
          have f0 := frozen_block hO 0
          have f1 := frozen_block hO 1
          have f2 := frozen_block hO 2
          have f3 := frozen_block hO 3
          have f4 := frozen_block hO 4
          have f5 := frozen_block hO 5
          have f6 := frozen_block hO 6
          have f7 := frozen_block hO 7
          have f8 := frozen_block hO 8
          have f9 := frozen_block hO 9
          unfold emptyN at d0 d1 d2 d3 d4 d5 d7 d8
          simp only at d0 d1 d2 d3 d4 d5 d7 d8
          have hend : Hid (P (.returned (.tuple #[.agg #[.int .i64 0, .int .i64 0, .int .i64 0, .int .i64 0, .int .i64 0, .string ⟨#[]⟩, .slice none 0 0, .int .i64 0, .int .i64 0, .slice none 0 0], .int .i64 1])) ((((((((((wF.setCell ⟨rb, 0, none⟩ (.int .i64 0)).setCell ⟨rb, 1, none⟩ (.int .i64 0)).setCell ⟨rb, 2, none⟩ (.int .i64 0)).setCell ⟨rb, 3, none⟩ (.int .i64 0)).setCell ⟨rb, 4, none⟩ (.int .i64 0)).setCell ⟨rb, 5, none⟩ (.string ⟨#[]⟩)).setCell ⟨rb, 6, none⟩ (.slice none 0 0)).setCell ⟨rb, 7, none⟩ (.int .i64 0)).setCell ⟨rb, 8, none⟩ (.int .i64 0)).setCell ⟨rb, 9, none⟩ (.slice none 0 0))) := Lib.hid (by
            rw [← HP.out]
            have hg : ∀ (u : World) (o : Nat) (x : Value), u.grownBy (u.setCell ⟨rb, o, none⟩ x) (some rb) := fun u o x => grown_set u rb o x
            have gg : wF.grownBy ((((((((((wF.setCell ⟨rb, 0, none⟩ (.int .i64 0)).setCell ⟨rb, 1, none⟩ (.int .i64 0)).setCell ⟨rb, 2, none⟩ (.int .i64 0)).setCell ⟨rb, 3, none⟩ (.int .i64 0)).setCell ⟨rb, 4, none⟩ (.int .i64 0)).setCell ⟨rb, 5, none⟩ (.string ⟨#[]⟩)).setCell ⟨rb, 6, none⟩ (.slice none 0 0)).setCell ⟨rb, 7, none⟩ (.int .i64 0)).setCell ⟨rb, 8, none⟩ (.int .i64 0)).setCell ⟨rb, 9, none⟩ (.slice none 0 0)) (some rb) := grown_trans (grown_trans (grown_trans (grown_trans (grown_trans (grown_trans (grown_trans (grown_trans (grown_trans (hg wF 0 _) (hg _ 1 _)) (hg _ 2 _)) (hg _ 3 _)) (hg _ 4 _)) (hg _ 5 _)) (hg _ 6 _)) (hg _ 7 _)) (hg _ 8 _)) (hg _ 9 _)
            have hb : Below rb wF _ := (Below.refl rb wF).grown gg (by have := (Array.getElem?_eq_some_iff.1 hO).1; omega) (fun q e => by have := Option.some.inj e; omega)
            have hx := HNo.out
            refine ⟨none, 0, 0, none, 0, 0, ?_, ?_, ?_⟩
            · rw [hx]; rfl
            · rw [hx]
              exact ⟨⟨⟨[], ⟨rfl, Nat.le_refl _, by decide, .inl rfl⟩, RowsV.nil _ _, fun u hu => by cases hu⟩, fun _ => rfl, fun h => absurd rfl h⟩, ⟨rfl, Nat.le_refl _, by decide, .inl rfl⟩, fun _ => rfl⟩
            · rw [HRb.out]; exact HFF.out.p.b.trans hb)
          clear hO
          go_wp2_with fail
          refine bodyPost_ret (v := .tuple #[.agg #[.int .i64 0, .int .i64 0, .int .i64 0, .int .i64 0, .int .i64 0, .string ⟨#[]⟩, .slice none 0 0, .int .i64 0, .int .i64 0, .slice none 0 0], .int .i64 1]) (by rw [results_cell_tmp rfl]; go_simp) rfl ?_
          exact hend.out
        have HX0 := Lib.hid (of_decide_eq_false HD1.out)
        have c0 : wF.cell? ⟨xb, 0, none⟩ = some (.int .i64 (x1 : Int)) := by rw [HFF.out.p.xc]; rfl
        have c1 : wF.cell? ⟨xb, 1, none⟩ = some (.int .i64 (x2 : Int)) := by rw [HFF.out.p.xc]; rfl
        have c2 : wF.cell? ⟨xb, 2, none⟩ = some (.int .i64 (j : Int)) := by rw [HFF.out.p.xc]; rfl
        have c3 : wF.cell? ⟨xb, 3, none⟩ = some (.int .i64 (x4 : Int)) := by rw [HFF.out.p.xc]; rfl
        have c4 : wF.cell? ⟨xb, 4, none⟩ = some (.int .i64 (x5 : Int)) := by rw [HFF.out.p.xc]; rfl
        have c5 : wF.cell? ⟨xb, 5, none⟩ = some (.string ⟨x6.toArray⟩) := by rw [HFF.out.p.xc]; rfl
        have c6 : wF.cell? ⟨xb, 6, none⟩ = some (.slice va vn vc) := by rw [HFF.out.p.xc]; rfl
        have c7 : wF.cell? ⟨xb, 7, none⟩ = some (.int .i64 (x7 : Int)) := by rw [HFF.out.p.xc]; rfl
        have c8 : wF.cell? ⟨xb, 8, none⟩ = some (.int .i64 (x8 : Int)) := by rw [HFF.out.p.xc]; rfl
        have c9 : wF.cell? ⟨xb, 9, none⟩ = some (.slice ya yn yc) := by rw [HFF.out.p.xc]; rfl
        go_wp2_with fail
        refine HKM2.out.mono ?_
        rintro e wG ⟨rfl, hbG⟩
        have HFG := Lib.hid (HFF.out.below hbG)
        clear hbG c0 c1 c2 c3 c4 c5 c6 c7 c8 c9
        cases D2
        · have hx := of_decide_eq_false HD2.out
          have HNo : Hid (parseS l0 = (emptyN, 1)) := Lib.hid (by rw [HPr2.out, if_pos (.inr hx)])
          clear hx
          have hO := HFG.out.p.o
          obtain ⟨d0, d1, d2, d3, d4, d5, d6, d7, d8, d9⟩ := ten_cells (s := emptyN) (ra := none) (rn := 0) (rc := 0) (ga := none) (gn := 0) (gc := 0) hO
          have f0 := frozen_block hO 0
          have f1 := frozen_block hO 1
          have f2 := frozen_block hO 2
          have f3 := frozen_block hO 3
          have f4 := frozen_block hO 4
          have f5 := frozen_block hO 5
          have f6 := frozen_block hO 6
          have f7 := frozen_block hO 7
          have f8 := frozen_block hO 8
          have f9 := frozen_block hO 9
          unfold emptyN at d0 d1 d2 d3 d4 d5 d7 d8
          simp only at d0 d1 d2 d3 d4 d5 d7 d8
          have hend : Hid (P (.returned (.tuple #[.agg #[.int .i64 0, .int .i64 0, .int .i64 0, .int .i64 0, .int .i64 0, .string ⟨#[]⟩, .slice none 0 0, .int .i64 0, .int .i64 0, .slice none 0 0], .int .i64 1])) ((((((((((wG.setCell ⟨rb, 0, none⟩ (.int .i64 0)).setCell ⟨rb, 1, none⟩ (.int .i64 0)).setCell ⟨rb, 2, none⟩ (.int .i64 0)).setCell ⟨rb, 3, none⟩ (.int .i64 0)).setCell ⟨rb, 4, none⟩ (.int .i64 0)).setCell ⟨rb, 5, none⟩ (.string ⟨#[]⟩)).setCell ⟨rb, 6, none⟩ (.slice none 0 0)).setCell ⟨rb, 7, none⟩ (.int .i64 0)).setCell ⟨rb, 8, none⟩ (.int .i64 0)).setCell ⟨rb, 9, none⟩ (.slice none 0 0))) := Lib.hid (by
            rw [← HP.out]
            have hg : ∀ (u : World) (o : Nat) (x : Value), u.grownBy (u.setCell ⟨rb, o, none⟩ x) (some rb) := fun u o x => grown_set u rb o x
            have gg : wG.grownBy ((((((((((wG.setCell ⟨rb, 0, none⟩ (.int .i64 0)).setCell ⟨rb, 1, none⟩ (.int .i64 0)).setCell ⟨rb, 2, none⟩ (.int .i64 0)).setCell ⟨rb, 3, none⟩ (.int .i64 0)).setCell ⟨rb, 4, none⟩ (.int .i64 0)).setCell ⟨rb, 5, none⟩ (.string ⟨#[]⟩)).setCell ⟨rb, 6, none⟩ (.slice none 0 0)).setCell ⟨rb, 7, none⟩ (.int .i64 0)).setCell ⟨rb, 8, none⟩ (.int .i64 0)).setCell ⟨rb, 9, none⟩ (.slice none 0 0)) (some rb) := grown_trans (grown_trans (grown_trans (grown_trans (grown_trans (grown_trans (grown_trans (grown_trans (grown_trans (hg wG 0 _) (hg _ 1 _)) (hg _ 2 _)) (hg _ 3 _)) (hg _ 4 _)) (hg _ 5 _)) (hg _ 6 _)) (hg _ 7 _)) (hg _ 8 _)) (hg _ 9 _)
            have hb : Below rb wG _ := (Below.refl rb wG).grown gg (by have := (Array.getElem?_eq_some_iff.1 hO).1; omega) (fun q e => by have := Option.some.inj e; omega)
            have hx := HNo.out
            refine ⟨none, 0, 0, none, 0, 0, ?_, ?_, ?_⟩
            · rw [hx]; rfl
            · rw [hx]
              exact ⟨⟨⟨[], ⟨rfl, Nat.le_refl _, by decide, .inl rfl⟩, RowsV.nil _ _, fun u hu => by cases hu⟩, fun _ => rfl, fun h => absurd rfl h⟩, ⟨rfl, Nat.le_refl _, by decide, .inl rfl⟩, fun _ => rfl⟩
            · rw [HRb.out]; exact HFG.out.p.b.trans hb)
          clear hO
          go_wp2_with fail
          refine bodyPost_ret (v := .tuple #[.agg #[.int .i64 0, .int .i64 0, .int .i64 0, .int .i64 0, .int .i64 0, .string ⟨#[]⟩, .slice none 0 0, .int .i64 0, .int .i64 0, .slice none 0 0], .int .i64 1]) (by rw [results_cell_tmp rfl]; go_simp) rfl ?_
          exact hend.out
        have hx := of_decide_eq_true HD2.out
        have HYes : Hid (parseS l0 = ((⟨(x1 : Int), (x2 : Int), (j : Int), (x4 : Int), (x5 : Int), ⟨x6.toArray⟩, rs, (x7 : Int), (x8 : Int), B⟩ : Sn), 0)) := Lib.hid (by rw [HPr2.out, if_neg (by intro h; rcases h with h | h; exact HX0.out h; exact h hx)])
        clear hx
        have c0 : wG.cell? ⟨xb, 0, none⟩ = some (.int .i64 (x1 : Int)) := by rw [HFG.out.p.xc]; rfl
        have c1 : wG.cell? ⟨xb, 1, none⟩ = some (.int .i64 (x2 : Int)) := by rw [HFG.out.p.xc]; rfl
        have c2 : wG.cell? ⟨xb, 2, none⟩ = some (.int .i64 (j : Int)) := by rw [HFG.out.p.xc]; rfl
        have c3 : wG.cell? ⟨xb, 3, none⟩ = some (.int .i64 (x4 : Int)) := by rw [HFG.out.p.xc]; rfl
        have c4 : wG.cell? ⟨xb, 4, none⟩ = some (.int .i64 (x5 : Int)) := by rw [HFG.out.p.xc]; rfl
        have c5 : wG.cell? ⟨xb, 5, none⟩ = some (.string ⟨x6.toArray⟩) := by rw [HFG.out.p.xc]; rfl
        have c6 : wG.cell? ⟨xb, 6, none⟩ = some (.slice va vn vc) := by rw [HFG.out.p.xc]; rfl
        have c7 : wG.cell? ⟨xb, 7, none⟩ = some (.int .i64 (x7 : Int)) := by rw [HFG.out.p.xc]; rfl
        have c8 : wG.cell? ⟨xb, 8, none⟩ = some (.int .i64 (x8 : Int)) := by rw [HFG.out.p.xc]; rfl
        have c9 : wG.cell? ⟨xb, 9, none⟩ = some (.slice ya yn yc) := by rw [HFG.out.p.xc]; rfl
        have hO := HFG.out.p.o
        obtain ⟨d0, d1, d2, d3, d4, d5, d6, d7, d8, d9⟩ := ten_cells (s := emptyN) (ra := none) (rn := 0) (rc := 0) (ga := none) (gn := 0) (gc := 0) hO
        have f0 := frozen_block hO 0
        have f1 := frozen_block hO 1
        have f2 := frozen_block hO 2
        have f3 := frozen_block hO 3
        have f4 := frozen_block hO 4
        have f5 := frozen_block hO 5
        have f6 := frozen_block hO 6
        have f7 := frozen_block hO 7
        have f8 := frozen_block hO 8
        have f9 := frozen_block hO 9
        unfold emptyN at d0 d1 d2 d3 d4 d5 d7 d8
        simp only at d0 d1 d2 d3 d4 d5 d7 d8
        have hend : Hid (P (.returned (.tuple #[.agg #[.int .i64 (x1 : Int), .int .i64 (x2 : Int), .int .i64 (j : Int), .int .i64 (x4 : Int), .int .i64 (x5 : Int), .string ⟨x6.toArray⟩, .slice va vn vc, .int .i64 (x7 : Int), .int .i64 (x8 : Int), .slice ya yn yc], .int .i64 0])) ((((((((((wG.setCell ⟨rb, 0, none⟩ (.int .i64 (x1 : Int))).setCell ⟨rb, 1, none⟩ (.int .i64 (x2 : Int))).setCell ⟨rb, 2, none⟩ (.int .i64 (j : Int))).setCell ⟨rb, 3, none⟩ (.int .i64 (x4 : Int))).setCell ⟨rb, 4, none⟩ (.int .i64 (x5 : Int))).setCell ⟨rb, 5, none⟩ (.string ⟨x6.toArray⟩)).setCell ⟨rb, 6, none⟩ (.slice va vn vc)).setCell ⟨rb, 7, none⟩ (.int .i64 (x7 : Int))).setCell ⟨rb, 8, none⟩ (.int .i64 (x8 : Int))).setCell ⟨rb, 9, none⟩ (.slice ya yn yc))) := Lib.hid (by
          rw [← HP.out]
          have hg : ∀ (u : World) (o : Nat) (x : Value), u.grownBy (u.setCell ⟨rb, o, none⟩ x) (some rb) := fun u o x => grown_set u rb o x
          have gg : wG.grownBy ((((((((((wG.setCell ⟨rb, 0, none⟩ (.int .i64 (x1 : Int))).setCell ⟨rb, 1, none⟩ (.int .i64 (x2 : Int))).setCell ⟨rb, 2, none⟩ (.int .i64 (j : Int))).setCell ⟨rb, 3, none⟩ (.int .i64 (x4 : Int))).setCell ⟨rb, 4, none⟩ (.int .i64 (x5 : Int))).setCell ⟨rb, 5, none⟩ (.string ⟨x6.toArray⟩)).setCell ⟨rb, 6, none⟩ (.slice va vn vc)).setCell ⟨rb, 7, none⟩ (.int .i64 (x7 : Int))).setCell ⟨rb, 8, none⟩ (.int .i64 (x8 : Int))).setCell ⟨rb, 9, none⟩ (.slice ya yn yc)) (some rb) := grown_trans (grown_trans (grown_trans (grown_trans (grown_trans (grown_trans (grown_trans (grown_trans (grown_trans (hg wG 0 _) (hg _ 1 _)) (hg _ 2 _)) (hg _ 3 _)) (hg _ 4 _)) (hg _ 5 _)) (hg _ 6 _)) (hg _ 7 _)) (hg _ 8 _)) (hg _ 9 _)
          have hb : Below rb wG _ := (Below.refl rb wG).grown gg (by have := (Array.getElem?_eq_some_iff.1 hO).1; omega) (fun q e => by have := Option.some.inj e; omega)
          refine ⟨va, vn, vc, ya, yn, yc, by rw [HYes.out]; rfl, ?_, by rw [HRb.out]; exact HFG.out.p.b.trans hb⟩
          rw [HYes.out]
          exact HFG.out.out (s := (⟨(x1 : Int), (x2 : Int), (j : Int), (x4 : Int), (x5 : Int), ⟨x6.toArray⟩, rs, (x7 : Int), (x8 : Int), B⟩ : Sn)) (KeepB.of_grown gg))
        clear hO
        go_wp2_with fail
        refine bodyPost_ret (v := .tuple #[.agg #[.int .i64 (x1 : Int), .int .i64 (x2 : Int), .int .i64 (j : Int), .int .i64 (x4 : Int), .int .i64 (x5 : Int), .string ⟨x6.toArray⟩, .slice va vn vc, .int .i64 (x7 : Int), .int .i64 (x8 : Int), .slice ya yn yc], .int .i64 0]) (by rw [results_cell_tmp rfl]; go_simp) rfl ?_
        exact hend.out
      have hd : decide (j < x3) = true := decide_eq_true hlt
      have hjI : (j : Int) < x3 := by omega
      have i1 := HF.out.p.i1
      have c2 : wr.cell? ⟨xb, 2, none⟩ = some (.int .i64 (x3 : Int)) := by rw [HF.out.p.xc]; rfl
      simp only at i1
      by_cases hE : ej = 0
      rotate_left
      · have q2 : ((ej : Int) == 0) = false := by rw [beq_eq_false_iff_ne]; omega
        have HEj := Lib.hid hE
        have HFin : Hid ((readN (l0, 0)).1 = (lj, ej)) := Lib.hid (by rw [(HRd.out l9 e9 B HJB.out).1, HStk.out hE])
        clear hE
        go_upto_region 21 with fail
        clear c2 i1 hlt hd q2 hjI
        have i0 := HF.out.p.i0
        have i1 := HF.out.p.i1
        simp only at i0 i1
        obtain ⟨er, her⟩ : ∃ n, endS lj ej = n := ⟨_, rfl⟩
        have HE : Hid (Calls Try.prog 30 #[.agg #[.string t, .int .i64 (ej : Int)]] wr fun en w' => en = .returned (.int .i64 (er : Int)) ∧ Below wr.heap.size wr w') := Lib.hid (by
          have h := refend_any t ej wr
          rw [HF.out.t.1] at h
          unfold inV at h
          (try simp only at h)
          rw [her] at h
          exact h)
        have HPr : Hid (parseS l0 = if er ≠ 0 then (emptyN, er) else if (readN (l0, 0)).2 = emptyN ∨ ¬ MayN (readN (l0, 0)).2 then (emptyN, 1) else ((readN (l0, 0)).2, 0)) := Lib.hid (by rw [HPs.out, HFin.out]; simp only; rw [her])
        have HEr := Lib.hid her
        clear her
        go_wp2_with fail
        refine HE.out.mono ?_
        rintro e wE ⟨rfl, hbE⟩
        have HFE := Lib.hid (HF.out.below hbE)
        clear hbE i0 i1
        have he : er ≠ 0 := fun h => HEj.out (endS_zero (by rw [HEr.out]; exact h)).1
        have q : ((er : Int) != 0) = true := by rw [bne_iff_ne]; omega
        have hO := HFE.out.p.o
        obtain ⟨d0, d1, d2, d3, d4, d5, d6, d7, d8, d9⟩ := ten_cells (s := emptyN) (ra := none) (rn := 0) (rc := 0) (ga := none) (gn := 0) (gc := 0) hO
        have f0 := frozen_block hO 0
        have f1 := frozen_block hO 1
        have f2 := frozen_block hO 2
        have f3 := frozen_block hO 3
        have f4 := frozen_block hO 4
        have f5 := frozen_block hO 5
        have f6 := frozen_block hO 6
        have f7 := frozen_block hO 7
        have f8 := frozen_block hO 8
        have f9 := frozen_block hO 9
        unfold emptyN at d0 d1 d2 d3 d4 d5 d7 d8
        simp only at d0 d1 d2 d3 d4 d5 d7 d8
        have hend : Hid (P (.returned (.tuple #[.agg #[.int .i64 0, .int .i64 0, .int .i64 0, .int .i64 0, .int .i64 0, .string ⟨#[]⟩, .slice none 0 0, .int .i64 0, .int .i64 0, .slice none 0 0], .int .i64 (er : Int)])) ((((((((((wE.setCell ⟨rb, 0, none⟩ (.int .i64 0)).setCell ⟨rb, 1, none⟩ (.int .i64 0)).setCell ⟨rb, 2, none⟩ (.int .i64 0)).setCell ⟨rb, 3, none⟩ (.int .i64 0)).setCell ⟨rb, 4, none⟩ (.int .i64 0)).setCell ⟨rb, 5, none⟩ (.string ⟨#[]⟩)).setCell ⟨rb, 6, none⟩ (.slice none 0 0)).setCell ⟨rb, 7, none⟩ (.int .i64 0)).setCell ⟨rb, 8, none⟩ (.int .i64 0)).setCell ⟨rb, 9, none⟩ (.slice none 0 0))) := Lib.hid (by
          rw [← HP.out]
          have hg : ∀ (u : World) (o : Nat) (x : Value), u.grownBy (u.setCell ⟨rb, o, none⟩ x) (some rb) := fun u o x => grown_set u rb o x
          have gg : wE.grownBy ((((((((((wE.setCell ⟨rb, 0, none⟩ (.int .i64 0)).setCell ⟨rb, 1, none⟩ (.int .i64 0)).setCell ⟨rb, 2, none⟩ (.int .i64 0)).setCell ⟨rb, 3, none⟩ (.int .i64 0)).setCell ⟨rb, 4, none⟩ (.int .i64 0)).setCell ⟨rb, 5, none⟩ (.string ⟨#[]⟩)).setCell ⟨rb, 6, none⟩ (.slice none 0 0)).setCell ⟨rb, 7, none⟩ (.int .i64 0)).setCell ⟨rb, 8, none⟩ (.int .i64 0)).setCell ⟨rb, 9, none⟩ (.slice none 0 0)) (some rb) := grown_trans (grown_trans (grown_trans (grown_trans (grown_trans (grown_trans (grown_trans (grown_trans (grown_trans (hg wE 0 _) (hg _ 1 _)) (hg _ 2 _)) (hg _ 3 _)) (hg _ 4 _)) (hg _ 5 _)) (hg _ 6 _)) (hg _ 7 _)) (hg _ 8 _)) (hg _ 9 _)
          have hb : Below rb wE _ := (Below.refl rb wE).grown gg (by have := (Array.getElem?_eq_some_iff.1 hO).1; omega) (fun q e => by have := Option.some.inj e; omega)
          have hx := (show parseS l0 = (emptyN, er) by rw [HPr.out, if_pos he])
          refine ⟨none, 0, 0, none, 0, 0, ?_, ?_, ?_⟩
          · rw [hx]; rfl
          · rw [hx]
            exact ⟨⟨⟨[], ⟨rfl, Nat.le_refl _, by decide, .inl rfl⟩, RowsV.nil _ _, fun u hu => by cases hu⟩, fun _ => rfl, fun h => absurd rfl h⟩, ⟨rfl, Nat.le_refl _, by decide, .inl rfl⟩, fun _ => rfl⟩
          · rw [HRb.out]; exact HFE.out.p.b.trans hb)
        clear hO
        clear he
        go_wp2_with fail
        refine bodyPost_ret (v := .tuple #[.agg #[.int .i64 0, .int .i64 0, .int .i64 0, .int .i64 0, .int .i64 0, .string ⟨#[]⟩, .slice none 0 0, .int .i64 0, .int .i64 0, .slice none 0 0], .int .i64 (er : Int)]) (by rw [results_cell_tmp rfl]; go_simp) rfl ?_
        exact hend.out
      subst hE
      obtain ⟨rB, hrB⟩ : ∃ b, wr.heap.size = b := ⟨_, rfl⟩
      obtain ⟨wr1, hwr1⟩ : ∃ w1, wr.alloc (.cells #[.slice none 0 0, .bool false] 75) = w1 := ⟨_, rfl⟩
      have hbr1 : Below wr.heap.size wr wr1 := by rw [← hwr1]; exact (Below.refl _ _).alloc (Nat.le_refl _) _
      have HF1 := Lib.hid (HF.out.below hbr1)
      have hr1 := nrfrow_any t HF.out.t.2 (lj, 0) HF.out.t.1 HOkj.out (x2 : Int) (by omega) (by omega) wr1
      rw [Int.toNat_natCast] at hr1
      have hrl2 := readR_len (lj, 0) x2
      obtain ⟨⟨⟨lk, ek⟩, ⟨rl, rw0⟩⟩, hrk⟩ : ∃ q, readR (lj, 0) x2 = q := ⟨_, rfl⟩
      rw [hrk] at hr1 hrl2
      simp only at hr1 hrl2
      have HRk := Lib.hid hrk
      have HR1 : Hid (Calls Try.prog 29 #[.agg #[.string t, .int .i64 (0 : Int)], .int .i64 (x2 : Int)] wr1 (RfPost ((lk, ek), ⟨rl, rw0⟩) wr1)) := Lib.hid (by exact hr1)
      have HWr1 := Lib.hid hwr1
      have HRB := Lib.hid hrB
      clear hwr1 hrB hbr1 hr1 hrk
      go_upto_region 19 with fail
      rw [HWr1.out, HRB.out]
      clear c2 i1 hd
      have i0 := HF1.out.p.i0
      have i1 := HF1.out.p.i1
      have c1 : wr1.cell? ⟨xb, 1, none⟩ = some (.int .i64 (x2 : Int)) := by rw [HF1.out.p.xc]; rfl
      simp only at i0 i1
      go_wp2_with fail
      refine HR1.out.mono ?_
      rintro e wr2 ⟨tk, v2, rfl, htk, hzk, hok, hbk⟩
      obtain ⟨ka, kc, rfl, -⟩ := hok.shape
      simp only at htk hok ⊢
      obtain ⟨kn, hkn⟩ : ∃ n, rl.length = n := ⟨_, rfl⟩
      rw [hkn] at hok hrl2 ⊢
      have hf2 := HF1.out.below hbk
      have a0 := hf2.p.i0
      have a1 := hf2.p.i1
      have b0 := frozen_block hf2.p.i 0
      have b1 := frozen_block hf2.p.i 1
      have hrow2 : wr2.heap[rB]? = some (.cells #[.slice none 0 0, .bool false] 75 (0, 0)) := (hbk.block rB (by rw [← HRB.out, ← HWr1.out, World.size_alloc]; omega)).trans (by rw [← HRB.out, ← HWr1.out]; exact heap_alloc_new wr _)
      have r0 : wr2.cell? ⟨rB, 0, none⟩ = some (.slice none 0 0) := by rw [cell_block hrow2]; rfl
      have r1 : wr2.cell? ⟨rB, 1, none⟩ = some (.bool false) := by rw [cell_block hrow2]; rfl
      have s0 := frozen_block hrow2 0
      have s1 := frozen_block hrow2 1
      have hne1 : rB ≠ ib := by have := HF.out.p.size; have := HF.out.p.lt; have := HRB.out; omega
      have hne2 : ib ≠ rB := fun e => hne1 e.symm
      simp only at a0 a1
      have hrow := HF.out.row (w2 := wr2) (t' := tk) (st' := (lk, ek)) (by rw [HWr1.out]; exact hbk.mono (by rw [← HWr1.out, World.size_alloc]; omega)) ⟨htk, hzk⟩ (.slice ka kn kc) rw0
      rw [HRB.out] at hrow
      simp only at hrow
      obtain ⟨wr3, hwr3⟩ : ∃ w3, (((wr2.setCell ⟨ib, 0, none⟩ (.string tk)).setCell ⟨ib, 1, none⟩ (.int .i64 (ek : Int))).setCell ⟨rB, 0, none⟩ (.slice ka kn kc)).setCell ⟨rB, 1, none⟩ (.bool rw0) = w3 := ⟨_, rfl⟩
      rw [hwr3] at hrow
      have hfresh : ∀ b off, (⟨ka, kn, kc, rw0⟩ : Rv).a = some ⟨b, off, none⟩ → wr1.heap.size ≤ b := hok.from_
      have hsz1 : wr1.heap.size = rB + 1 := by rw [← HWr1.out, World.size_alloc, HRB.out]
      have hrv2 : RowV .i64 (Rv.val ⟨ka, kn, kc, rw0⟩) ⟨rl, rw0⟩ wr2 := by
        have h := hok.rowVk (r := ⟨rl, rw0⟩)
        exact h
      have hrv : RowV .i64 (Rv.val ⟨ka, kn, kc, rw0⟩) ⟨rl, rw0⟩ wr3 := hrv2.moved (by
        rw [← hwr3]
        simp only [World.size_setCell]
        exact Nat.le_refl _) (fun b off e hl => by
        have h1 := hfresh b off e
        have h2 := HF.out.p.size
        have h3 := HF.out.p.lt
        have h4 := HRB.out
        rw [← hwr3, Below.heap_setCell _ _ _ _ (by show b ≠ rB; omega), Below.heap_setCell _ _ _ _ (by show b ≠ rB; omega), Below.heap_setCell _ _ _ _ (by show b ≠ ib; omega), Below.heap_setCell _ _ _ _ (by show b ≠ ib; omega)])
      have HF3 := Lib.hid hrow.1
      have HRo3 := Lib.hid hrow.2
      have HRv3 := Lib.hid hrv
      have hap : Apart (.slice va j vc) ⟨ka, kn, kc, rw0⟩ := fun _ b off e e' => by
        have h1 := (HF.out.g.own b e').2.1
        have h2 := hfresh b off e
        have := HRB.out
        omega
      have hoff : Off [rb, ib, xb] ⟨ka, kn, kc, rw0⟩ := Off.fresh hfresh (fun p hp => by
        have := HF.out.p.size
        have := HF.out.p.lt
        have := HRB.out
        simp at hp
        omega)
      have HAp := Lib.hid hap
      have HOf := Lib.hid hoff
      have HWr3 := Lib.hid hwr3
      have HKn : Hid (kn ≤ 1000) := Lib.hid (by have := HW2.out; omega)
      clear htk hzk hok hbk hf2 hrow2 hrow hwr3 hrv hrv2 hfresh hsz1 hap hoff hkn hrl2 i0 i1 c1
      go_upto_region 20 with fail
      rw [HWr3.out]
      clear a0 a1 b0 b1 r0 r1 s0 s1 hne1 hne2
      have c6 : wr3.cell? ⟨xb, 6, none⟩ = some (.slice va j vc) := by rw [HF3.out.p.xc]; rfl
      have r0 := HRo3.out.c0
      have r1 := HRo3.out.c1
      have HRsl : Hid (rs.length ≤ 1000) := Lib.hid (by have := HRl.out; have := HW2.out; omega)
      have HFB := Lib.hid (HF3.out.below ((Below.refl _ _).alloc (Nat.le_refl _) (.cells #[.slice ka kn kc, .bool rw0] 75)))
      have HRvB := Lib.hid (HRv3.out.belowAll ((Below.refl _ _).alloc (Nat.le_refl _) (.cells #[.slice ka kn kc, .bool rw0] 75)))
      go_wp2_with (at_builtin; refine wpList_append_row refRowsT rfl _ _ rfl rfl [rb, ib, xb] (xb + 1) (.slice va j vc) rs wr3.heap.size ⟨ka, kn, kc, rw0⟩ ⟨rl, rw0⟩ rfl rfl HFB.out.g (RoB.new _ _ _ _) HRvB.out HOf.out HAp.out HRsl.out HFB.out.p.size ?_)
      intro v' wr5 hG5 hg5 hb5
      obtain ⟨a5, c5, rfl, -, -⟩ := hG5.shape
      have hlen : (rs ++ [(⟨rl, rw0⟩ : Ro)]).length = j + 1 := by rw [List.length_append, HRl.out]; rfl
      rw [hlen] at hG5 ⊢
      have hpx := HFB.out.p.more ((Below.refl _ _).grown hg5 HFB.out.p.size (fun q hq => (HFB.out.g.own q hq).1))
      have hN := HFB.out.push hG5 hg5 (cs' := #[.int .i64 (x1 : Int), .int .i64 (x2 : Int), .int .i64 (x3 : Int), .int .i64 (x4 : Int), .int .i64 (x5 : Int), .string ⟨x6.toArray⟩, .slice a5 (j + 1) c5, .int .i64 (x7 : Int), .int .i64 (x8 : Int), .slice ya yn yc]) rfl
      have c6' : wr5.cell? ⟨xb, 6, none⟩ = some (.slice va j vc) := by rw [hpx.xc]; rfl
      have f6 := frozen_block hpx.x 6
      have HN : Hid (∃ (t : ByteArray) (va : Option Addr) (vc : Nat), PfL rb ib xb t (rowsS x2 (j + 1) (l9, e9)).1 #[.int .i64 (x1 : Int), .int .i64 (x2 : Int), .int .i64 (x3 : Int), .int .i64 (x4 : Int), .int .i64 (x5 : Int), .string ⟨x6.toArray⟩, .slice va (j + 1) vc, .int .i64 (x7 : Int), .int .i64 (x8 : Int), .slice ya yn yc] (.slice va (j + 1) vc) (.slice ya yn yc) (rowsS x2 (j + 1) (l9, e9)).2 B w (wr5.setCell ⟨xb, 6, none⟩ (.slice a5 (j + 1) c5))) := Lib.hid ⟨tk, a5, c5, by
        rw [HNx.out, HRk.out]
        exact hN⟩
      clear hG5 hg5 hb5 hpx hN hlen c6 r0 r1
      go_wp2_with fail
      go_roundw
      case rel => exact ⟨j + 1, by go_num, by omega, HN⟩
      case measure => simp [intOf]; omega
  have q : ((e8 : Int) == 0) = true := by rw [hE8]; rfl
  obtain ⟨er8, her8⟩ : ∃ e : Nat, e = e8 := ⟨_, rfl⟩
  have hRB := refRead_any t8 HT8.out.2 wC8
  rw [HT8.out.1] at hRB
  (try simp only at hRB)
  have hpb : pB (l0, 0) = readS (l8, 0) := by rw [HPB.out, hE8]
  have hok9 : InOk (readS (l8, 0)).1 := readS_ok (fun h => absurd rfl h)
  obtain ⟨⟨⟨l9, e9⟩, B⟩, hq9⟩ : ∃ q, readS (l8, 0) = q := ⟨_, rfl⟩
  unfold RefRd at hRB
  rw [hq9] at hRB hpb hok9
  (try simp only at hRB)
  (try simp only at hok9)
  have HRB8 : Hid (Calls Try.prog 28 #[.agg #[.string t8, .int .i64 (e8 : Int)]] wC8 fun e w' => ∃ (t : ByteArray) (v : Value), e = .returned (.tuple #[.agg #[.string t, .int .i64 (e9 : Int)], v]) ∧ t.data.toList = l9 ∧ (t.size : Int) ≤ 1000000 ∧ OwnP .i64 93 wC8.heap.size v B w' ∧ Below wC8.heap.size wC8 w') := Lib.hid (by rw [hE8]; exact hRB)
  have HJB := Lib.hid hpb
  have HOk9 := Lib.hid hok9
  clear hRB hpb hok9 hq9 her8 hE8
  go_upto_region 14 with fail
  have i0 := HS8.out.i0
  go_wp2_with fail
  refine HRB8.out.mono ?_
  rintro e wA9 ⟨t9, v9, rfl, ht9, hz9, ho9, hb9⟩
  obtain ⟨ya, yc, rfl, -⟩ := ho9.shape
  obtain ⟨yn, hyn⟩ : ∃ n, B.length = n := ⟨_, rfl⟩
  rw [hyn] at ho9 ⊢
  have hA := HS8.out.below hb9
  have hC := (hA.set t9 e9).cell 9 (.slice ya yn yc) (cs' := #[.int .i64 (x1 : Int), .int .i64 (x2 : Int), .int .i64 (x3 : Int), .int .i64 (x4 : Int), .int .i64 (x5 : Int), .string ⟨x6.toArray⟩, .slice none 0 0, .int .i64 (x7 : Int), .int .i64 (x8 : Int), .slice ya yn yc]) rfl
  have a0 := hA.i0
  have a1 := hA.i1
  have b0 := frozen_block hA.i 0
  have b1 := frozen_block hA.i 1
  have j0 : wA9.cell? ⟨xb, 9, none⟩ = some (.slice none 0 0) := by rw [hA.xc]; rfl
  have j1 := frozen_block hA.x 9
  have hne1 := HNe.out.1
  have hne2 := HNe.out.2
  have hq9 : OwnP .i64 93 (xb + 1) (.slice ya yn yc) B (((wA9.setCell ⟨ib, 0, none⟩ (.string t9)).setCell ⟨ib, 1, none⟩ (.int .i64 (e9 : Int))).setCell ⟨xb, 9, none⟩ (.slice ya yn yc)) := by
    have h1 : OwnP .i64 93 (xb + 1) (.slice ya yn yc) B wA9 := ho9.weaken HS8.out.size
    have hl := HS8.out.lt
    exact ((h1.grown (grown_set wA9 ib 0 _) (by omega)).grown (grown_set _ ib 1 _) (by omega)).grown (grown_set _ xb 9 _) (by omega)
  obtain ⟨wj, hwj⟩ : ∃ wC, ((wA9.setCell ⟨ib, 0, none⟩ (.string t9)).setCell ⟨ib, 1, none⟩ (.int .i64 (e9 : Int))).setCell ⟨xb, 9, none⟩ (.slice ya yn yc) = wC := ⟨_, rfl⟩
  rw [hwj] at hC hq9
  have HJ : Hid (PfL rb ib xb t9 (l9, e9) #[.int .i64 (x1 : Int), .int .i64 (x2 : Int), .int .i64 (x3 : Int), .int .i64 (x4 : Int), .int .i64 (x5 : Int), .string ⟨x6.toArray⟩, .slice none 0 0, .int .i64 (x7 : Int), .int .i64 (x8 : Int), .slice ya yn yc] (.slice none 0 0) (.slice ya yn yc) [] B w wj) := Lib.hid ⟨hC, ⟨ht9, hz9⟩, Gath.nil _ _ _ _, hq9⟩
  have HWj := Lib.hid hwj
  clear ht9 hz9 ho9 hb9 hyn hA hC hq9 hwj i0 i1
  go_upto_region 15 with fail
  rw [HWj.out]
  clear a0 a1 b0 b1 j0 j1 hne1 hne2 q
  go_wp2_with fail
  go_loopw [6] (fun i wr => ∃ j : Nat, i = .int .i64 (j : Int) ∧ j ≤ x3 ∧ Hid (∃ (t : ByteArray) (va : Option Addr) (vc : Nat), PfL rb ib xb t (rowsS x2 j (l9, e9)).1 #[.int .i64 (x1 : Int), .int .i64 (x2 : Int), .int .i64 (x3 : Int), .int .i64 (x4 : Int), .int .i64 (x5 : Int), .string ⟨x6.toArray⟩, .slice va j vc, .int .i64 (x7 : Int), .int .i64 (x8 : Int), .slice ya yn yc] (.slice va j vc) (.slice ya yn yc) (rowsS x2 j (l9, e9)).2 B w wr)) (fun i _ => x3 - (intOf i).toNat)
  case atStart => exact ⟨0, rfl, Nat.zero_le _, Lib.hid ⟨t9, none, 0, HJ.out⟩⟩
  case round =>
    obtain ⟨j, rfl, hj, HF0⟩ := hrel
    obtain ⟨t, va, vc, hF⟩ := HF0.out
    have hnx : rowsS x2 (j + 1) (l9, e9) = ((readR (rowsS x2 j (l9, e9)).1 x2).1, (rowsS x2 j (l9, e9)).2 ++ [(readR (rowsS x2 j (l9, e9)).1 x2).2]) := rfl
    have hok := rowsS_ok x2 j HOk9.out
    have hrl := rowsS_len x2 j (l9, e9)
    have hstk := rowsS_stuck x2 HOk9.out j x3 hj
    have hat : j = x3 → rowsS x2 x3 (l9, e9) = rowsS x2 j (l9, e9) := fun h => by rw [h]
    obtain ⟨⟨⟨lj, ej⟩, rs⟩, hrs⟩ : ∃ q, rowsS x2 j (l9, e9) = q := ⟨_, rfl⟩
    rw [hrs] at hF hnx hok hrl hstk hat
    simp only at hF hnx hok hrl hstk hat
    have HF := Lib.hid hF
    have HNx := Lib.hid hnx
    have HOkj := Lib.hid hok
    have HRl := Lib.hid hrl
    have HStk := Lib.hid hstk
    have HAt := Lib.hid hat
    clear hF hnx hok hrl hstk hat hrs HF0
    by_cases hlt : j < x3
    rotate_left
    · obtain rfl : j = x3 := by omega
      have hd : decide (j < j) = false := by simp
      have i1 := HF.out.p.i1
      have c2 : wr.cell? ⟨xb, 2, none⟩ = some (.int .i64 (j : Int)) := by rw [HF.out.p.xc]; rfl
      have HFin : Hid ((readN (l0, 0)).1 = (lj, ej)) := Lib.hid (by rw [(HRd.out l9 e9 B HJB.out).1, HAt.out rfl])
      have HRN : Hid ((readN (l0, 0)).2 = (⟨(x1 : Int), (x2 : Int), (j : Int), (x4 : Int), (x5 : Int), ⟨x6.toArray⟩, rs, (x7 : Int), (x8 : Int), B⟩ : Sn)) := Lib.hid (by rw [(HRd.out l9 e9 B HJB.out).2, HAt.out rfl])
      obtain ⟨vn, hvn⟩ : ∃ vn, vn = j := ⟨_, rfl⟩
      have HF2 : Hid (PfL rb ib xb t (lj, ej) #[.int .i64 (x1 : Int), .int .i64 (x2 : Int), .int .i64 (j : Int), .int .i64 (x4 : Int), .int .i64 (x5 : Int), .string ⟨x6.toArray⟩, .slice va vn vc, .int .i64 (x7 : Int), .int .i64 (x8 : Int), .slice ya yn yc] (.slice va vn vc) (.slice ya yn yc) rs B w wr) := Lib.hid (by rw [hvn]; exact HF.out)
      clear hvn HF
      simp only at i1
      go_upto_region 21 with fail
      clear c2 i1 hlt hd
      have i0 := HF2.out.p.i0
      have i1 := HF2.out.p.i1
      simp only at i0 i1
      obtain ⟨er, her⟩ : ∃ n, endS lj ej = n := ⟨_, rfl⟩
      have HE : Hid (Calls Try.prog 30 #[.agg #[.string t, .int .i64 (ej : Int)]] wr fun en w' => en = .returned (.int .i64 (er : Int)) ∧ Below wr.heap.size wr w') := Lib.hid (by
        have h := refend_any t ej wr
        rw [HF2.out.t.1] at h
        unfold inV at h
        (try simp only at h)
        rw [her] at h
        exact h)
      have HPr : Hid (parseS l0 = if er ≠ 0 then (emptyN, er) else if (readN (l0, 0)).2 = emptyN ∨ ¬ MayN (readN (l0, 0)).2 then (emptyN, 1) else ((readN (l0, 0)).2, 0)) := Lib.hid (by rw [HPs.out, HFin.out]; simp only; rw [her])
      have HEr := Lib.hid her
      clear her
      go_wp2_with fail
      refine HE.out.mono ?_
      rintro e wE ⟨rfl, hbE⟩
      have HFE := Lib.hid (HF2.out.below hbE)
      clear hbE i0 i1
      by_cases he : er ≠ 0
      · have q : ((er : Int) != 0) = true := by rw [bne_iff_ne]; omega
        have hO := HFE.out.p.o
        obtain ⟨d0, d1, d2, d3, d4, d5, d6, d7, d8, d9⟩ := ten_cells (s := emptyN) (ra := none) (rn := 0) (rc := 0) (ga := none) (gn := 0) (gc := 0) hO
        have f0 := frozen_block hO 0
        have f1 := frozen_block hO 1
        have f2 := frozen_block hO 2
        have f3 := frozen_block hO 3
        have f4 := frozen_block hO 4
        have f5 := frozen_block hO 5
        have f6 := frozen_block hO 6
        have f7 := frozen_block hO 7
        have f8 := frozen_block hO 8
        have f9 := frozen_block hO 9
        unfold emptyN at d0 d1 d2 d3 d4 d5 d7 d8
        simp only at d0 d1 d2 d3 d4 d5 d7 d8
        have hend : Hid (P (.returned (.tuple #[.agg #[.int .i64 0, .int .i64 0, .int .i64 0, .int .i64 0, .int .i64 0, .string ⟨#[]⟩, .slice none 0 0, .int .i64 0, .int .i64 0, .slice none 0 0], .int .i64 (er : Int)])) ((((((((((wE.setCell ⟨rb, 0, none⟩ (.int .i64 0)).setCell ⟨rb, 1, none⟩ (.int .i64 0)).setCell ⟨rb, 2, none⟩ (.int .i64 0)).setCell ⟨rb, 3, none⟩ (.int .i64 0)).setCell ⟨rb, 4, none⟩ (.int .i64 0)).setCell ⟨rb, 5, none⟩ (.string ⟨#[]⟩)).setCell ⟨rb, 6, none⟩ (.slice none 0 0)).setCell ⟨rb, 7, none⟩ (.int .i64 0)).setCell ⟨rb, 8, none⟩ (.int .i64 0)).setCell ⟨rb, 9, none⟩ (.slice none 0 0))) := Lib.hid (by
          rw [← HP.out]
          have hg : ∀ (u : World) (o : Nat) (x : Value), u.grownBy (u.setCell ⟨rb, o, none⟩ x) (some rb) := fun u o x => grown_set u rb o x
          have gg : wE.grownBy ((((((((((wE.setCell ⟨rb, 0, none⟩ (.int .i64 0)).setCell ⟨rb, 1, none⟩ (.int .i64 0)).setCell ⟨rb, 2, none⟩ (.int .i64 0)).setCell ⟨rb, 3, none⟩ (.int .i64 0)).setCell ⟨rb, 4, none⟩ (.int .i64 0)).setCell ⟨rb, 5, none⟩ (.string ⟨#[]⟩)).setCell ⟨rb, 6, none⟩ (.slice none 0 0)).setCell ⟨rb, 7, none⟩ (.int .i64 0)).setCell ⟨rb, 8, none⟩ (.int .i64 0)).setCell ⟨rb, 9, none⟩ (.slice none 0 0)) (some rb) := grown_trans (grown_trans (grown_trans (grown_trans (grown_trans (grown_trans (grown_trans (grown_trans (grown_trans (hg wE 0 _) (hg _ 1 _)) (hg _ 2 _)) (hg _ 3 _)) (hg _ 4 _)) (hg _ 5 _)) (hg _ 6 _)) (hg _ 7 _)) (hg _ 8 _)) (hg _ 9 _)
          have hb : Below rb wE _ := (Below.refl rb wE).grown gg (by have := (Array.getElem?_eq_some_iff.1 hO).1; omega) (fun q e => by have := Option.some.inj e; omega)
          have hx := (show parseS l0 = (emptyN, er) by rw [HPr.out, if_pos he])
          refine ⟨none, 0, 0, none, 0, 0, ?_, ?_, ?_⟩
          · rw [hx]; rfl
          · rw [hx]
            exact ⟨⟨⟨[], ⟨rfl, Nat.le_refl _, by decide, .inl rfl⟩, RowsV.nil _ _, fun u hu => by cases hu⟩, fun _ => rfl, fun h => absurd rfl h⟩, ⟨rfl, Nat.le_refl _, by decide, .inl rfl⟩, fun _ => rfl⟩
          · rw [HRb.out]; exact HFE.out.p.b.trans hb)
        clear hO
        clear he
        go_wp2_with fail
        refine bodyPost_ret (v := .tuple #[.agg #[.int .i64 0, .int .i64 0, .int .i64 0, .int .i64 0, .int .i64 0, .string ⟨#[]⟩, .slice none 0 0, .int .i64 0, .int .i64 0, .slice none 0 0], .int .i64 (er : Int)]) (by rw [results_cell_tmp rfl]; go_simp) rfl ?_
        exact hend.out
      have q : ((er : Int) != 0) = false := by rw [bne_eq_false_iff_eq]; omega
      have HPr2 : Hid (parseS l0 = if (readN (l0, 0)).2 = emptyN ∨ ¬ MayN (readN (l0, 0)).2 then (emptyN, 1) else ((readN (l0, 0)).2, 0)) := Lib.hid (by rw [HPr.out, if_neg he])
      have hRN := HRN.out
      have hSb := HSb.out
      rw [hRN] at HPr2 hSb
      have hSI := HFE.out.snIn (s := (⟨(x1 : Int), (x2 : Int), (j : Int), (x4 : Int), (x5 : Int), ⟨x6.toArray⟩, rs, (x7 : Int), (x8 : Int), B⟩ : Sn))
      have hrl := hSI.rows.len
      have hgl := hSI.beg.len
      have hr1 := hSb.rows
      have hg1 := hSb.beg
      have HKE := Lib.hid (nrfempty_any (⟨(x1 : Int), (x2 : Int), (j : Int), (x4 : Int), (x5 : Int), ⟨x6.toArray⟩, rs, (x7 : Int), (x8 : Int), B⟩ : Sn) va vn vc ya yn yc wE hrl hgl (by simp only at hrl hr1; omega) (by simp only at hgl hg1; omega))
      have HKM : Hid (∀ v, Below wE.heap.size wE v → Calls Try.prog 14 #[.agg (snA (⟨(x1 : Int), (x2 : Int), (j : Int), (x4 : Int), (x5 : Int), ⟨x6.toArray⟩, rs, (x7 : Int), (x8 : Int), B⟩ : Sn) va vn vc ya yn yc)] v fun e w' => e = .returned (.bool (decide (MayN (⟨(x1 : Int), (x2 : Int), (j : Int), (x4 : Int), (x5 : Int), ⟨x6.toArray⟩, rs, (x7 : Int), (x8 : Int), B⟩ : Sn)))) ∧ Below v.heap.size v w') := Lib.hid (fun v hb => nrfmay_any _ va vn vc ya yn yc v (hSI.belowAll hb) hSb)
      clear hRN hSb hSI hrl hgl hr1 hg1 he
      obtain ⟨D1, hD1⟩ : ∃ D, decide ((⟨(x1 : Int), (x2 : Int), (j : Int), (x4 : Int), (x5 : Int), ⟨x6.toArray⟩, rs, (x7 : Int), (x8 : Int), B⟩ : Sn) = emptyN) = D := ⟨_, rfl⟩
      obtain ⟨D2, hD2⟩ : ∃ D, decide (MayN (⟨(x1 : Int), (x2 : Int), (j : Int), (x4 : Int), (x5 : Int), ⟨x6.toArray⟩, rs, (x7 : Int), (x8 : Int), B⟩ : Sn)) = D := ⟨_, rfl⟩
      rw [hD1] at HKE
      rw [hD2] at HKM
      have HD1 := Lib.hid hD1
      have HD2 := Lib.hid hD2
      clear hD1 hD2
      unfold snA at HKE HKM
      simp only at HKE HKM
      have c0 : wE.cell? ⟨xb, 0, none⟩ = some (.int .i64 (x1 : Int)) := by rw [HFE.out.p.xc]; rfl
      have c1 : wE.cell? ⟨xb, 1, none⟩ = some (.int .i64 (x2 : Int)) := by rw [HFE.out.p.xc]; rfl
      have c2 : wE.cell? ⟨xb, 2, none⟩ = some (.int .i64 (j : Int)) := by rw [HFE.out.p.xc]; rfl
      have c3 : wE.cell? ⟨xb, 3, none⟩ = some (.int .i64 (x4 : Int)) := by rw [HFE.out.p.xc]; rfl
      have c4 : wE.cell? ⟨xb, 4, none⟩ = some (.int .i64 (x5 : Int)) := by rw [HFE.out.p.xc]; rfl
      have c5 : wE.cell? ⟨xb, 5, none⟩ = some (.string ⟨x6.toArray⟩) := by rw [HFE.out.p.xc]; rfl
      have c6 : wE.cell? ⟨xb, 6, none⟩ = some (.slice va vn vc) := by rw [HFE.out.p.xc]; rfl
      have c7 : wE.cell? ⟨xb, 7, none⟩ = some (.int .i64 (x7 : Int)) := by rw [HFE.out.p.xc]; rfl
      have c8 : wE.cell? ⟨xb, 8, none⟩ = some (.int .i64 (x8 : Int)) := by rw [HFE.out.p.xc]; rfl
      have c9 : wE.cell? ⟨xb, 9, none⟩ = some (.slice ya yn yc) := by rw [HFE.out.p.xc]; rfl
      go_wp2_with fail
      refine HKE.out.mono ?_
      rintro e wF ⟨rfl, hbF⟩
      have HFF := Lib.hid (HFE.out.below hbF)
      have HKM2 := Lib.hid (HKM.out wF hbF)
      clear hbF c0 c1 c2 c3 c4 c5 c6 c7 c8 c9
      cases D1
      rotate_left
      · have hx := of_decide_eq_true HD1.out
        have HNo : Hid (parseS l0 = (emptyN, 1)) := Lib.hid (by rw [HPr2.out, if_pos (.inl hx)])
        clear hx
        have hO := HFF.out.p.o
        obtain ⟨d0, d1, d2, d3, d4, d5, d6, d7, d8, d9⟩ := ten_cells (s := emptyN) (ra := none) (rn := 0) (rc := 0) (ga := none) (gn := 0) (gc := 0) hO
        have f0 := frozen_block hO 0
        have f1 := frozen_block hO 1
        have f2 := frozen_block hO 2
        have f3 := frozen_block hO 3
        have f4 := frozen_block hO 4
        have f5 := frozen_block hO 5
        have f6 := frozen_block hO 6
        have f7 := frozen_block hO 7
        have f8 := frozen_block hO 8
        have f9 := frozen_block hO 9
        unfold emptyN at d0 d1 d2 d3 d4 d5 d7 d8
        simp only at d0 d1 d2 d3 d4 d5 d7 d8
        have hend : Hid (P (.returned (.tuple #[.agg #[.int .i64 0, .int .i64 0, .int .i64 0, .int .i64 0, .int .i64 0, .string ⟨#[]⟩, .slice none 0 0, .int .i64 0, .int .i64 0, .slice none 0 0], .int .i64 1])) ((((((((((wF.setCell ⟨rb, 0, none⟩ (.int .i64 0)).setCell ⟨rb, 1, none⟩ (.int .i64 0)).setCell ⟨rb, 2, none⟩ (.int .i64 0)).setCell ⟨rb, 3, none⟩ (.int .i64 0)).setCell ⟨rb, 4, none⟩ (.int .i64 0)).setCell ⟨rb, 5, none⟩ (.string ⟨#[]⟩)).setCell ⟨rb, 6, none⟩ (.slice none 0 0)).setCell ⟨rb, 7, none⟩ (.int .i64 0)).setCell ⟨rb, 8, none⟩ (.int .i64 0)).setCell ⟨rb, 9, none⟩ (.slice none 0 0))) := Lib.hid (by
          rw [← HP.out]
          have hg : ∀ (u : World) (o : Nat) (x : Value), u.grownBy (u.setCell ⟨rb, o, none⟩ x) (some rb) := fun u o x => grown_set u rb o x
          have gg : wF.grownBy ((((((((((wF.setCell ⟨rb, 0, none⟩ (.int .i64 0)).setCell ⟨rb, 1, none⟩ (.int .i64 0)).setCell ⟨rb, 2, none⟩ (.int .i64 0)).setCell ⟨rb, 3, none⟩ (.int .i64 0)).setCell ⟨rb, 4, none⟩ (.int .i64 0)).setCell ⟨rb, 5, none⟩ (.string ⟨#[]⟩)).setCell ⟨rb, 6, none⟩ (.slice none 0 0)).setCell ⟨rb, 7, none⟩ (.int .i64 0)).setCell ⟨rb, 8, none⟩ (.int .i64 0)).setCell ⟨rb, 9, none⟩ (.slice none 0 0)) (some rb) := grown_trans (grown_trans (grown_trans (grown_trans (grown_trans (grown_trans (grown_trans (grown_trans (grown_trans (hg wF 0 _) (hg _ 1 _)) (hg _ 2 _)) (hg _ 3 _)) (hg _ 4 _)) (hg _ 5 _)) (hg _ 6 _)) (hg _ 7 _)) (hg _ 8 _)) (hg _ 9 _)
          have hb : Below rb wF _ := (Below.refl rb wF).grown gg (by have := (Array.getElem?_eq_some_iff.1 hO).1; omega) (fun q e => by have := Option.some.inj e; omega)
          have hx := HNo.out
          refine ⟨none, 0, 0, none, 0, 0, ?_, ?_, ?_⟩
          · rw [hx]; rfl
          · rw [hx]
            exact ⟨⟨⟨[], ⟨rfl, Nat.le_refl _, by decide, .inl rfl⟩, RowsV.nil _ _, fun u hu => by cases hu⟩, fun _ => rfl, fun h => absurd rfl h⟩, ⟨rfl, Nat.le_refl _, by decide, .inl rfl⟩, fun _ => rfl⟩
          · rw [HRb.out]; exact HFF.out.p.b.trans hb)
        clear hO
        go_wp2_with fail
        refine bodyPost_ret (v := .tuple #[.agg #[.int .i64 0, .int .i64 0, .int .i64 0, .int .i64 0, .int .i64 0, .string ⟨#[]⟩, .slice none 0 0, .int .i64 0, .int .i64 0, .slice none 0 0], .int .i64 1]) (by rw [results_cell_tmp rfl]; go_simp) rfl ?_
        exact hend.out
      have HX0 := Lib.hid (of_decide_eq_false HD1.out)
      have c0 : wF.cell? ⟨xb, 0, none⟩ = some (.int .i64 (x1 : Int)) := by rw [HFF.out.p.xc]; rfl
      have c1 : wF.cell? ⟨xb, 1, none⟩ = some (.int .i64 (x2 : Int)) := by rw [HFF.out.p.xc]; rfl
      have c2 : wF.cell? ⟨xb, 2, none⟩ = some (.int .i64 (j : Int)) := by rw [HFF.out.p.xc]; rfl
      have c3 : wF.cell? ⟨xb, 3, none⟩ = some (.int .i64 (x4 : Int)) := by rw [HFF.out.p.xc]; rfl
      have c4 : wF.cell? ⟨xb, 4, none⟩ = some (.int .i64 (x5 : Int)) := by rw [HFF.out.p.xc]; rfl
      have c5 : wF.cell? ⟨xb, 5, none⟩ = some (.string ⟨x6.toArray⟩) := by rw [HFF.out.p.xc]; rfl
      have c6 : wF.cell? ⟨xb, 6, none⟩ = some (.slice va vn vc) := by rw [HFF.out.p.xc]; rfl
      have c7 : wF.cell? ⟨xb, 7, none⟩ = some (.int .i64 (x7 : Int)) := by rw [HFF.out.p.xc]; rfl
      have c8 : wF.cell? ⟨xb, 8, none⟩ = some (.int .i64 (x8 : Int)) := by rw [HFF.out.p.xc]; rfl
      have c9 : wF.cell? ⟨xb, 9, none⟩ = some (.slice ya yn yc) := by rw [HFF.out.p.xc]; rfl
      go_wp2_with fail
      refine HKM2.out.mono ?_
      rintro e wG ⟨rfl, hbG⟩
      have HFG := Lib.hid (HFF.out.below hbG)
      clear hbG c0 c1 c2 c3 c4 c5 c6 c7 c8 c9
      cases D2
      · have hx := of_decide_eq_false HD2.out
        have HNo : Hid (parseS l0 = (emptyN, 1)) := Lib.hid (by rw [HPr2.out, if_pos (.inr hx)])
        clear hx
        have hO := HFG.out.p.o
        obtain ⟨d0, d1, d2, d3, d4, d5, d6, d7, d8, d9⟩ := ten_cells (s := emptyN) (ra := none) (rn := 0) (rc := 0) (ga := none) (gn := 0) (gc := 0) hO
        have f0 := frozen_block hO 0
        have f1 := frozen_block hO 1
        have f2 := frozen_block hO 2
        have f3 := frozen_block hO 3
        have f4 := frozen_block hO 4
        have f5 := frozen_block hO 5
        have f6 := frozen_block hO 6
        have f7 := frozen_block hO 7
        have f8 := frozen_block hO 8
        have f9 := frozen_block hO 9
        unfold emptyN at d0 d1 d2 d3 d4 d5 d7 d8
        simp only at d0 d1 d2 d3 d4 d5 d7 d8
        have hend : Hid (P (.returned (.tuple #[.agg #[.int .i64 0, .int .i64 0, .int .i64 0, .int .i64 0, .int .i64 0, .string ⟨#[]⟩, .slice none 0 0, .int .i64 0, .int .i64 0, .slice none 0 0], .int .i64 1])) ((((((((((wG.setCell ⟨rb, 0, none⟩ (.int .i64 0)).setCell ⟨rb, 1, none⟩ (.int .i64 0)).setCell ⟨rb, 2, none⟩ (.int .i64 0)).setCell ⟨rb, 3, none⟩ (.int .i64 0)).setCell ⟨rb, 4, none⟩ (.int .i64 0)).setCell ⟨rb, 5, none⟩ (.string ⟨#[]⟩)).setCell ⟨rb, 6, none⟩ (.slice none 0 0)).setCell ⟨rb, 7, none⟩ (.int .i64 0)).setCell ⟨rb, 8, none⟩ (.int .i64 0)).setCell ⟨rb, 9, none⟩ (.slice none 0 0))) := Lib.hid (by
          rw [← HP.out]
          have hg : ∀ (u : World) (o : Nat) (x : Value), u.grownBy (u.setCell ⟨rb, o, none⟩ x) (some rb) := fun u o x => grown_set u rb o x
          have gg : wG.grownBy ((((((((((wG.setCell ⟨rb, 0, none⟩ (.int .i64 0)).setCell ⟨rb, 1, none⟩ (.int .i64 0)).setCell ⟨rb, 2, none⟩ (.int .i64 0)).setCell ⟨rb, 3, none⟩ (.int .i64 0)).setCell ⟨rb, 4, none⟩ (.int .i64 0)).setCell ⟨rb, 5, none⟩ (.string ⟨#[]⟩)).setCell ⟨rb, 6, none⟩ (.slice none 0 0)).setCell ⟨rb, 7, none⟩ (.int .i64 0)).setCell ⟨rb, 8, none⟩ (.int .i64 0)).setCell ⟨rb, 9, none⟩ (.slice none 0 0)) (some rb) := grown_trans (grown_trans (grown_trans (grown_trans (grown_trans (grown_trans (grown_trans (grown_trans (grown_trans (hg wG 0 _) (hg _ 1 _)) (hg _ 2 _)) (hg _ 3 _)) (hg _ 4 _)) (hg _ 5 _)) (hg _ 6 _)) (hg _ 7 _)) (hg _ 8 _)) (hg _ 9 _)
          have hb : Below rb wG _ := (Below.refl rb wG).grown gg (by have := (Array.getElem?_eq_some_iff.1 hO).1; omega) (fun q e => by have := Option.some.inj e; omega)
          have hx := HNo.out
          refine ⟨none, 0, 0, none, 0, 0, ?_, ?_, ?_⟩
          · rw [hx]; rfl
          · rw [hx]
            exact ⟨⟨⟨[], ⟨rfl, Nat.le_refl _, by decide, .inl rfl⟩, RowsV.nil _ _, fun u hu => by cases hu⟩, fun _ => rfl, fun h => absurd rfl h⟩, ⟨rfl, Nat.le_refl _, by decide, .inl rfl⟩, fun _ => rfl⟩
          · rw [HRb.out]; exact HFG.out.p.b.trans hb)
        clear hO
        go_wp2_with fail
        refine bodyPost_ret (v := .tuple #[.agg #[.int .i64 0, .int .i64 0, .int .i64 0, .int .i64 0, .int .i64 0, .string ⟨#[]⟩, .slice none 0 0, .int .i64 0, .int .i64 0, .slice none 0 0], .int .i64 1]) (by rw [results_cell_tmp rfl]; go_simp) rfl ?_
        exact hend.out
      have hx := of_decide_eq_true HD2.out
      have HYes : Hid (parseS l0 = ((⟨(x1 : Int), (x2 : Int), (j : Int), (x4 : Int), (x5 : Int), ⟨x6.toArray⟩, rs, (x7 : Int), (x8 : Int), B⟩ : Sn), 0)) := Lib.hid (by rw [HPr2.out, if_neg (by intro h; rcases h with h | h; exact HX0.out h; exact h hx)])
      clear hx
      have c0 : wG.cell? ⟨xb, 0, none⟩ = some (.int .i64 (x1 : Int)) := by rw [HFG.out.p.xc]; rfl
      have c1 : wG.cell? ⟨xb, 1, none⟩ = some (.int .i64 (x2 : Int)) := by rw [HFG.out.p.xc]; rfl
      have c2 : wG.cell? ⟨xb, 2, none⟩ = some (.int .i64 (j : Int)) := by rw [HFG.out.p.xc]; rfl
      have c3 : wG.cell? ⟨xb, 3, none⟩ = some (.int .i64 (x4 : Int)) := by rw [HFG.out.p.xc]; rfl
      have c4 : wG.cell? ⟨xb, 4, none⟩ = some (.int .i64 (x5 : Int)) := by rw [HFG.out.p.xc]; rfl
      have c5 : wG.cell? ⟨xb, 5, none⟩ = some (.string ⟨x6.toArray⟩) := by rw [HFG.out.p.xc]; rfl
      have c6 : wG.cell? ⟨xb, 6, none⟩ = some (.slice va vn vc) := by rw [HFG.out.p.xc]; rfl
      have c7 : wG.cell? ⟨xb, 7, none⟩ = some (.int .i64 (x7 : Int)) := by rw [HFG.out.p.xc]; rfl
      have c8 : wG.cell? ⟨xb, 8, none⟩ = some (.int .i64 (x8 : Int)) := by rw [HFG.out.p.xc]; rfl
      have c9 : wG.cell? ⟨xb, 9, none⟩ = some (.slice ya yn yc) := by rw [HFG.out.p.xc]; rfl
      have hO := HFG.out.p.o
      obtain ⟨d0, d1, d2, d3, d4, d5, d6, d7, d8, d9⟩ := ten_cells (s := emptyN) (ra := none) (rn := 0) (rc := 0) (ga := none) (gn := 0) (gc := 0) hO
      have f0 := frozen_block hO 0
      have f1 := frozen_block hO 1
      have f2 := frozen_block hO 2
      have f3 := frozen_block hO 3
      have f4 := frozen_block hO 4
      have f5 := frozen_block hO 5
      have f6 := frozen_block hO 6
      have f7 := frozen_block hO 7
      have f8 := frozen_block hO 8
      have f9 := frozen_block hO 9
      unfold emptyN at d0 d1 d2 d3 d4 d5 d7 d8
      simp only at d0 d1 d2 d3 d4 d5 d7 d8
      have hend : Hid (P (.returned (.tuple #[.agg #[.int .i64 (x1 : Int), .int .i64 (x2 : Int), .int .i64 (j : Int), .int .i64 (x4 : Int), .int .i64 (x5 : Int), .string ⟨x6.toArray⟩, .slice va vn vc, .int .i64 (x7 : Int), .int .i64 (x8 : Int), .slice ya yn yc], .int .i64 0])) ((((((((((wG.setCell ⟨rb, 0, none⟩ (.int .i64 (x1 : Int))).setCell ⟨rb, 1, none⟩ (.int .i64 (x2 : Int))).setCell ⟨rb, 2, none⟩ (.int .i64 (j : Int))).setCell ⟨rb, 3, none⟩ (.int .i64 (x4 : Int))).setCell ⟨rb, 4, none⟩ (.int .i64 (x5 : Int))).setCell ⟨rb, 5, none⟩ (.string ⟨x6.toArray⟩)).setCell ⟨rb, 6, none⟩ (.slice va vn vc)).setCell ⟨rb, 7, none⟩ (.int .i64 (x7 : Int))).setCell ⟨rb, 8, none⟩ (.int .i64 (x8 : Int))).setCell ⟨rb, 9, none⟩ (.slice ya yn yc))) := Lib.hid (by
        rw [← HP.out]
        have hg : ∀ (u : World) (o : Nat) (x : Value), u.grownBy (u.setCell ⟨rb, o, none⟩ x) (some rb) := fun u o x => grown_set u rb o x
        have gg : wG.grownBy ((((((((((wG.setCell ⟨rb, 0, none⟩ (.int .i64 (x1 : Int))).setCell ⟨rb, 1, none⟩ (.int .i64 (x2 : Int))).setCell ⟨rb, 2, none⟩ (.int .i64 (j : Int))).setCell ⟨rb, 3, none⟩ (.int .i64 (x4 : Int))).setCell ⟨rb, 4, none⟩ (.int .i64 (x5 : Int))).setCell ⟨rb, 5, none⟩ (.string ⟨x6.toArray⟩)).setCell ⟨rb, 6, none⟩ (.slice va vn vc)).setCell ⟨rb, 7, none⟩ (.int .i64 (x7 : Int))).setCell ⟨rb, 8, none⟩ (.int .i64 (x8 : Int))).setCell ⟨rb, 9, none⟩ (.slice ya yn yc)) (some rb) := grown_trans (grown_trans (grown_trans (grown_trans (grown_trans (grown_trans (grown_trans (grown_trans (grown_trans (hg wG 0 _) (hg _ 1 _)) (hg _ 2 _)) (hg _ 3 _)) (hg _ 4 _)) (hg _ 5 _)) (hg _ 6 _)) (hg _ 7 _)) (hg _ 8 _)) (hg _ 9 _)
        have hb : Below rb wG _ := (Below.refl rb wG).grown gg (by have := (Array.getElem?_eq_some_iff.1 hO).1; omega) (fun q e => by have := Option.some.inj e; omega)
        refine ⟨va, vn, vc, ya, yn, yc, by rw [HYes.out]; rfl, ?_, by rw [HRb.out]; exact HFG.out.p.b.trans hb⟩
        rw [HYes.out]
        exact HFG.out.out (s := (⟨(x1 : Int), (x2 : Int), (j : Int), (x4 : Int), (x5 : Int), ⟨x6.toArray⟩, rs, (x7 : Int), (x8 : Int), B⟩ : Sn)) (KeepB.of_grown gg))
      clear hO
      go_wp2_with fail
      refine bodyPost_ret (v := .tuple #[.agg #[.int .i64 (x1 : Int), .int .i64 (x2 : Int), .int .i64 (j : Int), .int .i64 (x4 : Int), .int .i64 (x5 : Int), .string ⟨x6.toArray⟩, .slice va vn vc, .int .i64 (x7 : Int), .int .i64 (x8 : Int), .slice ya yn yc], .int .i64 0]) (by rw [results_cell_tmp rfl]; go_simp) rfl ?_
      exact hend.out
    have hd : decide (j < x3) = true := decide_eq_true hlt
    have hjI : (j : Int) < x3 := by omega
    have i1 := HF.out.p.i1
    have c2 : wr.cell? ⟨xb, 2, none⟩ = some (.int .i64 (x3 : Int)) := by rw [HF.out.p.xc]; rfl
    simp only at i1
    by_cases hE : ej = 0
    rotate_left
    · have q2 : ((ej : Int) == 0) = false := by rw [beq_eq_false_iff_ne]; omega
      have HEj := Lib.hid hE
      have HFin : Hid ((readN (l0, 0)).1 = (lj, ej)) := Lib.hid (by rw [(HRd.out l9 e9 B HJB.out).1, HStk.out hE])
      clear hE
      go_upto_region 21 with fail
      clear c2 i1 hlt hd q2 hjI
      have i0 := HF.out.p.i0
      have i1 := HF.out.p.i1
      simp only at i0 i1
      obtain ⟨er, her⟩ : ∃ n, endS lj ej = n := ⟨_, rfl⟩
      have HE : Hid (Calls Try.prog 30 #[.agg #[.string t, .int .i64 (ej : Int)]] wr fun en w' => en = .returned (.int .i64 (er : Int)) ∧ Below wr.heap.size wr w') := Lib.hid (by
        have h := refend_any t ej wr
        rw [HF.out.t.1] at h
        unfold inV at h
        (try simp only at h)
        rw [her] at h
        exact h)
      have HPr : Hid (parseS l0 = if er ≠ 0 then (emptyN, er) else if (readN (l0, 0)).2 = emptyN ∨ ¬ MayN (readN (l0, 0)).2 then (emptyN, 1) else ((readN (l0, 0)).2, 0)) := Lib.hid (by rw [HPs.out, HFin.out]; simp only; rw [her])
      have HEr := Lib.hid her
      clear her
      go_wp2_with fail
      refine HE.out.mono ?_
      rintro e wE ⟨rfl, hbE⟩
      have HFE := Lib.hid (HF.out.below hbE)
      clear hbE i0 i1
      have he : er ≠ 0 := fun h => HEj.out (endS_zero (by rw [HEr.out]; exact h)).1
      have q : ((er : Int) != 0) = true := by rw [bne_iff_ne]; omega
      have hO := HFE.out.p.o
      obtain ⟨d0, d1, d2, d3, d4, d5, d6, d7, d8, d9⟩ := ten_cells (s := emptyN) (ra := none) (rn := 0) (rc := 0) (ga := none) (gn := 0) (gc := 0) hO
      have f0 := frozen_block hO 0
      have f1 := frozen_block hO 1
      have f2 := frozen_block hO 2
      have f3 := frozen_block hO 3
      have f4 := frozen_block hO 4
      have f5 := frozen_block hO 5
      have f6 := frozen_block hO 6
      have f7 := frozen_block hO 7
      have f8 := frozen_block hO 8
      have f9 := frozen_block hO 9
      unfold emptyN at d0 d1 d2 d3 d4 d5 d7 d8
      simp only at d0 d1 d2 d3 d4 d5 d7 d8
      have hend : Hid (P (.returned (.tuple #[.agg #[.int .i64 0, .int .i64 0, .int .i64 0, .int .i64 0, .int .i64 0, .string ⟨#[]⟩, .slice none 0 0, .int .i64 0, .int .i64 0, .slice none 0 0], .int .i64 (er : Int)])) ((((((((((wE.setCell ⟨rb, 0, none⟩ (.int .i64 0)).setCell ⟨rb, 1, none⟩ (.int .i64 0)).setCell ⟨rb, 2, none⟩ (.int .i64 0)).setCell ⟨rb, 3, none⟩ (.int .i64 0)).setCell ⟨rb, 4, none⟩ (.int .i64 0)).setCell ⟨rb, 5, none⟩ (.string ⟨#[]⟩)).setCell ⟨rb, 6, none⟩ (.slice none 0 0)).setCell ⟨rb, 7, none⟩ (.int .i64 0)).setCell ⟨rb, 8, none⟩ (.int .i64 0)).setCell ⟨rb, 9, none⟩ (.slice none 0 0))) := Lib.hid (by
        rw [← HP.out]
        have hg : ∀ (u : World) (o : Nat) (x : Value), u.grownBy (u.setCell ⟨rb, o, none⟩ x) (some rb) := fun u o x => grown_set u rb o x
        have gg : wE.grownBy ((((((((((wE.setCell ⟨rb, 0, none⟩ (.int .i64 0)).setCell ⟨rb, 1, none⟩ (.int .i64 0)).setCell ⟨rb, 2, none⟩ (.int .i64 0)).setCell ⟨rb, 3, none⟩ (.int .i64 0)).setCell ⟨rb, 4, none⟩ (.int .i64 0)).setCell ⟨rb, 5, none⟩ (.string ⟨#[]⟩)).setCell ⟨rb, 6, none⟩ (.slice none 0 0)).setCell ⟨rb, 7, none⟩ (.int .i64 0)).setCell ⟨rb, 8, none⟩ (.int .i64 0)).setCell ⟨rb, 9, none⟩ (.slice none 0 0)) (some rb) := grown_trans (grown_trans (grown_trans (grown_trans (grown_trans (grown_trans (grown_trans (grown_trans (grown_trans (hg wE 0 _) (hg _ 1 _)) (hg _ 2 _)) (hg _ 3 _)) (hg _ 4 _)) (hg _ 5 _)) (hg _ 6 _)) (hg _ 7 _)) (hg _ 8 _)) (hg _ 9 _)
        have hb : Below rb wE _ := (Below.refl rb wE).grown gg (by have := (Array.getElem?_eq_some_iff.1 hO).1; omega) (fun q e => by have := Option.some.inj e; omega)
        have hx := (show parseS l0 = (emptyN, er) by rw [HPr.out, if_pos he])
        refine ⟨none, 0, 0, none, 0, 0, ?_, ?_, ?_⟩
        · rw [hx]; rfl
        · rw [hx]
          exact ⟨⟨⟨[], ⟨rfl, Nat.le_refl _, by decide, .inl rfl⟩, RowsV.nil _ _, fun u hu => by cases hu⟩, fun _ => rfl, fun h => absurd rfl h⟩, ⟨rfl, Nat.le_refl _, by decide, .inl rfl⟩, fun _ => rfl⟩
        · rw [HRb.out]; exact HFE.out.p.b.trans hb)
      clear hO
      clear he
      go_wp2_with fail
      refine bodyPost_ret (v := .tuple #[.agg #[.int .i64 0, .int .i64 0, .int .i64 0, .int .i64 0, .int .i64 0, .string ⟨#[]⟩, .slice none 0 0, .int .i64 0, .int .i64 0, .slice none 0 0], .int .i64 (er : Int)]) (by rw [results_cell_tmp rfl]; go_simp) rfl ?_
      exact hend.out
    subst hE
    obtain ⟨rB, hrB⟩ : ∃ b, wr.heap.size = b := ⟨_, rfl⟩
    obtain ⟨wr1, hwr1⟩ : ∃ w1, wr.alloc (.cells #[.slice none 0 0, .bool false] 75) = w1 := ⟨_, rfl⟩
    have hbr1 : Below wr.heap.size wr wr1 := by rw [← hwr1]; exact (Below.refl _ _).alloc (Nat.le_refl _) _
    have HF1 := Lib.hid (HF.out.below hbr1)
    have hr1 := nrfrow_any t HF.out.t.2 (lj, 0) HF.out.t.1 HOkj.out (x2 : Int) (by omega) (by omega) wr1
    rw [Int.toNat_natCast] at hr1
    have hrl2 := readR_len (lj, 0) x2
    obtain ⟨⟨⟨lk, ek⟩, ⟨rl, rw0⟩⟩, hrk⟩ : ∃ q, readR (lj, 0) x2 = q := ⟨_, rfl⟩
    rw [hrk] at hr1 hrl2
    simp only at hr1 hrl2
    have HRk := Lib.hid hrk
    have HR1 : Hid (Calls Try.prog 29 #[.agg #[.string t, .int .i64 (0 : Int)], .int .i64 (x2 : Int)] wr1 (RfPost ((lk, ek), ⟨rl, rw0⟩) wr1)) := Lib.hid (by exact hr1)
    have HWr1 := Lib.hid hwr1
    have HRB := Lib.hid hrB
    clear hwr1 hrB hbr1 hr1 hrk
    go_upto_region 19 with fail
    rw [HWr1.out, HRB.out]
    clear c2 i1 hd
    have i0 := HF1.out.p.i0
    have i1 := HF1.out.p.i1
    have c1 : wr1.cell? ⟨xb, 1, none⟩ = some (.int .i64 (x2 : Int)) := by rw [HF1.out.p.xc]; rfl
    simp only at i0 i1
    go_wp2_with fail
    refine HR1.out.mono ?_
    rintro e wr2 ⟨tk, v2, rfl, htk, hzk, hok, hbk⟩
    obtain ⟨ka, kc, rfl, -⟩ := hok.shape
    simp only at htk hok ⊢
    obtain ⟨kn, hkn⟩ : ∃ n, rl.length = n := ⟨_, rfl⟩
    rw [hkn] at hok hrl2 ⊢
    have hf2 := HF1.out.below hbk
    have a0 := hf2.p.i0
    have a1 := hf2.p.i1
    have b0 := frozen_block hf2.p.i 0
    have b1 := frozen_block hf2.p.i 1
    have hrow2 : wr2.heap[rB]? = some (.cells #[.slice none 0 0, .bool false] 75 (0, 0)) := (hbk.block rB (by rw [← HRB.out, ← HWr1.out, World.size_alloc]; omega)).trans (by rw [← HRB.out, ← HWr1.out]; exact heap_alloc_new wr _)
    have r0 : wr2.cell? ⟨rB, 0, none⟩ = some (.slice none 0 0) := by rw [cell_block hrow2]; rfl
    have r1 : wr2.cell? ⟨rB, 1, none⟩ = some (.bool false) := by rw [cell_block hrow2]; rfl
    have s0 := frozen_block hrow2 0
    have s1 := frozen_block hrow2 1
    have hne1 : rB ≠ ib := by have := HF.out.p.size; have := HF.out.p.lt; have := HRB.out; omega
    have hne2 : ib ≠ rB := fun e => hne1 e.symm
    simp only at a0 a1
    have hrow := HF.out.row (w2 := wr2) (t' := tk) (st' := (lk, ek)) (by rw [HWr1.out]; exact hbk.mono (by rw [← HWr1.out, World.size_alloc]; omega)) ⟨htk, hzk⟩ (.slice ka kn kc) rw0
    rw [HRB.out] at hrow
    simp only at hrow
    obtain ⟨wr3, hwr3⟩ : ∃ w3, (((wr2.setCell ⟨ib, 0, none⟩ (.string tk)).setCell ⟨ib, 1, none⟩ (.int .i64 (ek : Int))).setCell ⟨rB, 0, none⟩ (.slice ka kn kc)).setCell ⟨rB, 1, none⟩ (.bool rw0) = w3 := ⟨_, rfl⟩
    rw [hwr3] at hrow
    have hfresh : ∀ b off, (⟨ka, kn, kc, rw0⟩ : Rv).a = some ⟨b, off, none⟩ → wr1.heap.size ≤ b := hok.from_
    have hsz1 : wr1.heap.size = rB + 1 := by rw [← HWr1.out, World.size_alloc, HRB.out]
    have hrv2 : RowV .i64 (Rv.val ⟨ka, kn, kc, rw0⟩) ⟨rl, rw0⟩ wr2 := by
      have h := hok.rowVk (r := ⟨rl, rw0⟩)
      exact h
    have hrv : RowV .i64 (Rv.val ⟨ka, kn, kc, rw0⟩) ⟨rl, rw0⟩ wr3 := hrv2.moved (by
      rw [← hwr3]
      simp only [World.size_setCell]
      exact Nat.le_refl _) (fun b off e hl => by
      have h1 := hfresh b off e
      have h2 := HF.out.p.size
      have h3 := HF.out.p.lt
      have h4 := HRB.out
      rw [← hwr3, Below.heap_setCell _ _ _ _ (by show b ≠ rB; omega), Below.heap_setCell _ _ _ _ (by show b ≠ rB; omega), Below.heap_setCell _ _ _ _ (by show b ≠ ib; omega), Below.heap_setCell _ _ _ _ (by show b ≠ ib; omega)])
    have HF3 := Lib.hid hrow.1
    have HRo3 := Lib.hid hrow.2
    have HRv3 := Lib.hid hrv
    have hap : Apart (.slice va j vc) ⟨ka, kn, kc, rw0⟩ := fun _ b off e e' => by
      have h1 := (HF.out.g.own b e').2.1
      have h2 := hfresh b off e
      have := HRB.out
      omega
    have hoff : Off [rb, ib, xb] ⟨ka, kn, kc, rw0⟩ := Off.fresh hfresh (fun p hp => by
      have := HF.out.p.size
      have := HF.out.p.lt
      have := HRB.out
      simp at hp
      omega)
    have HAp := Lib.hid hap
    have HOf := Lib.hid hoff
    have HWr3 := Lib.hid hwr3
    have HKn : Hid (kn ≤ 1000) := Lib.hid (by have := HW2.out; omega)
    clear htk hzk hok hbk hf2 hrow2 hrow hwr3 hrv hrv2 hfresh hsz1 hap hoff hkn hrl2 i0 i1 c1
    go_upto_region 20 with fail
    rw [HWr3.out]
    clear a0 a1 b0 b1 r0 r1 s0 s1 hne1 hne2
    have c6 : wr3.cell? ⟨xb, 6, none⟩ = some (.slice va j vc) := by rw [HF3.out.p.xc]; rfl
    have r0 := HRo3.out.c0
    have r1 := HRo3.out.c1
    have HRsl : Hid (rs.length ≤ 1000) := Lib.hid (by have := HRl.out; have := HW2.out; omega)
    have HFB := Lib.hid (HF3.out.below ((Below.refl _ _).alloc (Nat.le_refl _) (.cells #[.slice ka kn kc, .bool rw0] 75)))
    have HRvB := Lib.hid (HRv3.out.belowAll ((Below.refl _ _).alloc (Nat.le_refl _) (.cells #[.slice ka kn kc, .bool rw0] 75)))
    go_wp2_with (at_builtin; refine wpList_append_row refRowsT rfl _ _ rfl rfl [rb, ib, xb] (xb + 1) (.slice va j vc) rs wr3.heap.size ⟨ka, kn, kc, rw0⟩ ⟨rl, rw0⟩ rfl rfl HFB.out.g (RoB.new _ _ _ _) HRvB.out HOf.out HAp.out HRsl.out HFB.out.p.size ?_)
    intro v' wr5 hG5 hg5 hb5
    obtain ⟨a5, c5, rfl, -, -⟩ := hG5.shape
    have hlen : (rs ++ [(⟨rl, rw0⟩ : Ro)]).length = j + 1 := by rw [List.length_append, HRl.out]; rfl
    rw [hlen] at hG5 ⊢
    have hpx := HFB.out.p.more ((Below.refl _ _).grown hg5 HFB.out.p.size (fun q hq => (HFB.out.g.own q hq).1))
    have hN := HFB.out.push hG5 hg5 (cs' := #[.int .i64 (x1 : Int), .int .i64 (x2 : Int), .int .i64 (x3 : Int), .int .i64 (x4 : Int), .int .i64 (x5 : Int), .string ⟨x6.toArray⟩, .slice a5 (j + 1) c5, .int .i64 (x7 : Int), .int .i64 (x8 : Int), .slice ya yn yc]) rfl
    have c6' : wr5.cell? ⟨xb, 6, none⟩ = some (.slice va j vc) := by rw [hpx.xc]; rfl
    have f6 := frozen_block hpx.x 6
    have HN : Hid (∃ (t : ByteArray) (va : Option Addr) (vc : Nat), PfL rb ib xb t (rowsS x2 (j + 1) (l9, e9)).1 #[.int .i64 (x1 : Int), .int .i64 (x2 : Int), .int .i64 (x3 : Int), .int .i64 (x4 : Int), .int .i64 (x5 : Int), .string ⟨x6.toArray⟩, .slice va (j + 1) vc, .int .i64 (x7 : Int), .int .i64 (x8 : Int), .slice ya yn yc] (.slice va (j + 1) vc) (.slice ya yn yc) (rowsS x2 (j + 1) (l9, e9)).2 B w (wr5.setCell ⟨xb, 6, none⟩ (.slice a5 (j + 1) c5))) := Lib.hid ⟨tk, a5, c5, by
      rw [HNx.out, HRk.out]
      exact hN⟩
    clear hG5 hg5 hb5 hpx hN hlen c6 r0 r1
    go_wp2_with fail
    go_roundw
    case rel => exact ⟨j + 1, by go_num, by omega, HN⟩
    case measure => simp [intOf]; omega
end Go.Proofs.Ytjlljkdlgkociaa.K
