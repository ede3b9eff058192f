/- The contract of the document's ReadText, in a seat without datagrams. -/
import Derived.Test.YtjlljkdlgkociaaMerged25
import Derived.Test.YtjlljkdlgkociaaNPrs
import Derived.Test.YtjlljkdlgkociaaMerged20
import Derived.Test.YtjlljkdlgkociaaMerged6
import Derived.Test.YtjlljkdlgkociaaNRfM
namespace Go.Proofs.Ytjlljkdlgkociaa.K
open Go.RowKit Go.Proofs.Ytjlljkdlgkociaa.I

/-- The document's In, in a block of its own. -/
def IBlkN (p : Nat) (s : ByteArray) (e : Nat) (w : World) : Prop := w.heap[p]? = some (.cells #[.string s, .int .i64 e] 65 (0, 0))
theorem IBlkN.lt {p : Nat} {s : ByteArray} {e : Nat} {w : World} (h : IBlkN p s e w) : p < w.heap.size := (Array.getElem?_eq_some_iff.1 h).1
theorem IBlkN.c0 {p : Nat} {s : ByteArray} {e : Nat} {w : World} (h : IBlkN p s e w) : w.cell? ⟨p, 0, none⟩ = some (.string s) := by rw [Lib.cell_of_heap h]; rfl
theorem IBlkN.c1 {p : Nat} {s : ByteArray} {e : Nat} {w : World} (h : IBlkN p s e w) : w.cell? ⟨p, 1, none⟩ = some (.int .i64 e) := by rw [Lib.cell_of_heap h]; rfl
theorem IBlkN.fr {p : Nat} {s : ByteArray} {e : Nat} {w : World} (h : IBlkN p s e w) (o : Nat) : w.frozen? ⟨p, o, none⟩ = false := by simp [World.frozen?, show w.heap[p]? = _ from h]
theorem IBlkN.set {p : Nat} {s : ByteArray} {e : Nat} {w : World} (h : IBlkN p s e w) (s' : ByteArray) (e' : Nat) : IBlkN p s' e' ((w.setCell ⟨p, 0, none⟩ (.string s')).setCell ⟨p, 1, none⟩ (.int .i64 e')) := by
  have h' : w.heap[p]? = _ := h
  unfold IBlkN
  simp [World.setCell, Array.getElem?_modify, h']
theorem IBlkN.other {p g o : Nat} {s : ByteArray} {e : Nat} {w : World} (h : IBlkN p s e w) (hne : p ≠ g) (v : Value) : IBlkN p s e (w.setCell ⟨g, o, none⟩ v) := (Below.heap_setCell _ _ _ _ hne).trans h
theorem IBlkN.below {p : Nat} {s : ByteArray} {e : Nat} {w w' : World} (h : IBlkN p s e w) (hb : Below w.heap.size w w') : IBlkN p s e w' := (hb.block p h.lt).trans h
theorem IBlkN.grown {p : Nat} {s : ByteArray} {e : Nat} {w w' : World} {row : Option Nat} (h : IBlkN p s e w) (hg : w.grownBy w' row) (hne : some p ≠ row) : IBlkN p s e w' := (hg.block p h.lt hne).trans h
end Go.Proofs.Ytjlljkdlgkociaa.K

/- Rows of the document's that are gathered, one behind the other. -/
namespace Go.Proofs.Ytjlljkdlgkociaa.K
open Go.RowKit

theorem OwnC.from_ {rk : IntKind} {T : TypeId} {base : Nat} {x : Option Addr} {n y : Nat} {l : List Cel} {w : World} (h : OwnC rk T base (.slice x n y) l w) : ∀ b off, x = some ⟨b, off, none⟩ → base ≤ b := fun b off e => by
  obtain ⟨a', c', e1, -, h2, -⟩ := h.shape
  have e2 : x = a' := by injection e1
  exact (h2 b off (by rw [← e2]; exact e)).1
/-- the row's cells are not in the slice's own block -/
def Apart (v : Value) (u : Rv) : Prop := u.n ≠ 0 → ∀ b off, u.a = some ⟨b, off, none⟩ → v.ownBlock ≠ some b
theorem Apart.fresh {T : TypeId} {base m : Nat} {v : Value} {us : List Rv} {u : Rv} {w : World} (h : OwnV T base v us w) (hm : w.heap.size ≤ m) (hu : ∀ b off, u.a = some ⟨b, off, none⟩ → m ≤ b) : Apart v u := fun _ b off e e' => by
  have h1 := (h.ownBlock b e').2
  have h2 := hu b off e
  omega
theorem RowV.apart {rk : IntKind} {u : Rv} {r : Ro} {w w' : World} {row : Option Nat} (h : RowV rk u.val r w) (hg : w.grownBy w' row) (hne : u.n ≠ 0 → ∀ b off, u.a = some ⟨b, off, none⟩ → row ≠ some b) : RowV rk u.val r w' := by
  by_cases hn : u.n = 0
  · obtain ⟨a, c, e, hi, h3⟩ := h
    have e2 := Rv.val_inj (v := ⟨a, r.l.length, c, r.wrapped⟩) e
    subst e2
    exact ⟨a, c, rfl, ⟨rfl, .inl (List.eq_nil_of_length_eq_zero hn)⟩, h3⟩
  · exact h.moved hg.size (fun b off e hl => hg.block b hl (fun e' => hne hn b off e e'.symm))
/-- rows that were gathered, in memory of our own -/
structure Gath (T : TypeId) (L : List Nat) (base : Nat) (v : Value) (rs : List Ro) (w : World) : Prop where
  ex : ∃ us, OwnV T base v us w ∧ RowsV .i64 us rs w ∧ (∀ u ∈ us, Off L u) ∧ ∀ u ∈ us, Apart v u
theorem Gath.nil (T : TypeId) (L : List Nat) (base : Nat) (w : World) : Gath T L base (.slice none 0 0) [] w := ⟨[], OwnV.nil _ _ _, RowsV.nil _ _, (fun u hu => by cases hu), (fun u hu => by cases hu)⟩
theorem Gath.belowAll {T : TypeId} {L : List Nat} {base : Nat} {v : Value} {rs : List Ro} {w w' : World} (h : Gath T L base v rs w) (hb : Below w.heap.size w w') : Gath T L base v rs w' := by
  obtain ⟨us, h1, h2, h3, h4⟩ := h
  exact ⟨us, h1.belowAll hb, h2.belowAll hb, h3, h4⟩
theorem Gath.keptB {T : TypeId} {L : List Nat} {base : Nat} {v : Value} {rs : List Ro} {w w' : World} (h : Gath T L base v rs w) (hk : KeepB L w w') (hv : ∀ q, v.ownBlock = some q → q ∉ L) : Gath T L base v rs w' := by
  obtain ⟨us, h1, h2, h3, h4⟩ := h
  refine ⟨us, ?_, ⟨h2.1, fun i u r hu hr => (h2.2 i u r hu hr).keptB (h3 u (List.mem_of_getElem? hu)) hk⟩, h3, h4⟩
  refine ⟨h1.1, ?_⟩
  rcases h1.2 with h0 | ⟨g', c', cur, he, hbase, hgb, hc, hmx, hsz, ht⟩
  · exact .inl h0
  · exact .inr ⟨g', c', cur, he, hbase, (hk.block g' (Array.getElem?_eq_some_iff.1 hgb).1 (hv g' (by rw [he]; rfl))).trans hgb, hc, hmx, hsz, ht⟩
theorem Gath.own {T : TypeId} {L : List Nat} {base : Nat} {v : Value} {rs : List Ro} {w : World} (h : Gath T L base v rs w) : ∀ q, v.ownBlock = some q → base ≤ q ∧ q < w.heap.size ∧ ∃ cs, w.heap[q]? = some (.cells cs T (0, 0)) := fun q hq => by
  obtain ⟨us, h1, -⟩ := h.ex
  obtain ⟨cs, h2, h3, h4⟩ := U.own_type h1 hq
  exact ⟨h3, h4, cs, h2⟩
theorem Gath.shape {T : TypeId} {L : List Nat} {base : Nat} {v : Value} {rs : List Ro} {w : World} (h : Gath T L base v rs w) : ∃ a c, v = .slice a rs.length c ∧ (a = none → c = 0) ∧ ∀ b off, a = some ⟨b, off, none⟩ → v.ownBlock = some b ∧ off = 0 := by
  obtain ⟨us, h1, h2, -⟩ := h.ex
  rcases h1.2 with ⟨rfl, h0⟩ | ⟨g, cap, cur, rfl, _⟩
  · exact ⟨none, 0, by rw [← h2.1, h0], (fun _ => rfl), (fun _ _ e => by cases e)⟩
  · exact ⟨some ⟨g, 0, none⟩, cap, by rw [h2.1], (fun e => by cases e), (fun b off e => by cases e; exact ⟨rfl, rfl⟩)⟩
theorem Gath.rowsL {T : TypeId} {L L' : List Nat} {base : Nat} {a : Option Addr} {n c : Nat} {rs : List Ro} {w : World} (h : Gath T L base (.slice a n c) rs w) (hs : ∀ p ∈ L', p ∈ L) (hL : ∀ p ∈ L', p < base) : RowsL .i64 L' a n c rs w := by
  obtain ⟨us, h1, h2, h3, -⟩ := h.ex
  obtain ⟨a', c', e, -⟩ := h1.shape
  cases e
  exact h1.rowsL h2 (fun u hu hn b off e hb => h3 u hu hn b off e (hs b hb)) hL
theorem Gath.weaken {T : TypeId} {L : List Nat} {base base' : Nat} {v : Value} {rs : List Ro} {w : World} (h : Gath T L base v rs w) (hb : base' ≤ base) : Gath T L base' v rs w := by
  obtain ⟨us, h1, h2, h3, h4⟩ := h
  exact ⟨us, h1.weaken hb, h2, h3, h4⟩
end Go.Proofs.Ytjlljkdlgkociaa.K

/- The contract of the document's Parse (layer 16). -/
namespace Go.Proofs.Ytjlljkdlgkociaa.K
open Go.RowKit Go.Proofs.Ytjlljkdlgkociaa.I

/-- its blocks: the result, what is read, and the snap -/
structure PfB (rb ib xb : Nat) (t : ByteArray) (e : Nat) (cs : Array Value) (w wr : World) : Prop where
  b : Below rb w wr
  o : wr.heap[rb]? = some (.cells #[.int .i64 0, .int .i64 0, .int .i64 0, .int .i64 0, .int .i64 0, .string ⟨#[]⟩, .slice none 0 0, .int .i64 0, .int .i64 0, .slice none 0 0] 35 (0, 0))
  i : wr.heap[ib]? = some (.cells #[.string t, .int .i64 (e : Int)] 65 (0, 0))
  x : wr.heap[xb]? = some (.cells cs 35 (0, 0))
  lt : rb < ib ∧ ib < xb
section
variable {rb ib xb : Nat} {t t' : ByteArray} {e : Nat} {cs cs' : Array Value} {w wr w' : World}
theorem PfB.size (h : PfB rb ib xb t e cs w wr) : xb + 1 ≤ wr.heap.size := (Array.getElem?_eq_some_iff.1 h.x).1
theorem PfB.more (h : PfB rb ib xb t e cs w wr) (hb : Below (xb + 1) wr w') : PfB rb ib xb t e cs w w' :=
  have hl := h.lt
  ⟨h.b.trans (hb.mono (by omega)), (hb.block rb (by omega)).trans h.o, (hb.block ib (by omega)).trans h.i, (hb.block xb (by omega)).trans h.x, h.lt⟩
theorem PfB.below (h : PfB rb ib xb t e cs w wr) (hb : Below wr.heap.size wr w') : PfB rb ib xb t e cs w w' := h.more (hb.mono h.size)
theorem PfB.set (h : PfB rb ib xb t e cs w wr) (t' : ByteArray) (e' : Nat) : PfB rb ib xb t' e' cs w ((wr.setCell ⟨ib, 0, none⟩ (.string t')).setCell ⟨ib, 1, none⟩ (.int .i64 (e' : Int))) := by
  have hl := h.lt
  refine ⟨(h.b.setCell (p := ⟨ib, 0, none⟩) (by show rb ≤ ib; omega) _).setCell (p := ⟨ib, 1, none⟩) (by show rb ≤ ib; omega) _, ?_, by simp [World.setCell, Array.getElem?_modify, h.i], ?_, hl⟩
  · rw [Below.heap_setCell _ _ _ _ (by show rb ≠ ib; omega), Below.heap_setCell _ _ _ _ (by show rb ≠ ib; omega)]
    exact h.o
  · rw [Below.heap_setCell _ _ _ _ (by show xb ≠ ib; omega), Below.heap_setCell _ _ _ _ (by show xb ≠ ib; omega)]
    exact h.x
theorem PfB.cell (h : PfB rb ib xb t e cs w wr) (i : Nat) (v : Value) (hz : cs.setIfInBounds i v = cs') : PfB rb ib xb t e cs' w (wr.setCell ⟨xb, i, none⟩ v) := by
  have hl := h.lt
  refine ⟨h.b.setCell (p := ⟨xb, i, none⟩) (by show rb ≤ xb; omega) _, ?_, ?_, ?_, hl⟩
  · rw [Below.heap_setCell _ _ _ _ (by show rb ≠ xb; omega)]; exact h.o
  · rw [Below.heap_setCell _ _ _ _ (by show ib ≠ xb; omega)]; exact h.i
  · have hk := h.x
    unfold World.setCell
    simp only [Array.getElem?_modify, hk]
    simp [← hz]
theorem PfB.i0 (h : PfB rb ib xb t e cs w wr) : wr.cell? ⟨ib, 0, none⟩ = some (.string t) := by rw [cell_block h.i]; rfl
theorem PfB.i1 (h : PfB rb ib xb t e cs w wr) : wr.cell? ⟨ib, 1, none⟩ = some (.int .i64 (e : Int)) := by rw [cell_block h.i]; rfl
theorem PfB.xc (h : PfB rb ib xb t e cs w wr) (i : Nat) : wr.cell? ⟨xb, i, none⟩ = cs[i]? := by rw [cell_block h.x]
end
theorem ownP_keepB {rk : IntKind} {T : TypeId} {base : Nat} {v : Value} {l : List (Int × Int)} {L : List Nat} {w w' : World} (h : OwnP rk T base v l w) (hk : KeepB L w w') (hv : ∀ q, v.ownBlock = some q → q ∉ L) : OwnP rk T base v l w' := by
  unfold OwnP at h ⊢
  refine ⟨h.1, ?_⟩
  rcases h.2 with h0 | ⟨g', c', cur, he, hbase, hgb, hc, hmx, hsz, ht⟩
  · exact .inl h0
  · exact .inr ⟨g', c', cur, he, hbase, (hk.block g' (Array.getElem?_eq_some_iff.1 hgb).1 (hv g' (by rw [he]; rfl))).trans hgb, hc, hmx, hsz, ht⟩
/-- and the rows, and what is begun -/
structure PfL (rb ib xb : Nat) (t : ByteArray) (st : Sta) (cs : Array Value) (v vb : Value) (rs : List Ro) (B : List (Int × Int)) (w wr : World) : Prop where
  p : PfB rb ib xb t st.2 cs w wr
  t : t.data.toList = st.1 ∧ (t.size : Int) ≤ 1000000
  g : Gath 75 [rb, ib, xb] (xb + 1) v rs wr
  q : OwnP .i64 93 (xb + 1) vb B wr
section
variable {rb ib xb : Nat} {t t' : ByteArray} {st st' : Sta} {cs cs' : Array Value} {v v' vb : Value} {rs : List Ro} {B : List (Int × Int)} {w wr w2 w' wB w5 : World} {r : Ro}
theorem PfL.ni (h : PfL rb ib xb t st cs v vb rs B w wr) : (∀ q, v.ownBlock = some q → q ∉ [rb, ib, xb]) ∧ ∀ q, vb.ownBlock = some q → q ∉ [rb, ib, xb] := by
  have hl := h.p.lt
  refine ⟨fun q hq hm => ?_, fun q hq hm => ?_⟩
  · have := (h.g.own q hq).1
    simp at hm
    omega
  · have := (h.q.ownBlock q hq).1
    simp at hm
    omega
theorem PfL.below (h : PfL rb ib xb t st cs v vb rs B w wr) (hb : Below wr.heap.size wr w') : PfL rb ib xb t st cs v vb rs B w w' := ⟨h.p.below hb, h.t, h.g.belowAll hb, h.q.belowAll hb⟩
theorem PfL.row (h : PfL rb ib xb t st cs v vb rs B w wr) (hb : Below (wr.heap.size + 1) (wr.alloc (.cells #[.slice none 0 0, .bool false] 75)) w2) (ht : t'.data.toList = st'.1 ∧ (t'.size : Int) ≤ 1000000) (x : Value) (y : Bool) :
    PfL rb ib xb t' st' cs v vb rs B w ((((w2.setCell ⟨ib, 0, none⟩ (.string t')).setCell ⟨ib, 1, none⟩ (.int .i64 (st'.2 : Int))).setCell ⟨wr.heap.size, 0, none⟩ x).setCell ⟨wr.heap.size, 1, none⟩ (.bool y)) ∧
    RoB 75 wr.heap.size x y ((((w2.setCell ⟨ib, 0, none⟩ (.string t')).setCell ⟨ib, 1, none⟩ (.int .i64 (st'.2 : Int))).setCell ⟨wr.heap.size, 0, none⟩ x).setCell ⟨wr.heap.size, 1, none⟩ (.bool y)) := by
  have hl := h.p.lt
  have hz := h.p.size
  have ha : Below wr.heap.size wr (wr.alloc (.cells #[.slice none 0 0, .bool false] 75)) := (Below.refl _ _).alloc (Nat.le_refl _) _
  have h2 : PfB rb ib xb t st.2 cs w w2 := (h.p.below ha).below (by rw [World.size_alloc]; exact hb)
  have hr0 : w2.heap[wr.heap.size]? = some (.cells #[.slice none 0 0, .bool false] 75 (0, 0)) := (hb.block _ (by omega)).trans (heap_alloc_new wr _)
  have hk : KeepB [rb, ib, xb] wr ((((w2.setCell ⟨ib, 0, none⟩ (.string t')).setCell ⟨ib, 1, none⟩ (.int .i64 (st'.2 : Int))).setCell ⟨wr.heap.size, 0, none⟩ x).setCell ⟨wr.heap.size, 1, none⟩ (.bool y)) := by
    refine KeepB.strike (q := wr.heap.size) ?_ (Nat.le_refl _)
    have k1 : KeepB [wr.heap.size, rb, ib, xb] wr w2 := (KeepB.of_below ha).trans (KeepB.of_below (by rw [World.size_alloc]; exact hb))
    exact (((k1.trans ((KeepB.setCell (q := ib) (o := 0) _).mono (by simp))).trans ((KeepB.setCell (q := ib) (o := 1) _).mono (by simp))).trans ((KeepB.setCell (q := wr.heap.size) (o := 0) _).mono (by simp))).trans ((KeepB.setCell (q := wr.heap.size) (o := 1) _).mono (by simp))
  refine ⟨⟨(h2.set t' st'.2).more ?_, ht, h.g.keptB hk h.ni.1, ownP_keepB h.q hk h.ni.2⟩, ?_⟩
  · exact ((Below.refl _ _).setCell (p := ⟨wr.heap.size, 0, none⟩) (by show xb + 1 ≤ wr.heap.size; omega) _).setCell (p := ⟨wr.heap.size, 1, none⟩) (by show xb + 1 ≤ wr.heap.size; omega) _
  · have hr1 : ((w2.setCell ⟨ib, 0, none⟩ (.string t')).setCell ⟨ib, 1, none⟩ (.int .i64 (st'.2 : Int))).heap[wr.heap.size]? = some (.cells #[.slice none 0 0, .bool false] 75 (0, 0)) := by
      rw [Below.heap_setCell _ _ _ _ (by show wr.heap.size ≠ ib; omega), Below.heap_setCell _ _ _ _ (by show wr.heap.size ≠ ib; omega)]
      exact hr0
    unfold RoB
    generalize (w2.setCell ⟨ib, 0, none⟩ (.string t')).setCell ⟨ib, 1, none⟩ (.int .i64 (st'.2 : Int)) = W at hr1
    unfold World.setCell
    simp only [Array.getElem?_modify, hr1]
    simp
theorem PfL.push (h : PfL rb ib xb t st cs v vb rs B w wB) (hg : Gath 75 [rb, ib, xb] (xb + 1) v' (rs ++ [r]) w5) (hgr : wB.grownBy w5 v.ownBlock) (hz : cs.setIfInBounds 6 v' = cs') : PfL rb ib xb t st cs' v' vb (rs ++ [r]) B w (w5.setCell ⟨xb, 6, none⟩ v') := by
  have hl := h.p.lt
  have hs := h.p.size
  have hb : Below (xb + 1) wB w5 := (Below.refl _ _).grown hgr (by omega) (fun q hq => (h.g.own q hq).1)
  have h5 := h.p.more hb
  have hk : KeepB [rb, ib, xb] w5 (w5.setCell ⟨xb, 6, none⟩ v') := (KeepB.setCell (q := xb) (o := 6) _).mono (by simp)
  have hx : PfB rb ib xb t st.2 cs' w (w5.setCell ⟨xb, 6, none⟩ v') := h5.cell 6 v' hz
  have hq5 : OwnP .i64 93 (xb + 1) vb B w5 := ownP_of h.q hgr (fun q hq => by
    obtain ⟨-, h2, cs2, h3⟩ := h.g.own q hq
    exact .inr ⟨cs2, 75, h3, by decide⟩)
  refine ⟨hx, h.t, hg.keptB hk (fun q hq hm => ?_), ownP_keepB hq5 hk h.ni.2⟩
  have := (hg.own q hq).1
  simp at hm
  omega
theorem PfL.snIn {s : Sn} {xa : Option Addr} {xn xc : Nat} {ya : Option Addr} {yn yc : Nat} (h : PfL rb ib xb t st cs (.slice xa xn xc) (.slice ya yn yc) s.R s.B w wr) : SnIn .i64 xa xn xc ya yn yc s wr := by
  obtain ⟨a, c, e, h3, -, h4⟩ := h.q.shape
  injection e with e1 e2 e3
  subst e1 e2 e3
  exact ⟨h.g.rowsL (fun p hp => by cases hp) (fun p hp => by cases hp), h3, h4⟩
theorem PfL.out {s : Sn} {xa : Option Addr} {xn xc : Nat} {ya : Option Addr} {yn yc : Nat} (h : PfL rb ib xb t st cs (.slice xa xn xc) (.slice ya yn yc) s.R s.B w wr) (hk : KeepB [rb] wr w') : SnIn .i64 xa xn xc ya yn yc s w' := by
  have hk' : KeepB [rb, ib, xb] wr w' := hk.mono (by simp)
  have hq := ownP_keepB h.q hk' h.ni.2
  have hg := h.g.keptB hk' h.ni.1
  obtain ⟨a, c, e, h3, -, h4⟩ := hq.shape
  injection e with e1 e2 e3
  subst e1 e2 e3
  exact ⟨hg.rowsL (fun p hp => by cases hp) (fun p hp => by cases hp), h3, h4⟩
end
end Go.Proofs.Ytjlljkdlgkociaa.K
