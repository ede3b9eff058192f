/- The contract of the document's ReadText, in a seat without datagrams. -/
import Derived.Test.YtjlljkdlgkociaaMerged25
import Derived.Test.YtjlljkdlgkociaaNPrs
import Derived.Test.YtjlljkdlgkociaaMerged17
import Derived.Test.YtjlljkdlgkociaaMerged10
import Derived.Test.YtjlljkdlgkociaaRows
import Derived.WalkKit
import Derived.WalkLawsBesides
import Derived.WalkSpells
import Derived.Outline
import Derived.Lib.Hide
import Derived.Below
import Derived.IntWalk
import Derived.OwnWalk
import Derived.Laws.Cover4
import Derived.Laws.BytesArg
import Derived.Test.YtjlljkdlgkociaaMerged16
import Derived.Test.YtjlljkdlgkociaaMerged7
import Derived.Test.YtjlljkdlgkociaaMerged12
import Derived.Test.YtjlljkdlgkociaaMerged0
namespace Go.Proofs.Ytjlljkdlgkociaa.K
open Go.RowKit Go.Proofs.Ytjlljkdlgkociaa.I

/-- The document's In, in a block of its own. -/
def IBlkN (p : Nat) (s : ByteArray) (e : Nat) (w : World) : Prop := w.heap[p]? = some (.cells #[.string s, .int .i64 e] 65 (0, 0))
theorem IBlkN.lt {p : Nat} {s : ByteArray} {e : Nat} {w : World} (h : IBlkN p s e w) : p < w.heap.size := (Array.getElem?_eq_some_iff.1 h).1
theorem IBlkN.c0 {p : Nat} {s : ByteArray} {e : Nat} {w : World} (h : IBlkN p s e w) : w.cell? ⟨p, 0, none⟩ = some (.string s) := by rw [Lib.cell_of_heap h]; rfl
theorem IBlkN.c1 {p : Nat} {s : ByteArray} {e : Nat} {w : World} (h : IBlkN p s e w) : w.cell? ⟨p, 1, none⟩ = some (.int .i64 e) := by rw [Lib.cell_of_heap h]; rfl
theorem IBlkN.fr {p : Nat} {s : ByteArray} {e : Nat} {w : World} (h : IBlkN p s e w) (o : Nat) : w.frozen? ⟨p, o, none⟩ = false := by simp [World.frozen?, show w.heap[p]? = _ from h]
theorem IBlkN.set {p : Nat} {s : ByteArray} {e : Nat} {w : World} (h : IBlkN p s e w) (s' : ByteArray) (e' : Nat) : IBlkN p s' e' ((w.setCell ⟨p, 0, none⟩ (.string s')).setCell ⟨p, 1, none⟩ (.int .i64 e')) := by
  have h' : w.heap[p]? = _ := h
  unfold IBlkN
  simp [World.setCell, Array.getElem?_modify, h']
theorem IBlkN.other {p g o : Nat} {s : ByteArray} {e : Nat} {w : World} (h : IBlkN p s e w) (hne : p ≠ g) (v : Value) : IBlkN p s e (w.setCell ⟨g, o, none⟩ v) := (Below.heap_setCell _ _ _ _ hne).trans h
theorem IBlkN.below {p : Nat} {s : ByteArray} {e : Nat} {w w' : World} (h : IBlkN p s e w) (hb : Below w.heap.size w w') : IBlkN p s e w' := (hb.block p h.lt).trans h
theorem IBlkN.grown {p : Nat} {s : ByteArray} {e : Nat} {w w' : World} {row : Option Nat} (h : IBlkN p s e w) (hg : w.grownBy w' row) (hne : some p ≠ row) : IBlkN p s e w' := (hg.block p h.lt hne).trans h
end Go.Proofs.Ytjlljkdlgkociaa.K

/- Rows of the document's that are gathered, one behind the other. -/
namespace Go.Proofs.Ytjlljkdlgkociaa.K
open Go.RowKit

theorem OwnC.from_ {rk : IntKind} {T : TypeId} {base : Nat} {x : Option Addr} {n y : Nat} {l : List Cel} {w : World} (h : OwnC rk T base (.slice x n y) l w) : ∀ b off, x = some ⟨b, off, none⟩ → base ≤ b := fun b off e => by
  obtain ⟨a', c', e1, -, h2, -⟩ := h.shape
  have e2 : x = a' := by injection e1
  exact (h2 b off (by rw [← e2]; exact e)).1
/-- the row's cells are not in the slice's own block -/
def Apart (v : Value) (u : Rv) : Prop := u.n ≠ 0 → ∀ b off, u.a = some ⟨b, off, none⟩ → v.ownBlock ≠ some b
theorem Apart.fresh {T : TypeId} {base m : Nat} {v : Value} {us : List Rv} {u : Rv} {w : World} (h : OwnV T base v us w) (hm : w.heap.size ≤ m) (hu : ∀ b off, u.a = some ⟨b, off, none⟩ → m ≤ b) : Apart v u := fun _ b off e e' => by
  have h1 := (h.ownBlock b e').2
  have h2 := hu b off e
  omega
theorem RowV.apart {rk : IntKind} {u : Rv} {r : Ro} {w w' : World} {row : Option Nat} (h : RowV rk u.val r w) (hg : w.grownBy w' row) (hne : u.n ≠ 0 → ∀ b off, u.a = some ⟨b, off, none⟩ → row ≠ some b) : RowV rk u.val r w' := by
  by_cases hn : u.n = 0
  · obtain ⟨a, c, e, hi, h3⟩ := h
    have e2 := Rv.val_inj (v := ⟨a, r.l.length, c, r.wrapped⟩) e
    subst e2
    exact ⟨a, c, rfl, ⟨rfl, .inl (List.eq_nil_of_length_eq_zero hn)⟩, h3⟩
  · exact h.moved hg.size (fun b off e hl => hg.block b hl (fun e' => hne hn b off e e'.symm))
/-- rows that were gathered, in memory of our own -/
structure Gath (T : TypeId) (L : List Nat) (base : Nat) (v : Value) (rs : List Ro) (w : World) : Prop where
  ex : ∃ us, OwnV T base v us w ∧ RowsV .i64 us rs w ∧ (∀ u ∈ us, Off L u) ∧ ∀ u ∈ us, Apart v u
theorem Gath.nil (T : TypeId) (L : List Nat) (base : Nat) (w : World) : Gath T L base (.slice none 0 0) [] w := ⟨[], OwnV.nil _ _ _, RowsV.nil _ _, (fun u hu => by cases hu), (fun u hu => by cases hu)⟩
theorem Gath.belowAll {T : TypeId} {L : List Nat} {base : Nat} {v : Value} {rs : List Ro} {w w' : World} (h : Gath T L base v rs w) (hb : Below w.heap.size w w') : Gath T L base v rs w' := by
  obtain ⟨us, h1, h2, h3, h4⟩ := h
  exact ⟨us, h1.belowAll hb, h2.belowAll hb, h3, h4⟩
theorem Gath.keptB {T : TypeId} {L : List Nat} {base : Nat} {v : Value} {rs : List Ro} {w w' : World} (h : Gath T L base v rs w) (hk : KeepB L w w') (hv : ∀ q, v.ownBlock = some q → q ∉ L) : Gath T L base v rs w' := by
  obtain ⟨us, h1, h2, h3, h4⟩ := h
  refine ⟨us, ?_, ⟨h2.1, fun i u r hu hr => (h2.2 i u r hu hr).keptB (h3 u (List.mem_of_getElem? hu)) hk⟩, h3, h4⟩
  refine ⟨h1.1, ?_⟩
  rcases h1.2 with h0 | ⟨g', c', cur, he, hbase, hgb, hc, hmx, hsz, ht⟩
  · exact .inl h0
  · exact .inr ⟨g', c', cur, he, hbase, (hk.block g' (Array.getElem?_eq_some_iff.1 hgb).1 (hv g' (by rw [he]; rfl))).trans hgb, hc, hmx, hsz, ht⟩
theorem Gath.own {T : TypeId} {L : List Nat} {base : Nat} {v : Value} {rs : List Ro} {w : World} (h : Gath T L base v rs w) : ∀ q, v.ownBlock = some q → base ≤ q ∧ q < w.heap.size ∧ ∃ cs, w.heap[q]? = some (.cells cs T (0, 0)) := fun q hq => by
  obtain ⟨us, h1, -⟩ := h.ex
  obtain ⟨cs, h2, h3, h4⟩ := U.own_type h1 hq
  exact ⟨h3, h4, cs, h2⟩
theorem Gath.shape {T : TypeId} {L : List Nat} {base : Nat} {v : Value} {rs : List Ro} {w : World} (h : Gath T L base v rs w) : ∃ a c, v = .slice a rs.length c ∧ (a = none → c = 0) ∧ ∀ b off, a = some ⟨b, off, none⟩ → v.ownBlock = some b ∧ off = 0 := by
  obtain ⟨us, h1, h2, -⟩ := h.ex
  rcases h1.2 with ⟨rfl, h0⟩ | ⟨g, cap, cur, rfl, _⟩
  · exact ⟨none, 0, by rw [← h2.1, h0], (fun _ => rfl), (fun _ _ e => by cases e)⟩
  · exact ⟨some ⟨g, 0, none⟩, cap, by rw [h2.1], (fun e => by cases e), (fun b off e => by cases e; exact ⟨rfl, rfl⟩)⟩
theorem Gath.rowsL {T : TypeId} {L L' : List Nat} {base : Nat} {a : Option Addr} {n c : Nat} {rs : List Ro} {w : World} (h : Gath T L base (.slice a n c) rs w) (hs : ∀ p ∈ L', p ∈ L) (hL : ∀ p ∈ L', p < base) : RowsL .i64 L' a n c rs w := by
  obtain ⟨us, h1, h2, h3, -⟩ := h.ex
  obtain ⟨a', c', e, -⟩ := h1.shape
  cases e
  exact h1.rowsL h2 (fun u hu hn b off e hb => h3 u hu hn b off e (hs b hb)) hL
theorem Gath.weaken {T : TypeId} {L : List Nat} {base base' : Nat} {v : Value} {rs : List Ro} {w : World} (h : Gath T L base v rs w) (hb : base' ≤ base) : Gath T L base' v rs w := by
  obtain ⟨us, h1, h2, h3, h4⟩ := h
  exact ⟨us, h1.weaken hb, h2, h3, h4⟩
end Go.Proofs.Ytjlljkdlgkociaa.K

/- The contract of the document's Parse (layer 16). -/
namespace Go.Proofs.Ytjlljkdlgkociaa.K
open Go.RowKit Go.Proofs.Ytjlljkdlgkociaa.I

/-- its blocks: the result, what is read, and the snap -/
structure PfB (rb ib xb : Nat) (t : ByteArray) (e : Nat) (cs : Array Value) (w wr : World) : Prop where
  b : Below rb w wr
  o : wr.heap[rb]? = some (.cells #[.int .i64 0, .int .i64 0, .int .i64 0, .int .i64 0, .int .i64 0, .string ⟨#[]⟩, .slice none 0 0, .int .i64 0, .int .i64 0, .slice none 0 0] 35 (0, 0))
  i : wr.heap[ib]? = some (.cells #[.string t, .int .i64 (e : Int)] 65 (0, 0))
  x : wr.heap[xb]? = some (.cells cs 35 (0, 0))
  lt : rb < ib ∧ ib < xb
section
variable {rb ib xb : Nat} {t t' : ByteArray} {e : Nat} {cs cs' : Array Value} {w wr w' : World}
theorem PfB.size (h : PfB rb ib xb t e cs w wr) : xb + 1 ≤ wr.heap.size := (Array.getElem?_eq_some_iff.1 h.x).1
theorem PfB.more (h : PfB rb ib xb t e cs w wr) (hb : Below (xb + 1) wr w') : PfB rb ib xb t e cs w w' :=
  have hl := h.lt
  ⟨h.b.trans (hb.mono (by omega)), (hb.block rb (by omega)).trans h.o, (hb.block ib (by omega)).trans h.i, (hb.block xb (by omega)).trans h.x, h.lt⟩
theorem PfB.below (h : PfB rb ib xb t e cs w wr) (hb : Below wr.heap.size wr w') : PfB rb ib xb t e cs w w' := h.more (hb.mono h.size)
theorem PfB.set (h : PfB rb ib xb t e cs w wr) (t' : ByteArray) (e' : Nat) : PfB rb ib xb t' e' cs w ((wr.setCell ⟨ib, 0, none⟩ (.string t')).setCell ⟨ib, 1, none⟩ (.int .i64 (e' : Int))) := by
  have hl := h.lt
  refine ⟨(h.b.setCell (p := ⟨ib, 0, none⟩) (by show rb ≤ ib; omega) _).setCell (p := ⟨ib, 1, none⟩) (by show rb ≤ ib; omega) _, ?_, by simp [World.setCell, Array.getElem?_modify, h.i], ?_, hl⟩
  · rw [Below.heap_setCell _ _ _ _ (by show rb ≠ ib; omega), Below.heap_setCell _ _ _ _ (by show rb ≠ ib; omega)]
    exact h.o
  · rw [Below.heap_setCell _ _ _ _ (by show xb ≠ ib; omega), Below.heap_setCell _ _ _ _ (by show xb ≠ ib; omega)]
    exact h.x
theorem PfB.cell (h : PfB rb ib xb t e cs w wr) (i : Nat) (v : Value) (hz : cs.setIfInBounds i v = cs') : PfB rb ib xb t e cs' w (wr.setCell ⟨xb, i, none⟩ v) := by
  have hl := h.lt
  refine ⟨h.b.setCell (p := ⟨xb, i, none⟩) (by show rb ≤ xb; omega) _, ?_, ?_, ?_, hl⟩
  · rw [Below.heap_setCell _ _ _ _ (by show rb ≠ xb; omega)]; exact h.o
  · rw [Below.heap_setCell _ _ _ _ (by show ib ≠ xb; omega)]; exact h.i
  · have hk := h.x
    unfold World.setCell
    simp only [Array.getElem?_modify, hk]
    simp [← hz]
theorem PfB.i0 (h : PfB rb ib xb t e cs w wr) : wr.cell? ⟨ib, 0, none⟩ = some (.string t) := by rw [cell_block h.i]; rfl
theorem PfB.i1 (h : PfB rb ib xb t e cs w wr) : wr.cell? ⟨ib, 1, none⟩ = some (.int .i64 (e : Int)) := by rw [cell_block h.i]; rfl
theorem PfB.xc (h : PfB rb ib xb t e cs w wr) (i : Nat) : wr.cell? ⟨xb, i, none⟩ = cs[i]? := by rw [cell_block h.x]
end
theorem ownP_keepB {rk : IntKind} {T : TypeId} {base : Nat} {v : Value} {l : List (Int × Int)} {L : List Nat} {w w' : World} (h : OwnP rk T base v l w) (hk : KeepB L w w') (hv : ∀ q, v.ownBlock = some q → q ∉ L) : OwnP rk T base v l w' := by
  unfold OwnP at h ⊢
  refine ⟨h.1, ?_⟩
  rcases h.2 with h0 | ⟨g', c', cur, he, hbase, hgb, hc, hmx, hsz, ht⟩
  · exact .inl h0
  · exact .inr ⟨g', c', cur, he, hbase, (hk.block g' (Array.getElem?_eq_some_iff.1 hgb).1 (hv g' (by rw [he]; rfl))).trans hgb, hc, hmx, hsz, ht⟩
/-- and the rows, and what is begun -/
structure PfL (rb ib xb : Nat) (t : ByteArray) (st : Sta) (cs : Array Value) (v vb : Value) (rs : List Ro) (B : List (Int × Int)) (w wr : World) : Prop where
  p : PfB rb ib xb t st.2 cs w wr
  t : t.data.toList = st.1 ∧ (t.size : Int) ≤ 1000000
  g : Gath 75 [rb, ib, xb] (xb + 1) v rs wr
  q : OwnP .i64 93 (xb + 1) vb B wr
section
variable {rb ib xb : Nat} {t t' : ByteArray} {st st' : Sta} {cs cs' : Array Value} {v v' vb : Value} {rs : List Ro} {B : List (Int × Int)} {w wr w2 w' wB w5 : World} {r : Ro}
theorem PfL.ni (h : PfL rb ib xb t st cs v vb rs B w wr) : (∀ q, v.ownBlock = some q → q ∉ [rb, ib, xb]) ∧ ∀ q, vb.ownBlock = some q → q ∉ [rb, ib, xb] := by
  have hl := h.p.lt
  refine ⟨fun q hq hm => ?_, fun q hq hm => ?_⟩
  · have := (h.g.own q hq).1
    simp at hm
    omega
  · have := (h.q.ownBlock q hq).1
    simp at hm
    omega
theorem PfL.below (h : PfL rb ib xb t st cs v vb rs B w wr) (hb : Below wr.heap.size wr w') : PfL rb ib xb t st cs v vb rs B w w' := ⟨h.p.below hb, h.t, h.g.belowAll hb, h.q.belowAll hb⟩
theorem PfL.row (h : PfL rb ib xb t st cs v vb rs B w wr) (hb : Below (wr.heap.size + 1) (wr.alloc (.cells #[.slice none 0 0, .bool false] 75)) w2) (ht : t'.data.toList = st'.1 ∧ (t'.size : Int) ≤ 1000000) (x : Value) (y : Bool) :
    PfL rb ib xb t' st' cs v vb rs B w ((((w2.setCell ⟨ib, 0, none⟩ (.string t')).setCell ⟨ib, 1, none⟩ (.int .i64 (st'.2 : Int))).setCell ⟨wr.heap.size, 0, none⟩ x).setCell ⟨wr.heap.size, 1, none⟩ (.bool y)) ∧
    RoB 75 wr.heap.size x y ((((w2.setCell ⟨ib, 0, none⟩ (.string t')).setCell ⟨ib, 1, none⟩ (.int .i64 (st'.2 : Int))).setCell ⟨wr.heap.size, 0, none⟩ x).setCell ⟨wr.heap.size, 1, none⟩ (.bool y)) := by
  have hl := h.p.lt
  have hz := h.p.size
  have ha : Below wr.heap.size wr (wr.alloc (.cells #[.slice none 0 0, .bool false] 75)) := (Below.refl _ _).alloc (Nat.le_refl _) _
  have h2 : PfB rb ib xb t st.2 cs w w2 := (h.p.below ha).below (by rw [World.size_alloc]; exact hb)
  have hr0 : w2.heap[wr.heap.size]? = some (.cells #[.slice none 0 0, .bool false] 75 (0, 0)) := (hb.block _ (by omega)).trans (heap_alloc_new wr _)
  have hk : KeepB [rb, ib, xb] wr ((((w2.setCell ⟨ib, 0, none⟩ (.string t')).setCell ⟨ib, 1, none⟩ (.int .i64 (st'.2 : Int))).setCell ⟨wr.heap.size, 0, none⟩ x).setCell ⟨wr.heap.size, 1, none⟩ (.bool y)) := by
    refine KeepB.strike (q := wr.heap.size) ?_ (Nat.le_refl _)
    have k1 : KeepB [wr.heap.size, rb, ib, xb] wr w2 := (KeepB.of_below ha).trans (KeepB.of_below (by rw [World.size_alloc]; exact hb))
    exact (((k1.trans ((KeepB.setCell (q := ib) (o := 0) _).mono (by simp))).trans ((KeepB.setCell (q := ib) (o := 1) _).mono (by simp))).trans ((KeepB.setCell (q := wr.heap.size) (o := 0) _).mono (by simp))).trans ((KeepB.setCell (q := wr.heap.size) (o := 1) _).mono (by simp))
  refine ⟨⟨(h2.set t' st'.2).more ?_, ht, h.g.keptB hk h.ni.1, ownP_keepB h.q hk h.ni.2⟩, ?_⟩
  · exact ((Below.refl _ _).setCell (p := ⟨wr.heap.size, 0, none⟩) (by show xb + 1 ≤ wr.heap.size; omega) _).setCell (p := ⟨wr.heap.size, 1, none⟩) (by show xb + 1 ≤ wr.heap.size; omega) _
  · have hr1 : ((w2.setCell ⟨ib, 0, none⟩ (.string t')).setCell ⟨ib, 1, none⟩ (.int .i64 (st'.2 : Int))).heap[wr.heap.size]? = some (.cells #[.slice none 0 0, .bool false] 75 (0, 0)) := by
      rw [Below.heap_setCell _ _ _ _ (by show wr.heap.size ≠ ib; omega), Below.heap_setCell _ _ _ _ (by show wr.heap.size ≠ ib; omega)]
      exact hr0
    unfold RoB
    generalize (w2.setCell ⟨ib, 0, none⟩ (.string t')).setCell ⟨ib, 1, none⟩ (.int .i64 (st'.2 : Int)) = W at hr1
    unfold World.setCell
    simp only [Array.getElem?_modify, hr1]
    simp
theorem PfL.push (h : PfL rb ib xb t st cs v vb rs B w wB) (hg : Gath 75 [rb, ib, xb] (xb + 1) v' (rs ++ [r]) w5) (hgr : wB.grownBy w5 v.ownBlock) (hz : cs.setIfInBounds 6 v' = cs') : PfL rb ib xb t st cs' v' vb (rs ++ [r]) B w (w5.setCell ⟨xb, 6, none⟩ v') := by
  have hl := h.p.lt
  have hs := h.p.size
  have hb : Below (xb + 1) wB w5 := (Below.refl _ _).grown hgr (by omega) (fun q hq => (h.g.own q hq).1)
  have h5 := h.p.more hb
  have hk : KeepB [rb, ib, xb] w5 (w5.setCell ⟨xb, 6, none⟩ v') := (KeepB.setCell (q := xb) (o := 6) _).mono (by simp)
  have hx : PfB rb ib xb t st.2 cs' w (w5.setCell ⟨xb, 6, none⟩ v') := h5.cell 6 v' hz
  have hq5 : OwnP .i64 93 (xb + 1) vb B w5 := ownP_of h.q hgr (fun q hq => by
    obtain ⟨-, h2, cs2, h3⟩ := h.g.own q hq
    exact .inr ⟨cs2, 75, h3, by decide⟩)
  refine ⟨hx, h.t, hg.keptB hk (fun q hq hm => ?_), ownP_keepB hq5 hk h.ni.2⟩
  have := (hg.own q hq).1
  simp at hm
  omega
theorem PfL.snIn {s : Sn} {xa : Option Addr} {xn xc : Nat} {ya : Option Addr} {yn yc : Nat} (h : PfL rb ib xb t st cs (.slice xa xn xc) (.slice ya yn yc) s.R s.B w wr) : SnIn .i64 xa xn xc ya yn yc s wr := by
  obtain ⟨a, c, e, h3, -, h4⟩ := h.q.shape
  injection e with e1 e2 e3
  subst e1 e2 e3
  exact ⟨h.g.rowsL (fun p hp => by cases hp) (fun p hp => by cases hp), h3, h4⟩
theorem PfL.out {s : Sn} {xa : Option Addr} {xn xc : Nat} {ya : Option Addr} {yn yc : Nat} (h : PfL rb ib xb t st cs (.slice xa xn xc) (.slice ya yn yc) s.R s.B w wr) (hk : KeepB [rb] wr w') : SnIn .i64 xa xn xc ya yn yc s w' := by
  have hk' : KeepB [rb, ib, xb] wr w' := hk.mono (by simp)
  have hq := ownP_keepB h.q hk' h.ni.2
  have hg := h.g.keptB hk' h.ni.1
  obtain ⟨a, c, e, h3, -, h4⟩ := hq.shape
  injection e with e1 e2 e3
  subst e1 e2 e3
  exact ⟨hg.rowsL (fun p hp => by cases hp) (fun p hp => by cases hp), h3, h4⟩
end
end Go.Proofs.Ytjlljkdlgkociaa.K

/- Plain facts on runes out of bytes: one byte's step, runs of bytes, what is encoded is decoded, what is told is valid. No Go here. -/
namespace Go.Proofs.Ytjlljkdlgkociaa.Y

/-- first bytes: from, to, mask, need, low, high -/
abbrev Row := Nat × Nat × Nat × Nat × Nat × Nat
def tab : List Row := [(0, 127, 127, 0, 0, 0), (194, 223, 31, 1, 128, 191), (224, 224, 15, 2, 160, 191), (225, 236, 15, 2, 128, 191), (237, 237, 15, 2, 128, 159), (238, 239, 15, 2, 128, 191), (240, 240, 7, 3, 144, 191), (241, 243, 7, 3, 128, 191), (244, 244, 7, 3, 128, 143)]
def look : List Row → Nat → Option Row
  | [], _ => none
  | x :: t, b => if x.1 ≤ b ∧ b ≤ x.2.1 then some x else look t b
def leadS (b : Nat) : Option Row := look tab b
def zeroRow : Row := (0, 0, 0, 0, 0, 0)
/-- what the rest of the table says -/
def rest (k : Nat) (b : Nat) : Option Row := look (tab.drop k) b
theorem rest_end (b : Nat) : rest 9 b = none := rfl
theorem rest_step (k : Nat) (hk : k < 9) (b : Nat) : rest k b = if (tab.getD k zeroRow).1 ≤ b ∧ b ≤ (tab.getD k zeroRow).2.1 then some (tab.getD k zeroRow) else rest (k + 1) b := by
  have hk' : k < tab.length := hk
  have h : tab.drop k = tab.getD k zeroRow :: tab.drop (k + 1) := by
    rw [List.drop_eq_getElem_cons hk']
    simp [List.getD_eq_getElem?_getD, hk']
  unfold rest
  rw [h]
  rfl
def bad : Nat := 65533

/-- a sequence that isn't whole: its first byte, its bits so far, how many bytes it needs -/
structure St where
  lead : Nat
  rune : Nat
  need : Nat
deriving DecidableEq
def St.zero : St := ⟨0, 0, 0⟩
def mayS (d : St) (b : Nat) : Bool := match leadS d.lead with
  | some x => if d.need = x.2.2.2.1 then decide (x.2.2.2.2.1 ≤ b ∧ b ≤ x.2.2.2.2.2) else decide (128 ≤ b ∧ b ≤ 191)
  | none => decide (128 ≤ b ∧ b ≤ 191)
def beginS (b : Nat) : St × List Nat := match leadS b with
  | none => (.zero, [bad])
  | some x => if x.2.2.2.1 = 0 then (.zero, [b % (x.2.2.1 + 1)]) else (⟨b, b % (x.2.2.1 + 1), x.2.2.2.1⟩, [])
def goS (d : St) (b : Nat) : St × List Nat := if d.need = 1 then (.zero, [d.rune * 64 + b % 64]) else (⟨d.lead, d.rune * 64 + b % 64, d.need - 1⟩, [])
def stepS (d : St) (b : Nat) : St × List Nat :=
  if d.need = 0 then beginS b
  else if mayS d b then goS d b
  else ((beginS b).1, bad :: (beginS b).2)
def runS : St → List UInt8 → St × List Nat
  | d, [] => (d, [])
  | d, b :: l => ((runS (stepS d b.toNat).1 l).1, (stepS d b.toNat).2 ++ (runS (stepS d b.toNat).1 l).2)
def endS (d : St) : List Nat := if d.need = 0 then [] else [bad]
/-! ### first bytes, as the document says -/
def needS (b : Nat) : Nat × Nat × Nat :=
  if 194 ≤ b ∧ b ≤ 223 then (1, 128, 191)
  else if b = 224 then (2, 160, 191)
  else if b = 237 then (2, 128, 159)
  else if 225 ≤ b ∧ b ≤ 239 then (2, 128, 191)
  else if b = 240 then (3, 144, 191)
  else if b = 244 then (3, 128, 143)
  else if 241 ≤ b ∧ b ≤ 243 then (3, 128, 191)
  else (0, 0, 0)
/-- the modulus of a first byte's bits -/
def modS (n : Nat) : Nat := [0, 32, 16, 8].getD n 0
/-! ### what a decoder may be -/
/-- all runes that it may still become are some -/
def RuneOk (r n : Nat) : Prop := (r + 1) * 64 ^ n ≤ 55296 ∨ (57344 ≤ r * 64 ^ n ∧ (r + 1) * 64 ^ n ≤ 1114112)
def Open (d : St) : Prop := 128 ≤ d.lead ∧ d.lead < 256 ∧ 1 ≤ d.need ∧ d.need ≤ (needS d.lead).1 ∧ (needS d.lead).1 ≤ 3 ∧ ((d.need = (needS d.lead).1 ∧ d.rune = d.lead % modS (needS d.lead).1) ∨ (d.need < (needS d.lead).1 ∧ RuneOk d.rune d.need))
def validN (r : Nat) : Prop := r < 55296 ∨ (57344 ≤ r ∧ r < 1114112)
instance (r : Nat) : Decidable (validN r) := by unfold validN; infer_instance
/-! ### what is encoded is decoded -/
/-! ### all bytes at once -/
end Go.Proofs.Ytjlljkdlgkociaa.Y

/- What runes are as bytes; the contract of the document's own Encode, where glyph is wanting. -/
namespace Go.Proofs.Ytjlljkdlgkociaa.Y
open Go.RowKit

end Go.Proofs.Ytjlljkdlgkociaa.Y

/- The program's grid: the text of each row. -/
namespace Go.Proofs.Ytjlljkdlgkociaa.K
open Go.RowKit Go.Shelf

attribute [local go_sem] Oper.semAt_some

/-- a row's runes, and its text -/
def runesR (r : Ro) : List Int := (glyphs r).map Prod.fst
def txt (r : Ro) : ByteArray := runesBytes (runesR r)
/-- texts that come back -/
structure StrsIn (a : Option Addr) (n c : Nat) (l : List ByteArray) (w : World) : Prop where
  len : n = l.length
  fit : n ≤ c
  top : (c : Int) ≤ 9223372036854775807
  at_ : l = [] ∨ ∃ b off, a = some ⟨b, off, none⟩ ∧ b < w.heap.size ∧ ∀ i s, l[i]? = some s → w.cell? ⟨b, off + i, none⟩ = some (.string s)
theorem StrsIn.belowAll {a : Option Addr} {n c : Nat} {l : List ByteArray} {w w' : World} (h : StrsIn a n c l w) (hb : Below w.heap.size w w') : StrsIn a n c l w' := by
  refine ⟨h.len, h.fit, h.top, h.at_.imp id ?_⟩
  rintro ⟨b, off, ha, hl, hi⟩
  exact ⟨b, off, ha, Nat.lt_of_lt_of_le hl hb.size, fun i g hg => (hb.cell (p := ⟨b, off + i, none⟩) hl).trans (hi i g hg)⟩
/-- between two rounds -/
structure TxI (base : Nat) (w : World) (rs : List Ro) (V : World) : Prop where
  ex : ∃ v, Boxed V base 131 v ∧ V.ownsRow (base + 2) 9 1 v rs.length ((rs.map txt).map Value.string)
  b : Below base w V
theorem ownsRow_grown {T : TypeId} {size base n : Nat} {v : Value} {xs : List Value} {V V' : World} {row : Option Nat} (h : V.ownsRow base T size v n xs) (hg : V.grownBy V' row) (hr : ∀ r, row = some r → ∃ o : Obj, V.heap[r]? = some o ∧ o.isCells = false) : V'.ownsRow base T size v n xs := by
  refine h.kept hg ?_
  cases hv : v.ownBlock with
  | none => exact .inl rfl
  | some q =>
    right
    intro e
    obtain ⟨o, ho, hc⟩ := hr q e.symm
    exact absurd (row_cellsV h hv ho) (by rw [hc]; decide)
theorem TxI.grown {base : Nat} {w : World} {rs : List Ro} {V V' : World} {row : Option Nat} (h : TxI base w rs V) (hm : base ≤ V.heap.size) (hg : V.grownBy V' row) (hr : ∀ r, row = some r → base ≤ r ∧ ∃ o : Obj, V.heap[r]? = some o ∧ o.isCells = false) : TxI base w rs V' := by
  obtain ⟨⟨v, h1, h2⟩, h3⟩ := h
  exact ⟨⟨v, boxed_grown h1 hg (fun r e => (hr r e).2), ownsRow_grown h2 hg (fun r e => (hr r e).2)⟩, h3.grown hg hm (fun r e => (hr r e).1)⟩

theorem KeepL.grown {L : List Nat} {A B : World} {row : Option Nat} (hg : A.grownBy B row) (hr : ∀ r, row = some r → r ∉ L) : KeepL L A B := ⟨hg.size, fun b hb hl => hg.block b hl (fun e => hr b e.symm hb)⟩
theorem KeepL.setCell {L : List Nat} {A : World} {B o : Nat} (h : B ∉ L) (v : Value) : KeepL L A (A.setCell ⟨B, o, none⟩ v) := ⟨(KeepsWalks.setCell A _ v).size, fun b hb _ => Below.heap_setCell _ _ _ b (fun e => h (by rw [show B = b from e.symm]; exact hb))⟩
end Go.Proofs.Ytjlljkdlgkociaa.K

/- The document's grid: New, Resize. -/
namespace Go.Proofs.Ytjlljkdlgkociaa.K
open Go.RowKit

end Go.Proofs.Ytjlljkdlgkociaa.K

/- The document's grid: Resize. -/
namespace Go.Proofs.Ytjlljkdlgkociaa.K
open Go.RowKit

theorem RowsL.firstN {rk : IntKind} {L : List Nat} {a : Option Addr} {n c : Nat} {rs : List Ro} {w : World} (h : RowsL rk L a n c rs w) (k : Nat) (hk : k ≤ n) : RowsL rk L a k c (rs.take k) w := by
  obtain ⟨vs, h1, h2, h3⟩ := h.ex
  refine ⟨⟨vs.take k, ⟨by rw [List.length_take, ← h1.len]; omega, Nat.le_trans hk h1.fit, h1.top, ?_⟩, h2.take k, fun u hu => h3 u (List.mem_of_mem_take hu)⟩, h.nil, fun hn => h.off (by omega)⟩
  rcases h1.at_ with h4 | ⟨b, off, ha, hb, hi⟩
  · left; rw [h4]; simp
  · refine .inr ⟨b, off, ha, hb, fun i u hu => ?_⟩
    rw [List.getElem?_take] at hu
    split at hu
    · exact hi i u hu
    · cases hu
end Go.Proofs.Ytjlljkdlgkociaa.K

/- The document's grid: Set. -/
namespace Go.Proofs.Ytjlljkdlgkociaa.K
open Go.RowKit

end Go.Proofs.Ytjlljkdlgkociaa.K

/- The document's grid: what Move makes of rows. -/
namespace Go.Proofs.Ytjlljkdlgkociaa.K
open Go.RowKit

theorem RowsV.reverse {rk : IntKind} {us : List Rv} {rs : List Ro} {w : World} (h : RowsV rk us rs w) : RowsV rk us.reverse rs.reverse w := by
  refine ⟨by rw [List.length_reverse, List.length_reverse, h.1], fun i u r hu hr => ?_⟩
  have hi := (List.getElem?_eq_some_iff.1 hu).1
  rw [List.length_reverse] at hi
  rw [List.getElem?_reverse hi] at hu
  rw [List.getElem?_reverse (by rw [← h.1]; exact hi), ← h.1] at hr
  exact h.2 _ u r hu hr
theorem OwnV.at {T : TypeId} {base q n c5 : Nat} {us : List Rv} {w : World} (h : OwnV T base (.slice (some ⟨q, 0, none⟩) n c5) us w) (hn : n = us.length) {i : Nat} {u : Rv} (hu : us[i]? = some u) : w.cell? ⟨q, i * 2, none⟩ = some (.slice u.a u.n u.c) ∧ w.cell? ⟨q, i * 2 + 1, none⟩ = some (.bool u.b) := by
  subst hn
  have hi := (List.getElem?_eq_some_iff.1 hu).1
  have hc : ∀ j, j < 2 → w.cell? ⟨q, i * 2 + j, none⟩ = (vCells u)[j]? := fun j hj => by
    rw [World.ownsRow.cellAt h (i * 2 + j) (by omega), flatV_get us i j u hu hj]
  exact ⟨hc 0 (by decide), hc 1 (by decide)⟩
end Go.Proofs.Ytjlljkdlgkociaa.K

/- The contract of the document's Glyphs. -/
namespace Go.Proofs.Ytjlljkdlgkociaa.K
open Go.RowKit

end Go.Proofs.Ytjlljkdlgkociaa.K
