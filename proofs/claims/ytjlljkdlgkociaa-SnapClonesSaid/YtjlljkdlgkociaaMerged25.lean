/- The contract of the document's Empty: is a snap the empty one? -/
import Derived.Test.YtjlljkdlgkociaaMerged18
import Derived.Test.YtjlljkdlgkociaaMerged15
import Derived.Test.YtjlljkdlgkociaaMerged3
import Derived.Lib.QuietBelow
import Derived.BigQuiet
import Derived.Laws.ResultCell
import Derived.Test.YtjlljkdlgkociaaMerged1
import Derived.Test.YtjlljkdlgkociaaMerged12
import Derived.Test.YtjlljkdlgkociaaNRdRow
import Derived.Test.YtjlljkdlgkociaaMerged10
namespace Go.Proofs.Ytjlljkdlgkociaa.K
open Go.RowKit Go.Proofs.Ytjlljkdlgkociaa.I

end Go.Proofs.Ytjlljkdlgkociaa.K

/- The contract of the document's May: may a snap be? -/
namespace Go.Proofs.Ytjlljkdlgkociaa.K
open Go.RowKit Go.Proofs.Ytjlljkdlgkociaa.I

end Go.Proofs.Ytjlljkdlgkociaa.K

/- The contracts of the document's own reader: Read, Raw, ReadText, End. -/
namespace Go.Proofs.Ytjlljkdlgkociaa.I
open Go.RowKit

/-- The reader's struct. -/
def inV (s : ByteArray) (e : Nat) : Value := .agg #[.string s, .int .i64 e]
end Go.Proofs.Ytjlljkdlgkociaa.I

/- The contract of the document's Read of a line. -/
namespace Go.Proofs.Ytjlljkdlgkociaa.K
open Go.RowKit Go.Proofs.Ytjlljkdlgkociaa.I

structure RdI (rb : Nat) (s : ByteArray) (e : Nat) (w wr : World) : Prop where
  below : Below rb w wr
  i : wr.heap[rb]? = some (.cells #[.string s, .int .i64 (e : Int)] 65 (0, 0))
  o : wr.heap[rb + 1]? = some (.cells #[.string ⟨#[]⟩, .int .i64 0] 65 (0, 0))
section
variable {rb : Nat} {s s' : ByteArray} {e e' : Nat} {w wr w' : World}
theorem RdI.size (h : RdI rb s e w wr) : rb + 2 ≤ wr.heap.size := (Array.getElem?_eq_some_iff.1 h.o).1
theorem RdI.more (h : RdI rb s e w wr) (hb : Below (rb + 2) wr w') : RdI rb s e w w' :=
  ⟨h.below.trans (hb.mono (by omega)), (hb.block rb (by omega)).trans h.i, (hb.block (rb + 1) (by omega)).trans h.o⟩
theorem RdI.set (h : RdI rb s e w wr) (s' : ByteArray) (e' : Nat) : RdI rb s' e' w ((wr.setCell ⟨rb, 0, none⟩ (.string s')).setCell ⟨rb, 1, none⟩ (.int .i64 (e' : Int))) := by
  refine ⟨(h.below.setCell (p := ⟨rb, 0, none⟩) (Nat.le_refl _) _).setCell (p := ⟨rb, 1, none⟩) (Nat.le_refl _) _, by simp [World.setCell, Array.getElem?_modify, h.i], ?_⟩
  rw [Below.heap_setCell _ _ _ _ (by show rb + 1 ≠ rb; omega), Below.heap_setCell _ _ _ _ (by show rb + 1 ≠ rb; omega)]
  exact h.o
theorem RdI.outB (h : RdI rb s e w wr) (v v' : Value) : Below rb w ((wr.setCell ⟨rb + 1, 0, none⟩ v).setCell ⟨rb + 1, 1, none⟩ v') := (h.below.setCell (p := ⟨rb + 1, 0, none⟩) (by show rb ≤ rb + 1; omega) _).setCell (p := ⟨rb + 1, 1, none⟩) (by show rb ≤ rb + 1; omega) _
end
theorem lineT : PairT .i64 33 93 16 := ⟨Try.underlying33, by kernel_rfl, by decide⟩
end Go.Proofs.Ytjlljkdlgkociaa.K

/- The contract of the document's limited: a number, at most so great. -/
namespace Go.Proofs.Ytjlljkdlgkociaa.K
open Go.RowKit Go.Proofs.Ytjlljkdlgkociaa.I

end Go.Proofs.Ytjlljkdlgkociaa.K

/- The contract of the document's ReadRow. -/
namespace Go.Proofs.Ytjlljkdlgkociaa.K
open Go.RowKit Go.Proofs.Ytjlljkdlgkociaa.I

/-- its blocks: what is read, and its two results -/
structure RfR (rb : Nat) (s : ByteArray) (e : Nat) (w wr : World) : Prop where
  b : Below rb w wr
  i : wr.heap[rb]? = some (.cells #[.string s, .int .i64 (e : Int)] 65 (0, 0))
  o : wr.heap[rb + 1]? = some (.cells #[.string ⟨#[]⟩, .int .i64 0] 65 (0, 0))
  r : wr.heap[rb + 2]? = some (.cells #[.slice none 0 0, .bool false] 75 (0, 0))
section
variable {rb : Nat} {s s' : ByteArray} {e e' : Nat} {w wr w' : World}
theorem RfR.size (h : RfR rb s e w wr) : rb + 3 ≤ wr.heap.size := (Array.getElem?_eq_some_iff.1 h.r).1
theorem RfR.more (h : RfR rb s e w wr) (hb : Below (rb + 3) wr w') : RfR rb s e w w' :=
  ⟨h.b.trans (hb.mono (by omega)), (hb.block rb (by omega)).trans h.i, (hb.block (rb + 1) (by omega)).trans h.o, (hb.block (rb + 2) (by omega)).trans h.r⟩
theorem RfR.below (h : RfR rb s e w wr) (hb : Below wr.heap.size wr w') : RfR rb s e w w' := h.more (hb.mono h.size)
theorem RfR.set (h : RfR rb s e w wr) (s' : ByteArray) (e' : Nat) : RfR rb s' e' w ((wr.setCell ⟨rb, 0, none⟩ (.string s')).setCell ⟨rb, 1, none⟩ (.int .i64 (e' : Int))) := by
  refine ⟨(h.b.setCell (p := ⟨rb, 0, none⟩) (Nat.le_refl _) _).setCell (p := ⟨rb, 1, none⟩) (Nat.le_refl _) _, by simp [World.setCell, Array.getElem?_modify, h.i], ?_, ?_⟩
  · rw [Below.heap_setCell _ _ _ _ (by show rb + 1 ≠ rb; omega), Below.heap_setCell _ _ _ _ (by show rb + 1 ≠ rb; omega)]
    exact h.o
  · rw [Below.heap_setCell _ _ _ _ (by show rb + 2 ≠ rb; omega), Below.heap_setCell _ _ _ _ (by show rb + 2 ≠ rb; omega)]
    exact h.r
theorem RfR.i0 (h : RfR rb s e w wr) : wr.cell? ⟨rb, 0, none⟩ = some (.string s) := by rw [cell_block h.i]; rfl
theorem RfR.i1 (h : RfR rb s e w wr) : wr.cell? ⟨rb, 1, none⟩ = some (.int .i64 (e : Int)) := by rw [cell_block h.i]; rfl
theorem RfR.outB (h : RfR rb s e w wr) (v0 v1 v2 v3 : Value) : Below rb w ((((wr.setCell ⟨rb + 1, 0, none⟩ v0).setCell ⟨rb + 1, 1, none⟩ v1).setCell ⟨rb + 2, 0, none⟩ v2).setCell ⟨rb + 2, 1, none⟩ v3) :=
  (((h.b.setCell (p := ⟨rb + 1, 0, none⟩) (by show rb ≤ rb + 1; omega) _).setCell (p := ⟨rb + 1, 1, none⟩) (by show rb ≤ rb + 1; omega) _).setCell (p := ⟨rb + 2, 0, none⟩) (by show rb ≤ rb + 2; omega) _).setCell (p := ⟨rb + 2, 1, none⟩) (by show rb ≤ rb + 2; omega) _
end
/-- and a cell's block and the cells that were read -/
structure RfS (rb cb : Nat) (s : ByteArray) (e : Nat) (a b c : Int) (v : Value) (l : List Cel) (w u : World) : Prop where
  r : RfR rb s e w u
  k : u.heap[cb]? = some (.cells #[.int .i64 a, .int .i64 b, .int .i64 c] 95 (0, 0))
  p : rb + 3 ≤ cb
  o : OwnC .i64 95 (rb + 3) v l u
  n : ∀ q, v.ownBlock = some q → q ≠ cb
section
variable {rb cb : Nat} {s : ByteArray} {e : Nat} {a b c : Int} {v : Value} {l : List Cel} {w u u' : World}
theorem RfS.lt (h : RfS rb cb s e a b c v l w u) : cb < u.heap.size := (Array.getElem?_eq_some_iff.1 h.k).1
theorem RfS.below (h : RfS rb cb s e a b c v l w u) (hb : Below u.heap.size u u') : RfS rb cb s e a b c v l w u' :=
  ⟨h.r.below hb, (hb.block cb h.lt).trans h.k, h.p, h.o.belowAll hb, h.n⟩
theorem RfS.set (h : RfS rb cb s e a b c v l w u) (s' : ByteArray) (e' : Nat) : RfS rb cb s' e' a b c v l w ((u.setCell ⟨rb, 0, none⟩ (.string s')).setCell ⟨rb, 1, none⟩ (.int .i64 (e' : Int))) :=
  ⟨h.r.set s' e', by rw [Below.heap_setCell _ _ _ _ (by show cb ≠ rb; have := h.p; omega), Below.heap_setCell _ _ _ _ (by show cb ≠ rb; have := h.p; omega)]; exact h.k, h.p, h.o.set2 (by omega) _ _, h.n⟩
theorem RfS.cell (h : RfS rb cb s e a b c v l w u) (i : Nat) (z : Int) {a' b' c' : Int} (hz : (#[Value.int .i64 a, .int .i64 b, .int .i64 c]).setIfInBounds i (.int .i64 z) = #[.int .i64 a', .int .i64 b', .int .i64 c']) : RfS rb cb s e a' b' c' v l w (u.setCell ⟨cb, i, none⟩ (.int .i64 z)) := by
  have hg : Below (rb + 3) u (u.setCell ⟨cb, i, none⟩ (.int .i64 z)) := (Below.refl _ _).setCell (p := ⟨cb, i, none⟩) h.p _
  refine ⟨h.r.more hg, ?_, h.p, h.o.setCell h.n i _, h.n⟩
  have hk := h.k
  unfold World.setCell
  simp only [Array.getElem?_modify, hk]
  simp [← hz]
theorem RfS.k0 (h : RfS rb cb s e a b c v l w u) : u.cell? ⟨cb, 0, none⟩ = some (.int .i64 a) := by rw [cell_block h.k]; rfl
theorem RfS.k1 (h : RfS rb cb s e a b c v l w u) : u.cell? ⟨cb, 1, none⟩ = some (.int .i64 b) := by rw [cell_block h.k]; rfl
theorem RfS.k2 (h : RfS rb cb s e a b c v l w u) : u.cell? ⟨cb, 2, none⟩ = some (.int .i64 c) := by rw [cell_block h.k]; rfl
end
theorem rowS_end {f m : Nat} {st : Sta} {pr : Option Cel} (h : m = 0 ∨ st.2 ≠ 0) : rowS f m st pr = (st, []) := by
  cases f with
  | zero => rfl
  | succ f => rw [rowS, if_pos h]
theorem last_rep (L : List Cel) (n : Nat) (c : Cel) (h : 1 ≤ n) : (L ++ List.replicate n c).getLast? = some c := by
  obtain ⟨k, rfl⟩ : ∃ k, n = k + 1 := ⟨n - 1, by omega⟩
  rw [List.getLast?_append, List.replicate_succ', List.getLast?_append]
  rfl
/-- between two runs that are read -/
structure RfI (rb m0 : Nat) (tot : Sta × List (Nat × Cel)) (u : Value) (L : List Cel) (t : ByteArray) (sj : Sta) (w wr : World) : Prop where
  r : RfR rb t sj.2 w wr
  t : t.data.toList = sj.1 ∧ (t.size : Int) ≤ 1000000
  o : OwnC .i64 95 (rb + 3) u L wr
  ok : InOk sj
  run : ∃ m f pr, (sj.2 = 0 → L.length + m = m0 ∧ pr = L.getLast?) ∧ (m < f ∨ sj.2 ≠ 0) ∧ (rowS f m sj pr).1 = tot.1 ∧ (tot.1.2 = 0 → L ++ expR (rowS f m sj pr).2 = expR tot.2)
  len : L.length ≤ m0
theorem RfS.push {rb cb : Nat} {s : ByteArray} {e : Nat} {a b c : Int} {v v' : Value} {l l' : List Cel} {w u u1 u2 : World} {n : Nat} {out : List Value} (h : RfS rb cb s e a b c v l w u) (hb : Below u.heap.size u u1) (ho : OwnC .i64 95 (rb + 3) v' l' u2) (hg : U.Grew (rb + 3) 95 3 v n out u1 v' u2) : RfS rb cb s e a b c v' l' w u2 := by
  have h1 := h.below hb
  have hb2 : Below (rb + 3) u1 u2 := (Below.refl _ _).grown hg.grown h1.r.size (fun q hq => (h1.o.ownBlock q hq).1)
  refine ⟨h1.r.more hb2, (hg.grown.block cb h1.lt (fun e => h1.n cb e.symm rfl)).trans h1.k, h.p, ho, fun q hq => ?_⟩
  rcases hg.block q hq with h2 | h2
  · exact h1.n q h2
  · have := h1.lt; omega
theorem RfI.next {rb cb m0 m gq x2 j lj2 : Nat} {tot : Sta × List (Nat × Cel)} {t : ByteArray} {lk : List UInt8} {ek : Nat} {a b c : Int} {va : Option Addr} {vc : Nat} {L : List Cel} {w wr : World}
    (h : RfS rb cb t ek a b c (.slice va lj2 vc) (L ++ List.replicate j ⟨a, b, c⟩) w wr) (ht : t.data.toList = ((lk, ek) : Sta).1 ∧ (t.size : Int) ≤ 1000000) (hok : InOk (lk, ek)) (hj : (ek = 0 → j = x2) ∧ (ek ≠ 0 → j = 0)) (hx : ek = 0 → 1 ≤ x2 ∧ x2 ≤ m) (hlm : L.length + m = m0)
    (hrun : (rowS gq (m - x2) (lk, ek) (some ⟨a, b, c⟩)).1 = tot.1 ∧ (tot.1.2 = 0 → L ++ expR ((x2, (⟨a, b, c⟩ : Cel)) :: (rowS gq (m - x2) (lk, ek) (some ⟨a, b, c⟩)).2) = expR tot.2)) (hf : m < gq + 1) : RfI rb m0 tot (.slice va lj2 vc) (L ++ List.replicate j ⟨a, b, c⟩) t (lk, ek) w wr := by
  refine ⟨h.r, ht, h.o, hok, ⟨m - x2, gq, some ⟨a, b, c⟩, fun h0 => ?_, ?_, hrun.1, fun h0 => ?_⟩, ?_⟩
  · have h1 := hx h0
    have h2 := hj.1 h0
    subst h2
    exact ⟨by rw [List.length_append, List.length_replicate]; omega, (last_rep L j _ h1.1).symm⟩
  · by_cases h0 : ek = 0
    · have := hx h0; exact .inl (by omega)
    · exact .inr h0
  · have h1 : ek = 0 := by
      by_cases h1 : ek = 0
      · exact h1
      · have h2 := hrun.1
        rw [rowS_end (.inr h1)] at h2
        have h3 : (lk, ek) = tot.1 := h2
        rw [← h3] at h0
        exact h0
    rw [hj.1 h1, ← hrun.2 h0]
    unfold expR
    rw [List.flatMap_cons, List.append_assoc]
  · rw [List.length_append, List.length_replicate]
    by_cases h0 : ek = 0
    · have := hx h0; have := hj.1 h0; omega
    · have := hj.2 h0; omega
end Go.Proofs.Ytjlljkdlgkociaa.K
