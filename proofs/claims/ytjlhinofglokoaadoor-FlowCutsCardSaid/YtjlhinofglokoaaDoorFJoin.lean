/- Rows that are joined: the contracts of slices.Grow of none, slices.Concat, and flow.Join. -/
import Derived.Test.YtjlhinofglokoaaDoorFCut
import Derived.Lib.AppendZeros
import Derived.Lib.Buffer
namespace Go.Proofs.YtjlhinofglokoaaDoor.F
open Go.RowKit H

/-- a slice of rows -/
structure SvIn (a : Option Addr) (n c : Nat) (us : List Sv) (w : World) : Prop where
  len : n = us.length
  fit : n ≤ c
  top : (c : Int) ≤ 9223372036854775807
  at_ : us = [] ∨ ∃ b off, a = some ⟨b, off, none⟩ ∧ b < w.heap.size ∧ ∀ i u, us[i]? = some u → w.cell? ⟨b, off + i, none⟩ = some (.slice u.a u.n u.c)
theorem SvIn.belowAll {a : Option Addr} {n c : Nat} {us : List Sv} {w w' : World} (h : SvIn a n c us w) (hb : Below w.heap.size w w') : SvIn a n c us w' := by
  refine ⟨h.len, h.fit, h.top, h.at_.imp id ?_⟩
  rintro ⟨b, off, ha, hl, hi⟩
  exact ⟨b, off, ha, Nat.lt_of_lt_of_le hl hb.size, fun i u hu => (hb.cell (p := ⟨b, off + i, none⟩) hl).trans (hi i u hu)⟩
/-- and what they hold -/
def SvV (rk : IntKind) (us : List Sv) (L : List (List (Int × Int))) (w : World) : Prop := us.length = L.length ∧ ∀ (i : Nat) (u : Sv) (l : List (Int × Int)), us[i]? = some u → L[i]? = some l → PairsIn rk u.a u.n u.c l w ∧ (u.a = none → u.c = 0)
theorem SvV.belowAll {rk : IntKind} {us : List Sv} {L : List (List (Int × Int))} {w w' : World} (h : SvV rk us L w) (hb : Below w.heap.size w w') : SvV rk us L w' := ⟨h.1, fun i u l h1 h2 => ⟨(h.2 i u l h1 h2).1.belowAll hb, (h.2 i u l h1 h2).2⟩⟩
def RowsIn (rk : IntKind) (a : Option Addr) (n c : Nat) (L : List (List (Int × Int))) (w : World) : Prop := ∃ us, SvIn a n c us w ∧ SvV rk us L w
theorem RowsIn.belowAll {rk : IntKind} {a : Option Addr} {n c : Nat} {L : List (List (Int × Int))} {w w' : World} (h : RowsIn rk a n c L w) (hb : Below w.heap.size w w') : RowsIn rk a n c L w' := by
  obtain ⟨us, h1, h2⟩ := h
  exact ⟨us, h1.belowAll hb, h2.belowAll hb⟩
theorem RowsIn.len {rk : IntKind} {a : Option Addr} {n c : Nat} {L : List (List (Int × Int))} {w : World} (h : RowsIn rk a n c L w) : n = L.length := by
  obtain ⟨us, h1, h2⟩ := h
  rw [h1.len, h2.1]
theorem own_rows {rk : IntKind} {T G : TypeId} {base : Nat} {v : Value} {us : List Sv} {L : List (List (Int × Int))} {w : World} (h : OwnS T base v us w) (h2 : SvsQ rk G base us L w) : ∃ a c, v = .slice a L.length c ∧ RowsIn rk a L.length c L w := by
  obtain ⟨a, c, e, h3, h4, -, h5⟩ := h.shape
  rw [h2.1] at e h3
  refine ⟨a, c, e, us, ⟨h2.1.symm, h3, h4, h5.imp id ?_⟩, h2.1, fun i u l k1 k2 => ⟨(h2.row k1 k2).1, (h2.row k1 k2).2.2⟩⟩
  rintro ⟨g, e1, -, e2, e3⟩
  exact ⟨g, 0, e1, e2, fun i u hu => by rw [Nat.zero_add]; exact e3 i u hu⟩
theorem totS_succ {L : List (List (Int × Int))} {j : Nat} {l : List (Int × Int)} (h : L[j]? = some l) : (L.take (j + 1)).flatten = (L.take j).flatten ++ l := by
  obtain ⟨hj, he⟩ := List.getElem?_eq_some_iff.1 h
  rw [List.take_succ_eq_append_getElem hj, he, List.flatten_append]
  simp
theorem tot_le (L : List (List (Int × Int))) (j : Nat) : (L.take j).flatten.length ≤ L.flatten.length := by
  have h := List.take_append_drop j L
  have h2 : L.flatten = (L.take j).flatten ++ (L.drop j).flatten := by rw [← List.flatten_append, h]
  rw [h2, List.length_append]
  omega
end Go.Proofs.YtjlhinofglokoaaDoor.F
