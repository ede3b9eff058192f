/- Plain facts on runes out of bytes: one byte's step, runs of bytes, what is encoded is decoded, what is told is valid. No Go here. -/
import Derived.Test.YtohhlhnjopbmhaaGreatDoorRows
import Derived.WalkKit
import Derived.WalkLawsBesides
import Derived.WalkSpells
import Derived.Outline
import Derived.Lib.Hide
import Derived.Below
import Derived.IntWalk
import Derived.OwnWalk
import Derived.Laws.Cover4
import Derived.Laws.BytesArg
import Derived.Test.YtohhlhnjopbmhaaGreatDoorMerged15
import Derived.Test.YtohhlhnjopbmhaaGreatDoorMerged16
import Derived.Test.YtohhlhnjopbmhaaGreatDoorMerged9
import Derived.Test.YtohhlhnjopbmhaaGreatDoorMerged7
import Derived.Test.YtohhlhnjopbmhaaGreatDoorMerged11
import Derived.Test.YtohhlhnjopbmhaaGreatDoorMerged0
import Derived.Lib.QuietBelow
import Derived.BigQuiet
import Derived.Test.YtohhlhnjopbmhaaGreatDoorMerged18
namespace Go.Proofs.YtohhlhnjopbmhaaGreatDoor.Y

/-- first bytes: from, to, mask, need, low, high -/
abbrev Row := Nat × Nat × Nat × Nat × Nat × Nat
def tab : List Row := [(0, 127, 127, 0, 0, 0), (194, 223, 31, 1, 128, 191), (224, 224, 15, 2, 160, 191), (225, 236, 15, 2, 128, 191), (237, 237, 15, 2, 128, 159), (238, 239, 15, 2, 128, 191), (240, 240, 7, 3, 144, 191), (241, 243, 7, 3, 128, 191), (244, 244, 7, 3, 128, 143)]
def look : List Row → Nat → Option Row
  | [], _ => none
  | x :: t, b => if x.1 ≤ b ∧ b ≤ x.2.1 then some x else look t b
def leadS (b : Nat) : Option Row := look tab b
def zeroRow : Row := (0, 0, 0, 0, 0, 0)
/-- what the rest of the table says -/
def rest (k : Nat) (b : Nat) : Option Row := look (tab.drop k) b
theorem rest_end (b : Nat) : rest 9 b = none := rfl
theorem rest_step (k : Nat) (hk : k < 9) (b : Nat) : rest k b = if (tab.getD k zeroRow).1 ≤ b ∧ b ≤ (tab.getD k zeroRow).2.1 then some (tab.getD k zeroRow) else rest (k + 1) b := by
  have hk' : k < tab.length := hk
  have h : tab.drop k = tab.getD k zeroRow :: tab.drop (k + 1) := by
    rw [List.drop_eq_getElem_cons hk']
    simp [List.getD_eq_getElem?_getD, hk']
  unfold rest
  rw [h]
  rfl
def bad : Nat := 65533

/-- a sequence that isn't whole: its first byte, its bits so far, how many bytes it needs -/
structure St where
  lead : Nat
  rune : Nat
  need : Nat
deriving DecidableEq
def St.zero : St := ⟨0, 0, 0⟩
def mayS (d : St) (b : Nat) : Bool := match leadS d.lead with
  | some x => if d.need = x.2.2.2.1 then decide (x.2.2.2.2.1 ≤ b ∧ b ≤ x.2.2.2.2.2) else decide (128 ≤ b ∧ b ≤ 191)
  | none => decide (128 ≤ b ∧ b ≤ 191)
def beginS (b : Nat) : St × List Nat := match leadS b with
  | none => (.zero, [bad])
  | some x => if x.2.2.2.1 = 0 then (.zero, [b % (x.2.2.1 + 1)]) else (⟨b, b % (x.2.2.1 + 1), x.2.2.2.1⟩, [])
def goS (d : St) (b : Nat) : St × List Nat := if d.need = 1 then (.zero, [d.rune * 64 + b % 64]) else (⟨d.lead, d.rune * 64 + b % 64, d.need - 1⟩, [])
def stepS (d : St) (b : Nat) : St × List Nat :=
  if d.need = 0 then beginS b
  else if mayS d b then goS d b
  else ((beginS b).1, bad :: (beginS b).2)
def runS : St → List UInt8 → St × List Nat
  | d, [] => (d, [])
  | d, b :: l => ((runS (stepS d b.toNat).1 l).1, (stepS d b.toNat).2 ++ (runS (stepS d b.toNat).1 l).2)
def endS (d : St) : List Nat := if d.need = 0 then [] else [bad]
/-! ### first bytes, as the document says -/
def needS (b : Nat) : Nat × Nat × Nat :=
  if 194 ≤ b ∧ b ≤ 223 then (1, 128, 191)
  else if b = 224 then (2, 160, 191)
  else if b = 237 then (2, 128, 159)
  else if 225 ≤ b ∧ b ≤ 239 then (2, 128, 191)
  else if b = 240 then (3, 144, 191)
  else if b = 244 then (3, 128, 143)
  else if 241 ≤ b ∧ b ≤ 243 then (3, 128, 191)
  else (0, 0, 0)
/-- the modulus of a first byte's bits -/
def modS (n : Nat) : Nat := [0, 32, 16, 8].getD n 0
/-! ### what a decoder may be -/
/-- all runes that it may still become are some -/
def RuneOk (r n : Nat) : Prop := (r + 1) * 64 ^ n ≤ 55296 ∨ (57344 ≤ r * 64 ^ n ∧ (r + 1) * 64 ^ n ≤ 1114112)
def Open (d : St) : Prop := 128 ≤ d.lead ∧ d.lead < 256 ∧ 1 ≤ d.need ∧ d.need ≤ (needS d.lead).1 ∧ (needS d.lead).1 ≤ 3 ∧ ((d.need = (needS d.lead).1 ∧ d.rune = d.lead % modS (needS d.lead).1) ∨ (d.need < (needS d.lead).1 ∧ RuneOk d.rune d.need))
def validN (r : Nat) : Prop := r < 55296 ∨ (57344 ≤ r ∧ r < 1114112)
instance (r : Nat) : Decidable (validN r) := by unfold validN; infer_instance
/-! ### what is encoded is decoded -/
/-! ### all bytes at once -/
end Go.Proofs.YtohhlhnjopbmhaaGreatDoor.Y

/- What runes are as bytes; the contract of the document's own Encode, where glyph is wanting. -/
namespace Go.Proofs.YtohhlhnjopbmhaaGreatDoor.Y
open Go.RowKit

end Go.Proofs.YtohhlhnjopbmhaaGreatDoor.Y

/- The program's grid: the text of each row. -/
namespace Go.Proofs.YtohhlhnjopbmhaaGreatDoor.K
open Go.RowKit Go.Shelf

attribute [local go_sem] Oper.semAt_some

/-- a row's runes, and its text -/
def runesR (r : Ro) : List Int := (glyphs r).map Prod.fst
def txt (r : Ro) : ByteArray := runesBytes (runesR r)
/-- texts that come back -/
structure StrsIn (a : Option Addr) (n c : Nat) (l : List ByteArray) (w : World) : Prop where
  len : n = l.length
  fit : n ≤ c
  top : (c : Int) ≤ 9223372036854775807
  at_ : l = [] ∨ ∃ b off, a = some ⟨b, off, none⟩ ∧ b < w.heap.size ∧ ∀ i s, l[i]? = some s → w.cell? ⟨b, off + i, none⟩ = some (.string s)
theorem StrsIn.belowAll {a : Option Addr} {n c : Nat} {l : List ByteArray} {w w' : World} (h : StrsIn a n c l w) (hb : Below w.heap.size w w') : StrsIn a n c l w' := by
  refine ⟨h.len, h.fit, h.top, h.at_.imp id ?_⟩
  rintro ⟨b, off, ha, hl, hi⟩
  exact ⟨b, off, ha, Nat.lt_of_lt_of_le hl hb.size, fun i g hg => (hb.cell (p := ⟨b, off + i, none⟩) hl).trans (hi i g hg)⟩
/-- between two rounds -/
structure TxI (base : Nat) (w : World) (rs : List Ro) (V : World) : Prop where
  ex : ∃ v, Boxed V base 116 v ∧ V.ownsRow (base + 2) 9 1 v rs.length ((rs.map txt).map Value.string)
  b : Below base w V
theorem ownsRow_grown {T : TypeId} {size base n : Nat} {v : Value} {xs : List Value} {V V' : World} {row : Option Nat} (h : V.ownsRow base T size v n xs) (hg : V.grownBy V' row) (hr : ∀ r, row = some r → ∃ o : Obj, V.heap[r]? = some o ∧ o.isCells = false) : V'.ownsRow base T size v n xs := by
  refine h.kept hg ?_
  cases hv : v.ownBlock with
  | none => exact .inl rfl
  | some q =>
    right
    intro e
    obtain ⟨o, ho, hc⟩ := hr q e.symm
    exact absurd (row_cellsV h hv ho) (by rw [hc]; decide)
theorem TxI.grown {base : Nat} {w : World} {rs : List Ro} {V V' : World} {row : Option Nat} (h : TxI base w rs V) (hm : base ≤ V.heap.size) (hg : V.grownBy V' row) (hr : ∀ r, row = some r → base ≤ r ∧ ∃ o : Obj, V.heap[r]? = some o ∧ o.isCells = false) : TxI base w rs V' := by
  obtain ⟨⟨v, h1, h2⟩, h3⟩ := h
  exact ⟨⟨v, boxed_grown h1 hg (fun r e => (hr r e).2), ownsRow_grown h2 hg (fun r e => (hr r e).2)⟩, h3.grown hg hm (fun r e => (hr r e).1)⟩

theorem KeepL.grown {L : List Nat} {A B : World} {row : Option Nat} (hg : A.grownBy B row) (hr : ∀ r, row = some r → r ∉ L) : KeepL L A B := ⟨hg.size, fun b hb hl => hg.block b hl (fun e => hr b e.symm hb)⟩
theorem KeepL.setCell {L : List Nat} {A : World} {B o : Nat} (h : B ∉ L) (v : Value) : KeepL L A (A.setCell ⟨B, o, none⟩ v) := ⟨(KeepsWalks.setCell A _ v).size, fun b hb _ => Below.heap_setCell _ _ _ b (fun e => h (by rw [show B = b from e.symm]; exact hb))⟩
end Go.Proofs.YtohhlhnjopbmhaaGreatDoor.K

/- Rows of the document's that are gathered, one behind the other. -/
namespace Go.Proofs.YtohhlhnjopbmhaaGreatDoor.K
open Go.RowKit

theorem OwnC.from_ {rk : IntKind} {T : TypeId} {base : Nat} {x : Option Addr} {n y : Nat} {l : List Cel} {w : World} (h : OwnC rk T base (.slice x n y) l w) : ∀ b off, x = some ⟨b, off, none⟩ → base ≤ b := fun b off e => by
  obtain ⟨a', c', e1, -, h2, -⟩ := h.shape
  have e2 : x = a' := by injection e1
  exact (h2 b off (by rw [← e2]; exact e)).1
/-- the row's cells are not in the slice's own block -/
def Apart (v : Value) (u : Rv) : Prop := u.n ≠ 0 → ∀ b off, u.a = some ⟨b, off, none⟩ → v.ownBlock ≠ some b
theorem Apart.fresh {T : TypeId} {base m : Nat} {v : Value} {us : List Rv} {u : Rv} {w : World} (h : OwnV T base v us w) (hm : w.heap.size ≤ m) (hu : ∀ b off, u.a = some ⟨b, off, none⟩ → m ≤ b) : Apart v u := fun _ b off e e' => by
  have h1 := (h.ownBlock b e').2
  have h2 := hu b off e
  omega
theorem RowV.apart {rk : IntKind} {u : Rv} {r : Ro} {w w' : World} {row : Option Nat} (h : RowV rk u.val r w) (hg : w.grownBy w' row) (hne : u.n ≠ 0 → ∀ b off, u.a = some ⟨b, off, none⟩ → row ≠ some b) : RowV rk u.val r w' := by
  by_cases hn : u.n = 0
  · obtain ⟨a, c, e, hi, h3⟩ := h
    have e2 := Rv.val_inj (v := ⟨a, r.l.length, c, r.wrapped⟩) e
    subst e2
    exact ⟨a, c, rfl, ⟨rfl, .inl (List.eq_nil_of_length_eq_zero hn)⟩, h3⟩
  · exact h.moved hg.size (fun b off e hl => hg.block b hl (fun e' => hne hn b off e e'.symm))
/-- rows that were gathered, in memory of our own -/
structure Gath (T : TypeId) (L : List Nat) (base : Nat) (v : Value) (rs : List Ro) (w : World) : Prop where
  ex : ∃ us, OwnV T base v us w ∧ RowsV .i64 us rs w ∧ (∀ u ∈ us, Off L u) ∧ ∀ u ∈ us, Apart v u
theorem Gath.nil (T : TypeId) (L : List Nat) (base : Nat) (w : World) : Gath T L base (.slice none 0 0) [] w := ⟨[], OwnV.nil _ _ _, RowsV.nil _ _, (fun u hu => by cases hu), (fun u hu => by cases hu)⟩
theorem Gath.belowAll {T : TypeId} {L : List Nat} {base : Nat} {v : Value} {rs : List Ro} {w w' : World} (h : Gath T L base v rs w) (hb : Below w.heap.size w w') : Gath T L base v rs w' := by
  obtain ⟨us, h1, h2, h3, h4⟩ := h
  exact ⟨us, h1.belowAll hb, h2.belowAll hb, h3, h4⟩
theorem Gath.keptB {T : TypeId} {L : List Nat} {base : Nat} {v : Value} {rs : List Ro} {w w' : World} (h : Gath T L base v rs w) (hk : KeepB L w w') (hv : ∀ q, v.ownBlock = some q → q ∉ L) : Gath T L base v rs w' := by
  obtain ⟨us, h1, h2, h3, h4⟩ := h
  refine ⟨us, ?_, ⟨h2.1, fun i u r hu hr => (h2.2 i u r hu hr).keptB (h3 u (List.mem_of_getElem? hu)) hk⟩, h3, h4⟩
  refine ⟨h1.1, ?_⟩
  rcases h1.2 with h0 | ⟨g', c', cur, he, hbase, hgb, hc, hmx, hsz, ht⟩
  · exact .inl h0
  · exact .inr ⟨g', c', cur, he, hbase, (hk.block g' (Array.getElem?_eq_some_iff.1 hgb).1 (hv g' (by rw [he]; rfl))).trans hgb, hc, hmx, hsz, ht⟩
theorem Gath.own {T : TypeId} {L : List Nat} {base : Nat} {v : Value} {rs : List Ro} {w : World} (h : Gath T L base v rs w) : ∀ q, v.ownBlock = some q → base ≤ q ∧ q < w.heap.size ∧ ∃ cs, w.heap[q]? = some (.cells cs T (0, 0)) := fun q hq => by
  obtain ⟨us, h1, -⟩ := h.ex
  obtain ⟨cs, h2, h3, h4⟩ := U.own_type h1 hq
  exact ⟨h3, h4, cs, h2⟩
theorem Gath.shape {T : TypeId} {L : List Nat} {base : Nat} {v : Value} {rs : List Ro} {w : World} (h : Gath T L base v rs w) : ∃ a c, v = .slice a rs.length c ∧ (a = none → c = 0) ∧ ∀ b off, a = some ⟨b, off, none⟩ → v.ownBlock = some b ∧ off = 0 := by
  obtain ⟨us, h1, h2, -⟩ := h.ex
  rcases h1.2 with ⟨rfl, h0⟩ | ⟨g, cap, cur, rfl, _⟩
  · exact ⟨none, 0, by rw [← h2.1, h0], (fun _ => rfl), (fun _ _ e => by cases e)⟩
  · exact ⟨some ⟨g, 0, none⟩, cap, by rw [h2.1], (fun e => by cases e), (fun b off e => by cases e; exact ⟨rfl, rfl⟩)⟩
theorem Gath.rowsL {T : TypeId} {L L' : List Nat} {base : Nat} {a : Option Addr} {n c : Nat} {rs : List Ro} {w : World} (h : Gath T L base (.slice a n c) rs w) (hs : ∀ p ∈ L', p ∈ L) (hL : ∀ p ∈ L', p < base) : RowsL .i64 L' a n c rs w := by
  obtain ⟨us, h1, h2, h3, -⟩ := h.ex
  obtain ⟨a', c', e, -⟩ := h1.shape
  cases e
  exact h1.rowsL h2 (fun u hu hn b off e hb => h3 u hu hn b off e (hs b hb)) hL
theorem Gath.weaken {T : TypeId} {L : List Nat} {base base' : Nat} {v : Value} {rs : List Ro} {w : World} (h : Gath T L base v rs w) (hb : base' ≤ base) : Gath T L base' v rs w := by
  obtain ⟨us, h1, h2, h3, h4⟩ := h
  exact ⟨us, h1.weaken hb, h2, h3, h4⟩
end Go.Proofs.YtohhlhnjopbmhaaGreatDoor.K

/- The document's grid: New, Resize. -/
namespace Go.Proofs.YtohhlhnjopbmhaaGreatDoor.K
open Go.RowKit

end Go.Proofs.YtohhlhnjopbmhaaGreatDoor.K

/- The document's grid: Resize. -/
namespace Go.Proofs.YtohhlhnjopbmhaaGreatDoor.K
open Go.RowKit

theorem RowsL.firstN {rk : IntKind} {L : List Nat} {a : Option Addr} {n c : Nat} {rs : List Ro} {w : World} (h : RowsL rk L a n c rs w) (k : Nat) (hk : k ≤ n) : RowsL rk L a k c (rs.take k) w := by
  obtain ⟨vs, h1, h2, h3⟩ := h.ex
  refine ⟨⟨vs.take k, ⟨by rw [List.length_take, ← h1.len]; omega, Nat.le_trans hk h1.fit, h1.top, ?_⟩, h2.take k, fun u hu => h3 u (List.mem_of_mem_take hu)⟩, h.nil, fun hn => h.off (by omega)⟩
  rcases h1.at_ with h4 | ⟨b, off, ha, hb, hi⟩
  · left; rw [h4]; simp
  · refine .inr ⟨b, off, ha, hb, fun i u hu => ?_⟩
    rw [List.getElem?_take] at hu
    split at hu
    · exact hi i u hu
    · cases hu
end Go.Proofs.YtohhlhnjopbmhaaGreatDoor.K

/- The document's grid: Set. -/
namespace Go.Proofs.YtohhlhnjopbmhaaGreatDoor.K
open Go.RowKit

end Go.Proofs.YtohhlhnjopbmhaaGreatDoor.K

/- The document's grid: what Move makes of rows. -/
namespace Go.Proofs.YtohhlhnjopbmhaaGreatDoor.K
open Go.RowKit

theorem RowsV.reverse {rk : IntKind} {us : List Rv} {rs : List Ro} {w : World} (h : RowsV rk us rs w) : RowsV rk us.reverse rs.reverse w := by
  refine ⟨by rw [List.length_reverse, List.length_reverse, h.1], fun i u r hu hr => ?_⟩
  have hi := (List.getElem?_eq_some_iff.1 hu).1
  rw [List.length_reverse] at hi
  rw [List.getElem?_reverse hi] at hu
  rw [List.getElem?_reverse (by rw [← h.1]; exact hi), ← h.1] at hr
  exact h.2 _ u r hu hr
theorem OwnV.at {T : TypeId} {base q n c5 : Nat} {us : List Rv} {w : World} (h : OwnV T base (.slice (some ⟨q, 0, none⟩) n c5) us w) (hn : n = us.length) {i : Nat} {u : Rv} (hu : us[i]? = some u) : w.cell? ⟨q, i * 2, none⟩ = some (.slice u.a u.n u.c) ∧ w.cell? ⟨q, i * 2 + 1, none⟩ = some (.bool u.b) := by
  subst hn
  have hi := (List.getElem?_eq_some_iff.1 hu).1
  have hc : ∀ j, j < 2 → w.cell? ⟨q, i * 2 + j, none⟩ = (vCells u)[j]? := fun j hj => by
    rw [World.ownsRow.cellAt h (i * 2 + j) (by omega), flatV_get us i j u hu hj]
  exact ⟨hc 0 (by decide), hc 1 (by decide)⟩
end Go.Proofs.YtohhlhnjopbmhaaGreatDoor.K

/- The contract of the document's Glyphs. -/
namespace Go.Proofs.YtohhlhnjopbmhaaGreatDoor.K
open Go.RowKit

end Go.Proofs.YtohhlhnjopbmhaaGreatDoor.K

/- The document's grid: the text of a row; the law's small and Rows. -/
namespace Go.Proofs.YtohhlhnjopbmhaaGreatDoor.K
open Go.RowKit

/-! ## the law's own -/
set_option maxRecDepth 100000 in
set_option maxHeartbeats 4000000 in
theorem lawRows_any {L L2 : List Nat} {a1 a2 : Option Addr} {n1 c1 n2 c2 : Nat} {rs1 rs2 : List Ro} (w : World) (h1 : RowsL .i32 L a1 n1 c1 rs1 w) (h2 : RowsL .i64 L2 a2 n2 c2 rs2 w) (hg : ∀ r ∈ rs1, AllC Rng r.l) (hl1 : ∀ r ∈ rs1, r.l.length ≤ 1000) (hl2 : ∀ r ∈ rs2, r.l.length ≤ 1000) (hn1 : n1 ≤ 1000) (hn2 : n2 ≤ 1000) :
    Calls Tryz.prog 42 #[.slice a1 n1 c1, .slice a2 n2 c2] w fun e w' => e = .returned (.bool (decide (rs1 = rs2))) ∧ Below w.heap.size w w' := by
  have hm1 := h1.len
  have hm2 := h2.len
  obtain ⟨us1, i1, v1, -⟩ := h1.ex
  obtain ⟨us2, i2, v2, -⟩ := h2.ex
  obtain ⟨rb, hrb⟩ : ∃ rb, w.heap.size = rb := ⟨_, rfl⟩
  rw [hrb]
  obtain ⟨D, hD⟩ : ∃ D, decide (rs1 = rs2) = D := ⟨_, rfl⟩
  obtain ⟨P, hP⟩ : ∃ P : Ending → World → Prop, (fun e w' => e = .returned (.bool D) ∧ Below rb w w') = P := ⟨_, rfl⟩
  rw [hD, hP]
  have HP := Lib.hid hP
  have HD := Lib.hid hD
  have HL1 := Lib.hid hm1
  have HL2 := Lib.hid hm2
  have H1 := Lib.hid i1
  have H2 := Lib.hid i2
  have HV1 := Lib.hid v1
  have HV2 := Lib.hid v2
  have HR1 := Lib.hid hl1
  have HR2 := Lib.hid hl2
  have HRg := Lib.hid hg
  have HRb := Lib.hid hrb
  by_cases hnn : n1 = n2
  · subst hnn
    have q1 : ((n1 : Int) != (n1 : Int)) = false := by simp
    clear hP hD h1 h2 i1 i2 v1 v2 hl1 hl2 hrb hn2 hm1 hm2 hg
    go_enter Tryz.func42, Tryz.ntmps42
    go_wp2_with fail
    go_loopw [13] (fun i wr => ∃ j : Nat, i = .int .i64 (j : Int) ∧ j ≤ n1 ∧ Hid (rs1.take j = rs2.take j ∧ Below rb w wr)) (fun i _ => n1 - (intOf i).toNat)
    case atStart => exact ⟨0, rfl, by omega, Lib.hid ⟨by simp, Below.refl _ _⟩⟩
    case round =>
      obtain ⟨j, rfl, hj, HF⟩ := hrel
      by_cases hlt : j < n1
      · have hd : decide (j < n1) = true := by simp; omega
        have hj1 : j < rs1.length := by rw [← HL1.out]; exact hlt
        have hj2 : j < rs2.length := by rw [← HL2.out]; exact hlt
        have hu1 : j < us1.length := by rw [HV1.out.1]; exact hj1
        have hu2 : j < us2.length := by rw [HV2.out.1]; exact hj2
        obtain ⟨b1, o1, rfl, hb1, hA1⟩ := H1.out.at_.resolve_left (by intro e; rw [e] at hu1; simp at hu1)
        obtain ⟨b2, o2, rfl, hb2, hA2⟩ := H2.out.at_.resolve_left (by intro e; rw [e] at hu2; simp at hu2)
        have hbw : Below w.heap.size w wr := by rw [HRb.out]; exact HF.out.2
        have hat1 := hA1 j us1[j] (List.getElem?_eq_getElem hu1)
        have hat2 := hA2 j us2[j] (List.getElem?_eq_getElem hu2)
        have hr1 := (HV1.out.2 j us1[j] rs1[j] (List.getElem?_eq_getElem hu1) (List.getElem?_eq_getElem hj1)).belowAll hbw
        have hr2 := (HV2.out.2 j us2[j] rs2[j] (List.getElem?_eq_getElem hu2) (List.getElem?_eq_getElem hj2)).belowAll hbw
        have hs1 := takeR_one rs1 j hj1
        have hs2 := takeR_one rs2 j hj2
        have hm1 := HR1.out rs1[j] (List.getElem_mem hj1)
        have hm2 := HR2.out rs2[j] (List.getElem_mem hj2)
        have hgg := HRg.out rs1[j] (List.getElem_mem hj1)
        obtain ⟨⟨x1, m1, y1, g1⟩, hx1⟩ : ∃ k, us1[j] = k := ⟨_, rfl⟩
        obtain ⟨⟨x2, m2, y2, g2⟩, hx2⟩ : ∃ k, us2[j] = k := ⟨_, rfl⟩
        obtain ⟨r1, hre1⟩ : ∃ k, rs1[j] = k := ⟨_, rfl⟩
        obtain ⟨r2, hre2⟩ : ∃ k, rs2[j] = k := ⟨_, rfl⟩
        rw [hx1] at hat1 hr1
        rw [hx2] at hat2 hr2
        rw [hre1] at hr1 hs1 hm1 hgg
        rw [hre2] at hr2 hs2 hm2
        have p0 : wr.cell? ⟨b1, o1 + j * 2, none⟩ = some (.slice x1 m1 y1) := (World.cell?_of_block (a := ⟨b1, o1 + j * 2, none⟩) (hbw.block b1 hb1)).trans hat1.1
        have p1 : wr.cell? ⟨b1, o1 + j * 2 + 1, none⟩ = some (.bool g1) := (World.cell?_of_block (a := ⟨b1, o1 + j * 2 + 1, none⟩) (hbw.block b1 hb1)).trans hat1.2
        have p2 : wr.cell? ⟨b2, o2 + j * 2, none⟩ = some (.slice x2 m2 y2) := (World.cell?_of_block (a := ⟨b2, o2 + j * 2, none⟩) (hbw.block b2 hb2)).trans hat2.1
        have p3 : wr.cell? ⟨b2, o2 + j * 2 + 1, none⟩ = some (.bool g2) := (World.cell?_of_block (a := ⟨b2, o2 + j * 2 + 1, none⟩) (hbw.block b2 hb2)).trans hat2.2
        unfold Rv.val at hr1 hr2
        simp only at hr1 hr2
        have cS : ∀ d os, Calls Tryz.prog 66 #[.agg #[.slice x1 m1 y1, .bool g1], .agg #[.slice x2 m2 y2, .bool g2]] (Go.Sort.grow (redrawn wr d) os) fun en w'' => en = .returned (.bool (decide (r1 = r2))) ∧ ∃ p : Regrown, w'' = Go.Sort.grow (redrawn wr p.d) p.os := fun d os => by
          have hb := below_regrown wr d os
          exact Calls.regrown_of (isRow_any (hr1.belowAll hb) (hr2.belowAll hb) hgg hm1 hm2)
        have z0 := fun d os => cell_regrown p0 d os
        have z1 := fun d os => cell_regrown p1 d os
        have z2 := fun d os => cell_regrown p2 d os
        have z3 := fun d os => cell_regrown p3 d os
        have HS1 := Lib.hid hs1
        have HS2 := Lib.hid hs2
        have HE1 := Lib.hid hre1
        have HE2 := Lib.hid hre2
        have HBw := Lib.hid hbw
        have hbs : rb ≤ wr.heap.size := by have := hbw.size; have := HRb.out; omega
        clear hA1 hA2 hat1 hat2 hr1 hr2 hs1 hs2 hm1 hm2 hx1 hx2 hre1 hre2 hb1 hb2 hbw hu1 hu2 hgg
        by_cases hE : r1 = r2
        · have hde : decide (r1 = r2) = true := decide_eq_true hE
          rw [hde] at cS
          have HE := Lib.hid hE
          have CS := Lib.hid cS
          clear hE hde cS
          go_upto_region 6 with fail
          clear p0 p1 p2 p3
          refine wp_region_quiet_below (by kernel_rfl) (by kernel_rfl) ?_
          repeat (go_big_quiet_step (first | exact CS.out _ _))
          refine wpQuiet_nil ?_
          intro _ hw'
          obtain ⟨⟨dq, osq⟩, hw''⟩ := hw'
          have HF3 : Hid (rs1.take (j + 1) = rs2.take (j + 1) ∧ Below rb w (Go.Sort.grow (redrawn wr dq) osq)) := Lib.hid ⟨by rw [HS1.out, HS2.out, HF.out.1, HE.out], HF.out.2.trans ((below_regrown _ _ _).mono hbs)⟩
          rw [hw'']
          simp only
          obtain ⟨w6, hw6⟩ : ∃ w6, Go.Sort.grow (redrawn wr dq) osq = w6 := ⟨_, rfl⟩
          rw [hw6] at HF3 ⊢
          clear hw'' hw6 z0 z1 z2 z3 CS
          go_wp2
          go_roundw
          case rel => exact ⟨j + 1, by go_num, by omega, HF3⟩
          case measure => simp [intOf]; omega
        · have hde : decide (r1 = r2) = false := decide_eq_false hE
          rw [hde] at cS
          have HE := Lib.hid hE
          have CS := Lib.hid cS
          clear hE hde cS
          have hne : D = false := by
            rw [← HD.out]
            refine decide_eq_false (fun e => HE.out ?_)
            subst e
            rw [← HE1.out, ← HE2.out]
          have HNe := Lib.hid hne
          clear hne
          go_upto_region 6 with fail
          clear p0 p1 p2 p3
          refine wp_region_quiet_below (by kernel_rfl) (by kernel_rfl) ?_
          repeat (go_big_quiet_step (first | exact CS.out _ _))
          refine wpQuiet_nil ?_
          intro _ hw'
          obtain ⟨⟨dq, osq⟩, hw''⟩ := hw'
          rw [hw'']
          simp only
          have HF3 : Hid (P (.returned (.bool false)) (Go.Sort.grow (redrawn wr dq) osq)) := Lib.hid (by rw [← HP.out, HNe.out]; exact ⟨rfl, HF.out.2.trans ((below_regrown _ _ _).mono hbs)⟩)
          clear z0 z1 z2 z3 CS
          go_wp2
          exact HF3.out
      · obtain rfl : j = n1 := by omega
        have hd : decide (j < j) = false := by simp
        have hd' : decide ((j : Int) < (j : Int)) = false := by simp
        go_wp2
        rw [← HP.out]
        obtain ⟨h3, h4⟩ := HF.out
        rw [List.take_of_length_le (by rw [← HL1.out]; exact Nat.le_refl _), List.take_of_length_le (by rw [← HL2.out]; exact Nat.le_refl _)] at h3
        exact ⟨by rw [← HD.out, h3]; simp, h4⟩
  · have q1 : ((n1 : Int) != (n2 : Int)) = true := by simp; omega
    have hne : D = false := by
      rw [← hD]
      refine decide_eq_false (fun e => hnn ?_)
      rw [HL1.out, HL2.out, e]
    clear hP hD h1 h2 i1 i2 v1 v2 hl1 hl2 hrb hm1 hm2 hg
    go_enter Tryz.func42, Tryz.ntmps42
    go_wp2
    rw [← HP.out, hne]
    exact ⟨rfl, Below.refl _ _⟩
end Go.Proofs.YtohhlhnjopbmhaaGreatDoor.K

/- The contract of the statements' Glyphs: are runes the document's? -/
namespace Go.Proofs.YtohhlhnjopbmhaaGreatDoor.K
open Go.RowKit

set_option maxRecDepth 100000 in
set_option maxHeartbeats 8000000 in
theorem lawGlyphs_any (a1 : Option Addr) (n1 c1 : Nat) (l1 : List (Int × Int)) (a2 : Option Addr) (n2 c2 : Nat) (l2 : List (Int × Int)) (w : World) (h1 : PairsIn .i32 a1 n1 c1 l1 w) (h2 : PairsIn .i64 a2 n2 c2 l2 w) (hr : RngG l1) (hn : n1 ≤ 1000000) (hn2 : n2 ≤ 1000000) :
    Calls Tryz.prog 43 #[.slice a1 n1 c1, .slice a2 n2 c2] w fun e w' => e = .returned (.bool (decide (l1 = l2))) ∧ Below w.heap.size w w' := by
  obtain ⟨P, hP⟩ : ∃ P : Ending → World → Prop, (fun e w' => e = .returned (.bool (decide (l1 = l2))) ∧ Below w.heap.size w w') = P := ⟨_, rfl⟩
  rw [hP]
  have HP := Lib.hid hP
  have HL1 := Lib.hid h1.len
  have HL2 := Lib.hid h2.len
  have H1 := Lib.hid h1
  have H2 := Lib.hid h2
  have HR := Lib.hid hr
  have hnI : (n1 : Int) ≤ 1000000 := by omega
  clear hP h1 h2 hr
  by_cases hne : n1 = n2
  · subst hne
    have q0 : ((n1 : Int) != (n1 : Int)) = false := by simp
    go_enter Tryz.func43, Tryz.ntmps43
    go_wp2_with fail
    go_loopw [14] (fun i wr => ∃ j : Nat, i = .int .i64 (j : Int) ∧ j ≤ n1 ∧ Hid (l1.take j = l2.take j ∧ Below w.heap.size w wr)) (fun i _ => n1 - (intOf i).toNat)
    case atStart => exact ⟨0, rfl, Nat.zero_le _, Lib.hid ⟨rfl, Below.refl _ _⟩⟩
    case round =>
      obtain ⟨j, rfl, hj, HF⟩ := hrel
      by_cases hlt : j < n1
      · have hd : decide (j < n1) = true := decide_eq_true hlt
        have hjI : (j : Int) < n1 := by omega
        have hj1 : j < l1.length := by rw [← HL1.out]; exact hlt
        have hj2 : j < l2.length := by rw [← HL2.out]; exact hlt
        obtain ⟨b1, o1, rfl, hb1, hA1⟩ := H1.out.at_.resolve_left (by intro e; rw [e] at hj1; simp at hj1)
        obtain ⟨b2, o2, rfl, hb2, hA2⟩ := H2.out.at_.resolve_left (by intro e; rw [e] at hj2; simp at hj2)
        have hat1 := hA1 j l1[j] (List.getElem?_eq_getElem hj1)
        have hat2 := hA2 j l2[j] (List.getElem?_eq_getElem hj2)
        have hrg := HR.out l1[j] (List.getElem_mem hj1)
        have t1 := List.take_succ_eq_append_getElem hj1
        have t2 := List.take_succ_eq_append_getElem hj2
        have ne : l1[j] ≠ l2[j] → l1 ≠ l2 := fun hh e => hh (by subst e; rfl)
        obtain ⟨⟨x1, s1⟩, e1⟩ : ∃ g, l1[j] = g := ⟨_, rfl⟩
        obtain ⟨⟨x2, s2⟩, e2⟩ : ∃ g, l2[j] = g := ⟨_, rfl⟩
        rw [e1] at hat1 hrg t1 ne
        rw [e2] at hat2 t2 ne
        have k0 : wr.cell? ⟨b1, o1 + j * 2, none⟩ = some (.int .i32 x1) := (HF.out.2.cell (p := ⟨b1, o1 + j * 2, none⟩) hb1).trans hat1.1
        have k1 : wr.cell? ⟨b1, o1 + j * 2 + 1, none⟩ = some (.int .i64 s1) := (HF.out.2.cell (p := ⟨b1, o1 + j * 2 + 1, none⟩) hb1).trans hat1.2
        have k2 : wr.cell? ⟨b2, o2 + j * 2, none⟩ = some (.int .i64 x2) := (HF.out.2.cell (p := ⟨b2, o2 + j * 2, none⟩) hb2).trans hat2.1
        have k3 : wr.cell? ⟨b2, o2 + j * 2 + 1, none⟩ = some (.int .i64 s2) := (HF.out.2.cell (p := ⟨b2, o2 + j * 2 + 1, none⟩) hb2).trans hat2.2
        have hwr : IntKind.i64.wrap x1 = x1 := by rw [IntKind.wrap_i64]; have h1 := hrg.1; have h2 := hrg.2; simp only at h1 h2; omega
        obtain ⟨gb, hgb⟩ : ∃ gb, wr.heap.size = gb := ⟨_, rfl⟩
        obtain ⟨w5, hw5⟩ : ∃ w5, wr.alloc (.cells #[.int .i32 x1, .int .i64 s1] 86) = w5 := ⟨_, rfl⟩
        have hnew : w5.heap[gb]? = some (.cells #[.int .i32 x1, .int .i64 s1] 86 (0, 0)) := by rw [← hw5, ← hgb]; exact heap_alloc_new wr _
        have m0 : w5.cell? ⟨gb, 0, none⟩ = some (.int .i32 x1) := by rw [cell_block hnew]; rfl
        have m1 : w5.cell? ⟨gb, 1, none⟩ = some (.int .i64 s1) := by rw [cell_block hnew]; rfl
        have hb5 : Below wr.heap.size wr w5 := by rw [← hw5]; exact (Below.refl _ _).alloc (Nat.le_refl _) _
        have hlr : b2 < wr.heap.size := Nat.lt_of_lt_of_le hb2 HF.out.2.size
        have m2 : w5.cell? ⟨b2, o2 + j * 2, none⟩ = some (.int .i64 x2) := (hb5.cell (p := ⟨b2, o2 + j * 2, none⟩) hlr).trans k2
        have m3 : w5.cell? ⟨b2, o2 + j * 2 + 1, none⟩ = some (.int .i64 s2) := (hb5.cell (p := ⟨b2, o2 + j * 2 + 1, none⟩) hlr).trans k3
        have HB5 : Hid (Below w.heap.size w w5) := Lib.hid (HF.out.2.trans (hb5.mono HF.out.2.size))
        have HW5 := Lib.hid hw5
        have HGb := Lib.hid hgb
        have HT : Hid ((x1, s1) = (x2, s2) → l1.take (j + 1) = l2.take (j + 1)) := Lib.hid (fun e => by rw [t1, t2, HF.out.1, e])
        have HNe := Lib.hid ne
        clear hj1 hj2 hA1 hA2 hat1 hat2 hrg t1 t2 ne e1 e2 hb1 hb2 hgb hw5 hnew hb5 hlr HF
        go_upto_region 6 with fail
        rw [HW5.out, HGb.out]
        clear k0 k1 k2 k3
        have z0 := fun d os => cell_regrown m0 d os
        have z1' := fun d os => cell_regrown m1 d os
        have z2' := fun d os => cell_regrown m2 d os
        have z3 := fun d os => cell_regrown m3 d os
        clear m0 m1 m2 m3
        by_cases hx : x1 = x2
        · subst hx
          have q1 : (x1 != x1) = false := by simp
          by_cases hs : s1 = s2
          · subst hs
            have q2 : (s1 != s1) = false := by simp
            refine wp_region_quiet_below (by kernel_rfl) (by kernel_rfl) ?_
            repeat (go_big_quiet_step (fail))
            refine wpQuiet_nil ?_
            intro _ hw'
            obtain ⟨⟨dq, osq⟩, hw''⟩ := hw'
            have HE2 : Hid (Below w.heap.size w (Go.Sort.grow (redrawn w5 dq) osq)) := Lib.hid (HB5.out.trans ((below_regrown _ _ _).mono HB5.out.size))
            rw [hw'']
            simp only
            obtain ⟨w9, hw9⟩ : ∃ w9, Go.Sort.grow (redrawn w5 dq) osq = w9 := ⟨_, rfl⟩
            rw [hw9] at HE2 ⊢
            clear hw'' hw9 z0 z1' z2' z3
            have HE : Hid (l1.take (j + 1) = l2.take (j + 1) ∧ Below w.heap.size w w9) := Lib.hid ⟨HT.out rfl, HE2.out⟩
            go_wp2_with fail
            go_roundw
            case rel => exact ⟨j + 1, by go_num, by omega, HE⟩
            case measure => simp [intOf]; omega
          · have q2 : (s1 != s2) = true := by rw [bne_iff_ne]; exact hs
            refine wp_region_quiet_below (by kernel_rfl) (by kernel_rfl) ?_
            repeat (go_big_quiet_step (fail))
            refine wpQuiet_nil ?_
            intro _ hw'
            obtain ⟨⟨dq, osq⟩, hw''⟩ := hw'
            have HE2 : Hid (Below w.heap.size w (Go.Sort.grow (redrawn w5 dq) osq)) := Lib.hid (HB5.out.trans ((below_regrown _ _ _).mono HB5.out.size))
            rw [hw'']
            simp only
            obtain ⟨w9, hw9⟩ : ∃ w9, Go.Sort.grow (redrawn w5 dq) osq = w9 := ⟨_, rfl⟩
            rw [hw9] at HE2 ⊢
            clear hw'' hw9 z0 z1' z2' z3
            have hend : Hid (P (.returned (.bool false)) w9) := Lib.hid (by rw [← HP.out, decide_eq_false (HNe.out (fun e => hs (congrArg Prod.snd e)))]; exact ⟨rfl, HE2.out⟩)
            clear hs
            go_wp2_with fail
            exact hend.out
        · have q1 : (x1 != x2) = true := by rw [bne_iff_ne]; exact hx
          refine wp_region_quiet_below (by kernel_rfl) (by kernel_rfl) ?_
          repeat (go_big_quiet_step (fail))
          refine wpQuiet_nil ?_
          intro _ hw'
          obtain ⟨⟨dq, osq⟩, hw''⟩ := hw'
          have HE2 : Hid (Below w.heap.size w (Go.Sort.grow (redrawn w5 dq) osq)) := Lib.hid (HB5.out.trans ((below_regrown _ _ _).mono HB5.out.size))
          rw [hw'']
          simp only
          obtain ⟨w9, hw9⟩ : ∃ w9, Go.Sort.grow (redrawn w5 dq) osq = w9 := ⟨_, rfl⟩
          rw [hw9] at HE2 ⊢
          clear hw'' hw9 z0 z1' z2' z3
          have hend : Hid (P (.returned (.bool false)) w9) := Lib.hid (by rw [← HP.out, decide_eq_false (HNe.out (fun e => hx (congrArg Prod.fst e)))]; exact ⟨rfl, HE2.out⟩)
          clear hx
          go_wp2_with fail
          exact hend.out
      · obtain rfl : j = n1 := by omega
        have hd : decide (j < j) = false := by simp
        have he : l1 = l2 := by
          have h := HF.out.1
          rw [List.take_of_length_le (by rw [HL1.out]; exact Nat.le_refl _), List.take_of_length_le (by rw [HL2.out]; exact Nat.le_refl _)] at h
          exact h
        have hend : Hid (P (.returned (.bool true)) wr) := Lib.hid (by rw [← HP.out, decide_eq_true he]; exact ⟨rfl, HF.out.2⟩)
        clear he HF hlt
        go_wp2_with fail
        exact hend.out
  · have q0 : ((n1 : Int) != (n2 : Int)) = true := by rw [bne_iff_ne]; omega
    have hend : Hid (P (.returned (.bool false)) w) := Lib.hid (by
      rw [← HP.out, decide_eq_false (fun e => hne (by rw [HL1.out, HL2.out, e]))]
      exact ⟨rfl, Below.refl _ _⟩)
    clear hne
    go_enter Tryz.func43, Tryz.ntmps43
    go_wp2_with fail
    exact hend.out
end Go.Proofs.YtohhlhnjopbmhaaGreatDoor.K
