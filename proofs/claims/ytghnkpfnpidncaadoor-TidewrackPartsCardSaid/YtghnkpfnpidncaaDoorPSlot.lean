/- What a parts.Slot holds: its block, its map, and what Put does to it, on plain lists. -/
import Derived.Test.YtghnkpfnpidncaaDoorPCol
import Derived.Maps.OwnIn
import Derived.Maps.OwnSet
import Derived.Maps.Views
import Derived.Lib.Builder
namespace Go.Proofs.YtghnkpfnpidncaaDoor.P
open Go.RowKit Go.Shelf Go.Maps

/-- which parts are there -/
abbrev PL := List (Option (List UInt8))
def haveN (L : PL) : Nat := (L.filter Option.isSome).length
/-- a slot's message and its parts, behind Put; and the error -/
def putS (k : Int) (L : PL) (key index count : Int) (l : List UInt8) : (Int × PL) × Int :=
  if count < 1 ∨ 4096 < count ∨ index < 0 ∨ count ≤ index ∨ key < 1 then ((k, L), 6)
  else if key < k then ((k, L), 8)
  else if k < key then ((key, (List.replicate count.toNat none).set index.toNat (some l)), 0)
  else if count ≠ L.length then ((k, L), 1)
  else match L.getD index.toNat none with
    | some _ => ((k, L), 0)
    | none => ((k, L.set index.toNat (some l)), 0)
/-- what a slot may be -/
def Sound (k : Int) (L : PL) : Prop := (k = 0 ∧ L = []) ∨ (1 ≤ k ∧ 1 ≤ L.length ∧ L.length ≤ 4096)
theorem putS_sound {k : Int} {L : PL} (h : Sound k L) (key index count : Int) (l : List UInt8) : Sound (putS k L key index count l).1.1 (putS k L key index count l).1.2 := by
  unfold putS
  split
  · exact h
  · split
    · exact h
    · split
      · right; simp; omega
      · split
        · exact h
        · split
          · exact h
          · rcases h with ⟨h1, h2⟩ | h2
            · exfalso; omega
            · right; simpa using h2
theorem haveN_le (L : PL) : haveN L ≤ L.length := List.length_filter_le _ _
theorem haveN_set : ∀ (L : PL) (i : Nat) (l : List UInt8), i < L.length → L.getD i none = none → haveN (L.set i (some l)) = haveN L + 1
  | [], i, l, h, _ => by simp at h
  | x :: L, 0, l, _, h0 => by
    simp at h0
    subst h0
    simp [haveN]
  | x :: L, i + 1, l, h, h0 => by
    have ih := haveN_set L i l (by simpa using h) (by simpa using h0)
    unfold haveN at ih ⊢
    rw [List.set_cons_succ]
    cases x <;> simp [ih]
theorem haveN_replicate (n : Nat) : haveN (List.replicate n none) = 0 := by simp [haveN]

/-! ### the map -/
def partR : Value → Option (DataW Unit × List MemPlace)
  | .agg cs => match cs.toList with
    | [.string s] => some (.lit (.string s.data.toList), [])
    | _ => none
  | _ => none
theorem partR_mk (s : ByteArray) : partR (.agg #[.string s]) = some (.lit (.string (bl s)), []) := rfl
theorem partR_inv {v : Value} {z : DataW Unit × List MemPlace} (h : partR v = some z) : ∃ s : ByteArray, v = .agg #[.string s] ∧ z = (.lit (.string (bl s)), []) := by
  unfold partR at h
  split at h
  · rename_i cs
    split at h
    · rename_i s hc
      cases h
      refine ⟨s, ?_, rfl⟩
      rw [show cs = #[.string s] from Array.toList_inj.1 hc]
    · cases h
  · cases h
def kl (i : Nat) : Lit := .int .i64 (i : Int)
/-- the map holds just these parts -/
def MapIs (D : DataW Unit) (L : PL) : Prop := (∀ i, i < L.length → has D (kl i) = (L.getD i none).isSome ∧ D.atKey (kl i) (.lit (.string [])) = .lit (.string ((L.getD i none).getD []))) ∧ size D = haveN L
theorem kl_ne {i j : Nat} (h : i ≠ j) : kl i ≠ kl j := by intro e; unfold kl at e; injection e with _ e; omega
theorem kl_key (i : Nat) : WideAt.IsKeyLit (kl i) := by first | trivial | simp [WideAt.IsKeyLit, kl]
theorem mapIs_none (n : Nat) : MapIs (.map []) (List.replicate n none) := by
  refine ⟨fun i hi => ?_, by rw [haveN_replicate]; rfl⟩
  rw [List.length_replicate] at hi
  have e : (List.replicate n (none : Option (List UInt8))).getD i none = none := by simp [List.getD_eq_getElem?_getD, hi]
  rw [e]
  exact ⟨rfl, rfl⟩
theorem mapIs_put {D : DataW Unit} {L : PL} (hT : Tidy D) (hM : MapIs D L) {i : Nat} (hi : i < L.length) (h0 : L.getD i none = none) (l : List UInt8) : MapIs (D.put (kl i) (.lit (.string l))) (L.set i (some l)) := by
  refine ⟨fun j hj => ?_, ?_⟩
  · rw [List.length_set] at hj
    by_cases e : j = i
    · subst e
      have g : (L.set j (some l)).getD j none = some l := by simp [List.getD_eq_getElem?_getD, hj]
      rw [g, has_put_same hT.isMap (kl_key j), atKey_put_same hT.isMap (kl_key j)]
      exact ⟨rfl, rfl⟩
    · have g : (L.set i (some l)).getD j none = L.getD j none := by
        rw [List.getD_eq_getElem?_getD, List.getD_eq_getElem?_getD, List.getElem?_set_ne (Ne.symm e)]
      rw [g, has_put_other (kl_ne e), atKey_put_other (kl_ne e)]
      exact hM.1 j hj
  · rw [size_put hT, (hM.1 i hi).1, h0, haveN_set L i l hi h0, hM.2]
    rfl
theorem kl_wf {i : Nat} (h : i ≤ 1000000) : (Lit.int .i64 (i : Int)).wf = true := by
  have e1 : IntKind.i64.min = -9223372036854775808 := by decide
  have e2 : IntKind.i64.max = 9223372036854775807 := by decide
  simp only [Lit.wf, e1, e2, Bool.and_eq_true, decide_eq_true_eq]
  omega
theorem zero56 (w : World) : (zeroValue 88).run Tryd.prog w = .ok (.agg #[.string ⟨#[]⟩]) w := by kernel_rfl

/-- Block b is the map of these parts. -/
def MapAt (b : Nat) (L : PL) (w : World) : Prop := ∃ D : DataW Unit, w.ownsMap Tryd.prog 3 partR b (haveN L) D ∧ MapIs D L
theorem keyedInt : Keyed Tryd.prog 3 := int_keyed Tryd.underlying3
theorem MapAt.lt {b : Nat} {L : PL} {w : World} (h : MapAt b L w) : b < w.heap.size := by
  obtain ⟨D, h, _⟩ := h
  exact h.lt
theorem MapAt.of_block {b : Nat} {L : PL} {w w' : World} (h : MapAt b L w) (hb : w'.heap[b]? = w.heap[b]?) : MapAt b L w' := by
  obtain ⟨D, ⟨es, clock, h1, h2⟩, hM⟩ := h
  exact ⟨D, ⟨es, clock, hb.trans h1, h2⟩, hM⟩
theorem MapAt.copy {b b' : Nat} {L : PL} {w w' : World} (h : MapAt b L w) (hb : w'.heap[b']? = w.heap[b]?) : MapAt b' L w' := by
  obtain ⟨D, ⟨es, clock, h1, h2⟩, hM⟩ := h
  exact ⟨D, ⟨es, clock, hb.trans h1, h2⟩, hM⟩
theorem MapAt.made (w : World) (n : Nat) : MapAt w.heap.size (List.replicate n none) (w.alloc (.map #[] 0)) := by
  refine ⟨.map [], ?_, mapIs_none n⟩
  rw [haveN_replicate]
  exact World.ownsMap_made _ _ _ _
set_option maxRecDepth 100000 in
theorem MapAt.look2 {b : Nat} {L : PL} {w : World} (h : MapAt b L w) {i : Nat} (hi : i < L.length) (hL : L.length ≤ 4096) :
    ∃ s, (Instr.lookup 53 (.map (some b)) (.int .i64 (i : Int)) true).run Tryd.prog w = .ok (.tuple #[.agg #[.string s], .bool (L.getD i none).isSome]) w ∧ bl s = (L.getD i none).getD [] := by
  obtain ⟨D, hown, hM⟩ := h
  obtain ⟨v, ps, hrun, hv⟩ := hown.look_ok (t := 53) (e := 88) keyedInt Tryd.underlying53 (zero56 w) (partR_mk ⟨#[]⟩) (key := .int .i64 (i : Int)) (kl := kl i) (keyOf_int_mk Tryd.underlying3 (kl_wf (by omega)))
  obtain ⟨s, rfl, hz⟩ := partR_inv hv
  rw [(hM.1 i hi).1] at hrun
  refine ⟨s, hrun, ?_⟩
  have h1 := congrArg Prod.fst hz
  have h2 := (hM.1 i hi).2
  rw [show (bl ⟨#[]⟩ : List UInt8) = [] from rfl] at h1
  rw [h2] at h1
  injection h1 with h1
  injection h1 with h1
  exact h1.symm
set_option maxRecDepth 100000 in
theorem MapAt.look1 {b : Nat} {L : PL} {w : World} (h : MapAt b L w) {i : Nat} (hi : i < L.length) (hL : L.length ≤ 4096) :
    ∃ s, (Instr.lookup 53 (.map (some b)) (.int .i64 (i : Int)) false).run Tryd.prog w = .ok (.agg #[.string s]) w ∧ bl s = (L.getD i none).getD [] := by
  obtain ⟨D, hown, hM⟩ := h
  obtain ⟨v, ps, hrun, hv⟩ := hown.lookup (t := 53) (e := 88) keyedInt Tryd.underlying53 (zero56 w) (partR_mk ⟨#[]⟩) (key := .int .i64 (i : Int)) (kl := kl i) (keyOf_int_mk Tryd.underlying3 (kl_wf (by omega)))
  obtain ⟨s, rfl, hz⟩ := partR_inv hv
  refine ⟨s, hrun, ?_⟩
  have h1 := congrArg Prod.fst hz
  have h2 := (hM.1 i hi).2
  rw [show (bl ⟨#[]⟩ : List UInt8) = [] from rfl] at h1
  rw [h2] at h1
  injection h1 with h1
  injection h1 with h1
  exact h1.symm
theorem MapAt.len {b : Nat} {L : PL} {w : World} (h : MapAt b L w) (ty : TypeId) : (Builtin.len_ #[53] ty #[.map (some b)]).run Tryd.prog w = .ok (.int .i64 (haveN L)) w := by
  obtain ⟨D, hown, hM⟩ := h
  rw [hown.len Tryd.underlying53, hM.2]
theorem MapAt.put {b : Nat} {L : PL} {w : World} (h : MapAt b L w) {i : Nat} (hi : i < L.length) (hL : L.length ≤ 4096) (h0 : L.getD i none = none) (s : ByteArray) :
    ∃ w', (Instr.mapUpdate 53 (.map (some b)) (.int .i64 (i : Int)) (.agg #[.string s])).run Tryd.prog w = .ok () w' ∧ MapAt b (L.set i (some (bl s))) w' ∧ w.grownBy w' (some b) := by
  obtain ⟨D, hown, hM⟩ := h
  have hle := haveN_le L
  obtain ⟨w', hrun, hown', hg⟩ := hown.update (t := 53) (e := 88) keyedInt Tryd.underlying53 (by unfold maxLen; omega) (key := .int .i64 (i : Int)) (kl := kl i) (keyOf_int_mk Tryd.underlying3 (kl_wf (by omega))) (partR_mk s)
  refine ⟨w', hrun, ⟨_, ?_, mapIs_put (hown.tidy keyedInt) hM hi h0 (bl s)⟩, hg⟩
  rw [haveN_set L i _ hi h0]
  exact hown'

/-! ### the slot -/
/-- Block p is a Slot with this message: its key, which parts are there; its map, if it has a message, is block mo. -/
def SlotAt (p : Nat) (mo : Option Nat) (k : Int) (L : PL) (w : World) : Prop :=
  w.heap[p]? = some (.cells #[.int .i64 k, .int .i64 L.length, .map mo] 55 (0, 0)) ∧ Sound k L ∧ match mo with
    | none => L = []
    | some b => 1 ≤ k ∧ MapAt b L w
theorem SlotAt.lt {p : Nat} {mo : Option Nat} {k : Int} {L : PL} {w : World} (h : SlotAt p mo k L w) : p < w.heap.size := (Array.getElem?_eq_some_iff.1 h.1).1
theorem SlotAt.mlt {p : Nat} {mo : Option Nat} {k : Int} {L : PL} {w : World} (h : SlotAt p mo k L w) : ∀ b, mo = some b → b < w.heap.size := by
  rintro b rfl
  exact h.2.2.2.lt
theorem SlotAt.kept {p : Nat} {mo : Option Nat} {k : Int} {L : PL} {w w' : World} (h : SlotAt p mo k L w) (h1 : w'.heap[p]? = w.heap[p]?) (h2 : ∀ b, mo = some b → w'.heap[b]? = w.heap[b]?) : SlotAt p mo k L w' := by
  refine ⟨h1.trans h.1, h.2.1, ?_⟩
  cases mo with
  | none => exact h.2.2
  | some b => exact ⟨h.2.2.1, h.2.2.2.of_block (h2 b rfl)⟩
theorem SlotAt.len_le {p : Nat} {mo : Option Nat} {k : Int} {L : PL} {w : World} (h : SlotAt p mo k L w) : L.length ≤ 4096 := by
  rcases h.2.1 with ⟨_, h⟩ | ⟨_, _, h⟩
  · rw [h]; simp
  · exact h
theorem SlotAt.below {p : Nat} {mo : Option Nat} {k : Int} {L : PL} {w w' : World} (h : SlotAt p mo k L w) {B : Nat} (hb : Below B w w') (h1 : p < B) (h2 : ∀ b, mo = some b → b < B) : SlotAt p mo k L w' :=
  h.kept (hb.block p h1) (fun b e => hb.block b (h2 b e))
theorem SlotAt.belowAll {p : Nat} {mo : Option Nat} {k : Int} {L : PL} {w w' : World} (h : SlotAt p mo k L w) (hb : Below w.heap.size w w') : SlotAt p mo k L w' := h.below hb h.lt h.mlt
theorem SlotAt.cells {p : Nat} {mo : Option Nat} {k : Int} {L : PL} {w : World} (h : SlotAt p mo k L w) :
    w.cell? ⟨p, 0, none⟩ = some (.int .i64 k) ∧ w.cell? ⟨p, 1, none⟩ = some (.int .i64 L.length) ∧ w.cell? ⟨p, 2, none⟩ = some (.map mo) := by
  refine ⟨?_, ?_, ?_⟩ <;> rw [Lib.cell_of_heap h.1] <;> rfl
theorem SlotAt.frozen {p : Nat} {mo : Option Nat} {k : Int} {L : PL} {w : World} (h : SlotAt p mo k L w) (j : Nat) : w.frozen? ⟨p, j, none⟩ = false := Lib.frozen_of_heap h.1 j
/-- nothing but block p, and the map mo, has turned; there may be new blocks -/
structure Turned (p : Nat) (mo : Option Nat) (w w' : World) : Prop where
  os : w'.os = w.os
  tape : w'.tape = w.tape
  output : w'.output = w.output
  size : w.heap.size ≤ w'.heap.size
  block : ∀ k, k < w.heap.size → k ≠ p → some k ≠ mo → w'.heap[k]? = w.heap[k]?
theorem Turned.refl (p : Nat) (mo : Option Nat) (w : World) : Turned p mo w w := ⟨rfl, rfl, rfl, Nat.le_refl _, fun _ _ _ _ => rfl⟩
theorem Turned.below {p : Nat} {mo : Option Nat} {w w' : World} (h : Turned p mo w w') {B : Nat} (h1 : B ≤ p) (h2 : ∀ b, mo = some b → B ≤ b) (h3 : B ≤ w.heap.size) : Below B w w' :=
  ⟨h.os, h.tape, h.output, h.size, fun k hk => h.block k (by omega) (by omega) (by intro e; have := h2 k e.symm; omega)⟩
theorem Turned.of_below {p : Nat} {mo : Option Nat} {w w' : World} (h : Below w.heap.size w w') : Turned p mo w w' := ⟨h.os, h.tape, h.output, h.size, fun k hk _ _ => h.block k hk⟩
theorem zero_slot (w : World) : SlotAt w.heap.size none 0 [] (w.alloc (.cells #[.int .i64 0, .int .i64 0, .map none] 55)) :=
  ⟨World.alloc_heap_new w _, .inl ⟨rfl, rfl⟩, rfl⟩
end Go.Proofs.YtghnkpfnpidncaaDoor.P
