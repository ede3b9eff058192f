/- The iterator of rows from the uppermost one: grid.downwards. -/
import Derived.Test.YtkggmcnocpgnbaaDoorJRow
import Derived.RangeFuncNested
import Derived.RangeFuncBound
import Derived.RangeFuncCalls
import Derived.RangeFuncLeaves
import Derived.RangeFuncBox
import Derived.Shelf.Abstract
import Derived.Shelf.RegionOpen
import Derived.OwnWalkIn
import Derived.TacticsInMore
import Derived.LoopNIn
import Derived.LoopIn
import Derived.Test.YtkggmcnocpgnbaaDoorRelU
import Derived.OrdersIn
import Derived.CallsIn
import Derived.WalkKit
import Derived.Test.YtkggmcnocpgnbaaDoorRows
import Derived.Lib.LaidTab
import Derived.LaidLaws
import Derived.ChangeArms
import Derived.Test.YtkggmcnocpgnbaaDoorVDo
import Derived.Deep.Slices
import Derived.ProofKit
import Derived.Test.YtkggmcnocpgnbaaDoorMerged0
namespace Go.Proofs.YtkggmcnocpgnbaaDoor.K
open Go.RowKit Go.Shelf

attribute [local go_sem] Oper.semAt_some

/-- these blocks are kept -/
def KeepL (l : List Nat) (A B : World) : Prop := A.heap.size ≤ B.heap.size ∧ ∀ b ∈ l, b < A.heap.size → B.heap[b]? = A.heap[b]?
theorem KeepL.of_below {l : List Nat} {A B : World} {n : Nat} (h : Below n A B) (hl : ∀ b ∈ l, b < n) : KeepL l A B := ⟨h.size, fun b hb _ => h.block b (hl b hb)⟩
theorem KeepL.refl (l : List Nat) (A : World) : KeepL l A A := ⟨Nat.le_refl _, fun _ _ _ => rfl⟩
theorem grownBy_of_below {w w' : World} (h : Below w.heap.size w w') : w.grownBy w' none := ⟨h.os, h.tape, h.output, h.size, fun k hk _ => h.block k hk⟩
/-- a row that an iterator hands on -/
abbrev It (w : World) := { p : Rv × Ro // RowV .i32 p.1.val p.2 w ∧ p.2.l.length ≤ 1000 }
def It.u {w : World} (x : It w) : Rv := x.1.1
def It.r {w : World} (x : It w) : Ro := x.1.2
/-- the block of a slice of rows that is not empty -/
def blkV {α : Type} (a : Option Addr) (us : List α) : List Nat := match a, us with
  | some a, _ :: _ => [a.block]
  | _, _ => []
theorem blkV_some {α : Type} {a : Option Addr} {b off : Nat} {us : List α} (hz : us ≠ []) (e : a = some ⟨b, off, none⟩) : b ∈ blkV a us := by
  subst e
  cases us with
  | nil => exact absurd rfl hz
  | cons z zs => simp [blkV]
def lookV {α : Type} (B : Nat) (a : Option Addr) (us : List α) : List Nat := B :: blkV a us
structure LooksV (B : Nat) (a : Option Addr) (n c : Nat) (us : List Rv) (w : World) : Prop where
  bx : Boxed w B 66 (.slice a n c)
  rs : RvsIn a n c us w
  lt : ∀ b ∈ blkV a us, b < w.heap.size
theorem LooksV.keep {B : Nat} {a : Option Addr} {n c : Nat} {us : List Rv} {w w' : World} (h : LooksV B a n c us w) (hk : KeepL (lookV B a us) w w') : LooksV B a n c us w' := by
  refine ⟨(hk.2 B (by simp [lookV]) h.bx.lt).trans h.bx, ?_, fun b hb => Nat.lt_of_lt_of_le (h.lt b hb) hk.1⟩
  by_cases hu : us = []
  · exact ⟨h.rs.len, h.rs.fit, h.rs.top, .inl hu⟩
  · exact h.rs.blocks hk.1 (fun b off e hl => hk.2 b (List.mem_cons_of_mem _ (blkV_some hu e)) hl)
theorem LooksV.all {B : Nat} {a : Option Addr} {n c : Nat} {us : List Rv} {w : World} (h : LooksV B a n c us w) : ∀ b ∈ lookV B a us, b < w.heap.size := by
  intro b hb
  rcases List.mem_cons.1 hb with rfl | hb
  · exact h.bx.lt
  · exact h.lt b hb
theorem LooksV.below {B : Nat} {a : Option Addr} {n c : Nat} {us : List Rv} {w w' : World} (h : LooksV B a n c us w) (hb : Below w.heap.size w w') : LooksV B a n c us w' := h.keep (KeepL.of_below hb h.all)
theorem RvsIn.lt {a : Option Addr} {n c : Nat} {us : List Rv} {w : World} (h : RvsIn a n c us w) : ∀ b ∈ blkV a us, b < w.heap.size := by
  intro b hb
  rcases h.at_ with e | ⟨b', off, rfl, hl, _⟩
  · subst e; cases a <;> cases hb
  · cases us with
    | nil => cases hb
    | cons u us =>
      obtain rfl : b = b' := by simpa [blkV] using hb
      exact hl
end Go.Proofs.YtkggmcnocpgnbaaDoor.K

/- A range over an iterator that itself ranges over another one: what a round keeps, said of the blocks by their kind; the loop's law for bodies that always go on. -/
namespace Go.Proofs.YtkggmcnocpgnbaaDoor.K
open Go.RowKit Go.Shelf

attribute [local go_sem] Oper.semAt_some

/-- what lies below m is kept, and beyond m each block of cells that holds no rows -/
def KpU (m : Nat) (W W' : World) : Prop := W.heap.size ≤ W'.heap.size ∧ (∀ i, i < m → i < W.heap.size → W'.heap[i]? = W.heap[i]?) ∧
  ∀ i cs T fr, W.heap[i]? = some (.cells cs T fr) → m < i → T ≠ 27 → W'.heap[i]? = W.heap[i]?
theorem KpU.refl (m : Nat) (W : World) : KpU m W W := ⟨Nat.le_refl _, fun _ _ _ => rfl, fun _ _ _ _ _ _ _ => rfl⟩
theorem KpU.trans {m : Nat} {A B C : World} (h : KpU m A B) (k : KpU m B C) : KpU m A C :=
  ⟨Nat.le_trans h.1 k.1, fun i hi hl => (k.2.1 i hi (Nat.lt_of_lt_of_le hl h.1)).trans (h.2.1 i hi hl), fun i cs T fr hc hi hT => by
    have h1 := h.2.2 i cs T fr hc hi hT
    exact (k.2.2 i cs T fr (h1.trans hc) hi hT).trans h1⟩
theorem KpU.putObj {m l : Nat} {W : World} {o : Obj} (o' : Obj) (hl : m ≤ l) (h : W.heap[l]? = some o) (ho : o.isCells = false) : KpU m W (W.putObj l o') :=
  ⟨by simp, fun i hi _ => World.putObj_heap_other (by omega), fun i cs T fr hc _ _ => World.putObj_heap_other (fun e => by rw [e, h] at hc; cases hc; cases ho)⟩
theorem KpU.of_below {m : Nat} {W W' : World} (h : Below W.heap.size W W') : KpU m W W' := ⟨h.size, fun i _ hl => h.block i hl, fun i cs T fr hc _ _ => h.block i (Array.getElem?_eq_some_iff.1 hc).1⟩
/-- and what is no cells, from B on -/
def KeepX (m B : Nat) (W W' : World) : Prop := KpU m W W' ∧ ∀ i o, B ≤ i → W.heap[i]? = some o → o.isCells = false → W'.heap[i]? = some o
theorem KeepX.trans {m B : Nat} {W1 W2 W3 : World} (h : KeepX m B W1 W2) (k : KeepX m B W2 W3) : KeepX m B W1 W3 := ⟨h.1.trans k.1, fun i o hi ho hc => k.2 i o hi (h.2 i o hi ho hc) hc⟩
theorem KeepX.of_below {m B : Nat} {W W' : World} (h : Below W.heap.size W W') : KeepX m B W W' := ⟨KpU.of_below h, fun i o _ ho _ => (h.block i (Array.getElem?_eq_some_iff.1 ho).1).trans ho⟩
theorem KeepX.mono {m B B' : Nat} {W W' : World} (h : KeepX m B W W') (hB : B ≤ B') : KeepX m B' W W' := ⟨h.1, fun i o hi => h.2 i o (Nat.le_trans hB hi)⟩
end Go.Proofs.YtkggmcnocpgnbaaDoor.K

/- Inside a fence: a region that draws its order, whose last operations wait for all others (wp_region_tailT's twin). -/
namespace Go.Proofs.YtkggmcnocpgnbaaDoor.R
open Go

section
variable {F : Fence} {nf : Nat} {P : Program} {ops : Array Oper} {Q : Exit → Act → World → Prop}

end
end Go.Proofs.YtkggmcnocpgnbaaDoor.R

/- A package-level array of structs that a row lists: what its cells hold. -/
namespace Go.Proofs.YtkggmcnocpgnbaaDoor.L

/-- An array that reads as a list of data: each element reads as its datum. -/
theorem trod_array {H : Type} {enc : TypeId × Value → H} {P : Program} {w : World} {base : Nat} {sp : Nat → Bool} {held : Bool} {fuel : Nat} {t e : TypeId} {n : Nat} {cs : List Value} {ds : List (DataW H)} {p : List MemPlace}
    (ht : P.underlying t = some (.array n e)) (h : DataW.trod enc P w base sp held fuel t cs = some (.agg ds, p)) :
    ∃ m, ∀ i, i < n → ∃ d q, ds[i]? = some d ∧ DataW.trod enc P w base sp held m e ((cs.drop (i * P.cellsOf e)).take (P.cellsOf e)) = some (d, q) := by
  cases fuel with
  | zero => simp [DataW.trod] at h
  | succ fuel =>
    simp only [DataW.trod, ht] at h
    split at h
    · obtain ⟨xs, hm, hx⟩ := Option.map_eq_some_iff.1 h
      have hxs : xs.map (·.1) = ds := by
        have := congrArg Prod.fst hx
        simpa using this
      refine ⟨fuel, fun i hi => ?_⟩
      obtain ⟨b, hb, hf⟩ := Lib.mapM_at hm i i (by simp [hi])
      exact ⟨b.1, b.2, by rw [← hxs]; simp [hb], hf⟩
    · cases h
/-- A variable that stands first on the list. -/
theorem laid_head {P : Program} {W : World} {name : String} {ds : List (DataW Unit)} {rest : List (String × DataW Unit)} {g : Nat} {t e : TypeId} {n : Nat}
    (hg : P.globalNamed name = some g) (hty : (P.globals[g]?).map (·.type) = some t) (ht : P.underlying t = some (.array n e)) (h : laidMet P ((name, .agg ds) :: rest) W) :
    ∃ (cs : Array Value) (m : Nat), W.var? P name = some cs ∧ ∀ i, i < n → ∃ d q, ds[i]? = some d ∧ DataW.trod (fun _ => ()) P W 0 (fun _ => true) false m e ((cs.toList.drop (i * P.cellsOf e)).take (P.cellsOf e)) = some (d, q) := by
  obtain ⟨ps, ⟨g', t', cs, fuel, p, q, hg', ht', hvar, hd, _, _⟩, _⟩ := h
  obtain rfl := Option.some.inj (hg.symm.trans hg')
  obtain rfl := Option.some.inj (hty.symm.trans ht')
  obtain ⟨m, hm⟩ := trod_array ht hd
  exact ⟨cs, m, hvar, hm⟩
theorem laid_tail {P : Program} {x : String × DataW Unit} {r : List (String × DataW Unit)} {w : World} (h : laidMet P (x :: r) w) : laidMet P r w := by
  obtain ⟨ps, hv, hnd, hrows⟩ := h
  obtain ⟨n, d⟩ := x
  obtain ⟨g, t, cs, fuel, p, q, _, _, _, _, hq, rfl⟩ := hv
  exact ⟨q, hq, List.Nodup.sublist (List.sublist_append_right _ _) hnd, fun b off hm => hrows b off (List.mem_append_right _ hm)⟩
/-- A number in a struct: field i. -/
theorem trod_field {H : Type} {enc : TypeId × Value → H} {P : Program} {w : World} {base : Nat} {sp : Nat → Bool} {held : Bool} {fuel : Nat} {t : TypeId} {fs : Array Field} {cs : List Value} {ds : List (DataW H)} {p : List MemPlace}
    (ht : P.underlying t = some (.struct fs)) (h : DataW.trod enc P w base sp held fuel t cs = some (.agg ds, p)) (i : Nat) (f : Field) (hf : fs[i]? = some f) {k : IntKind} (hk : P.underlying f.type = some (.int k)) (hc : P.cellsOf f.type = 1) {z : Int} (hd : ds[i]? = some (.lit (.int k z))) :
    cs[f.offset]? = some (.int k z) := by
  obtain ⟨xs, m, _, hx, _, _, hall⟩ := DataW.trod_struct ht h
  have h1 := hall i f hf
  injection hx with hx _
  injection hx with hx
  rw [hx, List.getElem?_map] at hd
  obtain ⟨y, hy, hyd⟩ := Option.map_eq_some_iff.1 hd
  rw [hy, hc] at h1
  obtain ⟨z', e, e2, _⟩ := DataW.trod_int hk h1
  rw [e2] at hyd
  injection hyd with hyd
  injection hyd with _ hyd
  subst hyd
  have h2 : ((cs.drop f.offset).take 1)[0]? = some (Value.int k z') := by rw [e]; rfl
  simpa [List.getElem?_take, List.getElem?_drop] using h2
theorem at_cell {P : Program} {W : World} {name : String} {g : Nat} {cs : Array Value} (hg : P.globalNamed name = some g) (hv : W.var? P name = some cs) {k c o : Nat} (ho : o < c) {v : Value} (h : ((cs.toList.drop (k * c)).take c)[o]? = some v) : W.cell? ⟨g, k * c + o, none⟩ = some v := by
  rw [World.var?_cell hg hv]
  rw [List.getElem?_take, if_pos ho, List.getElem?_drop] at h
  simpa using h
end Go.Proofs.YtkggmcnocpgnbaaDoor.L

/- What was handed in: acts, cells, an act; what the row's list gives: the spans. -/
namespace Go.Proofs.YtkggmcnocpgnbaaDoor.K
open Go.RowKit Go.ChangeShapes Go.WideShapes

instance : Inhabited ActR := ⟨⟨0, 0, 0, 0, 0⟩⟩
instance : Inhabited Cel := ⟨⟨0, 0, 0⟩⟩
theorem cI : Tryd.prog.cellsOf 3 = 1 := by kernel_rfl
theorem cR : Tryd.prog.cellsOf 21 = 1 := by kernel_rfl
def RngA (A : ActR) : Prop := -2147483648 ≤ A.rune ∧ A.rune ≤ 2147483647
/-- an act in memory -/
structure ActAt (w : World) (b o : Nat) (A : ActR) : Prop where
  c0 : w.cell? ⟨b, o, none⟩ = some (.int .i64 A.kind)
  c1 : w.cell? ⟨b, o + 1, none⟩ = some (.int .i64 A.at_)
  c2 : w.cell? ⟨b, o + 2, none⟩ = some (.int .i64 A.n)
  c3 : w.cell? ⟨b, o + 3, none⟩ = some (.int .i64 A.style)
  c4 : w.cell? ⟨b, o + 4, none⟩ = some (.int .i32 A.rune)
theorem ActAt.block {w w' : World} {b o : Nat} {A : ActR} (h : ActAt w b o A) (hb : w'.heap[b]? = w.heap[b]?) : ActAt w' b o A :=
  ⟨(World.cell?_of_block (a := ⟨b, o, none⟩) hb).trans h.c0, (World.cell?_of_block (a := ⟨b, o + 1, none⟩) hb).trans h.c1, (World.cell?_of_block (a := ⟨b, o + 2, none⟩) hb).trans h.c2, (World.cell?_of_block (a := ⟨b, o + 3, none⟩) hb).trans h.c3, (World.cell?_of_block (a := ⟨b, o + 4, none⟩) hb).trans h.c4⟩
/-- a slice of acts -/
structure ActsIn (a : Option Addr) (n cap : Nat) (l : List ActR) (w : World) : Prop where
  len : n = l.length
  fit : n ≤ cap
  top : (cap : Int) ≤ 9223372036854775807
  ok : ∀ A ∈ l, RngA A
  at_ : l = [] ∨ ∃ b off, a = some ⟨b, off, none⟩ ∧ b < w.heap.size ∧ ∀ i A, l[i]? = some A → ActAt w b (off + i * 5) A
theorem ActsIn.belowAll {a : Option Addr} {n cap : Nat} {l : List ActR} {w w' : World} (h : ActsIn a n cap l w) (hb : Below w.heap.size w w') : ActsIn a n cap l w' := by
  refine ⟨h.len, h.fit, h.top, h.ok, h.at_.imp id ?_⟩
  rintro ⟨b, off, ha, hl, hi⟩
  exact ⟨b, off, ha, Nat.lt_of_lt_of_le hl hb.size, fun i A hA => (hi i A hA).block (hb.block b hl)⟩
/-! ## the spans -/
theorem gSpans : Tryd.prog.globalNamed "tidewrack/wide.spans" = some 0 := by kernel_rfl
theorem gSpansType : (Tryd.prog.globals[0]?).map (·.type) = some 190 := by kernel_rfl
theorem cSpan : Tryd.prog.cellsOf 189 = 3 := by kernel_rfl
def spanD (x : Int × Int × Nat) : DataW Unit := .agg [.lit (.int .i32 x.1), .lit (.int .i32 x.2.1), .lit (.int .i64 (x.2.2 : Int))]
theorem spans_data : (Rows.laid_tidewrack_wide_spans : DataW Unit) = .agg (W.tab.map spanD) := rfl
theorem tab_of {rest : List (String × DataW Unit)} {w : World} (h : laidMet Tryd.prog (("tidewrack/wide.spans", Rows.laid_tidewrack_wide_spans) :: rest) w) : W.Tab w := by
  rw [spans_data] at h
  obtain ⟨cs, m, hv, hall⟩ := L.laid_head gSpans gSpansType Tryd.underlying190 h
  intro k hk
  obtain ⟨d, q, hd, ht⟩ := hall k hk
  have hkl : k < W.tab.length := hk
  have e : d = spanD (W.tab.getD k (0, 0, 0)) := by
    rw [List.getElem?_map, List.getElem?_eq_getElem hkl] at hd
    simp only [Option.map_some, Option.some.injEq] at hd
    rw [← hd]
    simp [List.getD_eq_getElem?_getD, hkl]
  subst e
  unfold spanD at ht
  rw [cSpan] at ht
  have f0 := L.trod_field Tryd.underlying189 ht 0 _ rfl Tryd.underlying21 cR rfl
  have f1 := L.trod_field Tryd.underlying189 ht 1 _ rfl Tryd.underlying21 cR rfl
  have f2 := L.trod_field Tryd.underlying189 ht 2 _ rfl Tryd.underlying3 cI rfl
  exact ⟨L.at_cell (k := k) (c := 3) (o := 0) gSpans hv (by decide) f0, L.at_cell (k := k) (c := 3) (o := 1) gSpans hv (by decide) f1, L.at_cell (k := k) (c := 3) (o := 2) gSpans hv (by decide) f2⟩
end Go.Proofs.YtkggmcnocpgnbaaDoor.K

/- Glyphs of a row: cut from the end, and gathered from the front. -/
namespace Go.Proofs.YtkggmcnocpgnbaaDoor.K

/-- the pairs of what is shown -/
def glF (l : List Cel) : List (Int × Int) := (l.filter fun c => decide (c.part = 0 ∨ c.part = 1)).map fun c => (c.rune, c.style)
theorem glF_append (a b : List Cel) : glF (a ++ b) = glF a ++ glF b := by unfold glF; rw [List.filter_append, List.map_append]
theorem glF_yes (c : Cel) (h : c.part = 0 ∨ c.part = 1) : glF [c] = [(c.rune, c.style)] := by unfold glF; simp [h]
theorem glF_no (c : Cel) (h : ¬ (c.part = 0 ∨ c.part = 1)) : glF [c] = [] := by unfold glF; simp [h]
theorem glF_length (l : List Cel) : (glF l).length ≤ l.length := by unfold glF; rw [List.length_map]; exact List.length_filter_le ..
theorem glyphs_glF (r : Ro) : glyphs r = glF (trimS r) := rfl
theorem trimS_wrapped (l : List Cel) : trimS ⟨l, true⟩ = l := by unfold trimS; rw [if_pos rfl]
theorem trimS_nil (b : Bool) : trimS ⟨[], b⟩ = [] := by unfold trimS; cases b <;> rfl
theorem trimS_blank (l : List Cel) : trimS ⟨l ++ [blk 0], false⟩ = trimS ⟨l, false⟩ := by
  unfold trimS
  rw [if_neg Bool.false_ne_true, if_neg Bool.false_ne_true, List.reverse_append]
  show (trimG (blk 0 :: l.reverse)).reverse = _
  unfold trimG
  rw [if_pos rfl]
  cases l.reverse <;> rfl
theorem trimS_stop (l : List Cel) (c : Cel) (h : c ≠ blk 0) : trimS ⟨l ++ [c], false⟩ = l ++ [c] := by
  unfold trimS
  rw [if_neg Bool.false_ne_true, List.reverse_append]
  show (trimG (c :: l.reverse)).reverse = _
  unfold trimG
  rw [if_neg h]
  simp
theorem take_last {α : Type} (l : List α) (j : Nat) (h : j < l.length) : l.take (j + 1) = l.take j ++ [l[j]] := by
  rw [List.take_add_one, List.getElem?_eq_getElem h]; rfl
end Go.Proofs.YtkggmcnocpgnbaaDoor.K
