/- A package-level array of structs that a row lists: what its cells hold. -/
import Derived.Test.YtkggmcnocpgnbaaDoorRows
import Derived.Lib.LaidTab
import Derived.LaidLaws
import Derived.ChangeArms
import Derived.Test.YtkggmcnocpgnbaaDoorVDo
import Derived.Deep.Slices
import Derived.ProofKit
import Derived.Test.YtkggmcnocpgnbaaDoorMerged0
namespace Go.Proofs.YtkggmcnocpgnbaaDoor.L

/-- An array that reads as a list of data: each element reads as its datum. -/
theorem trod_array {H : Type} {enc : TypeId × Value → H} {P : Program} {w : World} {base : Nat} {sp : Nat → Bool} {held : Bool} {fuel : Nat} {t e : TypeId} {n : Nat} {cs : List Value} {ds : List (DataW H)} {p : List MemPlace}
    (ht : P.underlying t = some (.array n e)) (h : DataW.trod enc P w base sp held fuel t cs = some (.agg ds, p)) :
    ∃ m, ∀ i, i < n → ∃ d q, ds[i]? = some d ∧ DataW.trod enc P w base sp held m e ((cs.drop (i * P.cellsOf e)).take (P.cellsOf e)) = some (d, q) := by
  cases fuel with
  | zero => simp [DataW.trod] at h
  | succ fuel =>
    simp only [DataW.trod, ht] at h
    split at h
    · obtain ⟨xs, hm, hx⟩ := Option.map_eq_some_iff.1 h
      have hxs : xs.map (·.1) = ds := by
        have := congrArg Prod.fst hx
        simpa using this
      refine ⟨fuel, fun i hi => ?_⟩
      obtain ⟨b, hb, hf⟩ := Lib.mapM_at hm i i (by simp [hi])
      exact ⟨b.1, b.2, by rw [← hxs]; simp [hb], hf⟩
    · cases h
/-- A variable that stands first on the list. -/
theorem laid_head {P : Program} {W : World} {name : String} {ds : List (DataW Unit)} {rest : List (String × DataW Unit)} {g : Nat} {t e : TypeId} {n : Nat}
    (hg : P.globalNamed name = some g) (hty : (P.globals[g]?).map (·.type) = some t) (ht : P.underlying t = some (.array n e)) (h : laidMet P ((name, .agg ds) :: rest) W) :
    ∃ (cs : Array Value) (m : Nat), W.var? P name = some cs ∧ ∀ i, i < n → ∃ d q, ds[i]? = some d ∧ DataW.trod (fun _ => ()) P W 0 (fun _ => true) false m e ((cs.toList.drop (i * P.cellsOf e)).take (P.cellsOf e)) = some (d, q) := by
  obtain ⟨ps, ⟨g', t', cs, fuel, p, q, hg', ht', hvar, hd, _, _⟩, _⟩ := h
  obtain rfl := Option.some.inj (hg.symm.trans hg')
  obtain rfl := Option.some.inj (hty.symm.trans ht')
  obtain ⟨m, hm⟩ := trod_array ht hd
  exact ⟨cs, m, hvar, hm⟩
theorem laid_tail {P : Program} {x : String × DataW Unit} {r : List (String × DataW Unit)} {w : World} (h : laidMet P (x :: r) w) : laidMet P r w := by
  obtain ⟨ps, hv, hnd, hrows⟩ := h
  obtain ⟨n, d⟩ := x
  obtain ⟨g, t, cs, fuel, p, q, _, _, _, _, hq, rfl⟩ := hv
  exact ⟨q, hq, List.Nodup.sublist (List.sublist_append_right _ _) hnd, fun b off hm => hrows b off (List.mem_append_right _ hm)⟩
/-- A number in a struct: field i. -/
theorem trod_field {H : Type} {enc : TypeId × Value → H} {P : Program} {w : World} {base : Nat} {sp : Nat → Bool} {held : Bool} {fuel : Nat} {t : TypeId} {fs : Array Field} {cs : List Value} {ds : List (DataW H)} {p : List MemPlace}
    (ht : P.underlying t = some (.struct fs)) (h : DataW.trod enc P w base sp held fuel t cs = some (.agg ds, p)) (i : Nat) (f : Field) (hf : fs[i]? = some f) {k : IntKind} (hk : P.underlying f.type = some (.int k)) (hc : P.cellsOf f.type = 1) {z : Int} (hd : ds[i]? = some (.lit (.int k z))) :
    cs[f.offset]? = some (.int k z) := by
  obtain ⟨xs, m, _, hx, _, _, hall⟩ := DataW.trod_struct ht h
  have h1 := hall i f hf
  injection hx with hx _
  injection hx with hx
  rw [hx, List.getElem?_map] at hd
  obtain ⟨y, hy, hyd⟩ := Option.map_eq_some_iff.1 hd
  rw [hy, hc] at h1
  obtain ⟨z', e, e2, _⟩ := DataW.trod_int hk h1
  rw [e2] at hyd
  injection hyd with hyd
  injection hyd with _ hyd
  subst hyd
  have h2 : ((cs.drop f.offset).take 1)[0]? = some (Value.int k z') := by rw [e]; rfl
  simpa [List.getElem?_take, List.getElem?_drop] using h2
theorem at_cell {P : Program} {W : World} {name : String} {g : Nat} {cs : Array Value} (hg : P.globalNamed name = some g) (hv : W.var? P name = some cs) {k c o : Nat} (ho : o < c) {v : Value} (h : ((cs.toList.drop (k * c)).take c)[o]? = some v) : W.cell? ⟨g, k * c + o, none⟩ = some v := by
  rw [World.var?_cell hg hv]
  rw [List.getElem?_take, if_pos ho, List.getElem?_drop] at h
  simpa using h
end Go.Proofs.YtkggmcnocpgnbaaDoor.L

/- What was handed in: acts, cells, an act; what the row's list gives: the spans. -/
namespace Go.Proofs.YtkggmcnocpgnbaaDoor.K
open Go.RowKit Go.ChangeShapes Go.WideShapes

instance : Inhabited ActR := ⟨⟨0, 0, 0, 0, 0⟩⟩
instance : Inhabited Cel := ⟨⟨0, 0, 0⟩⟩
theorem cI : Tryd.prog.cellsOf 3 = 1 := by kernel_rfl
theorem cR : Tryd.prog.cellsOf 21 = 1 := by kernel_rfl
def RngA (A : ActR) : Prop := -2147483648 ≤ A.rune ∧ A.rune ≤ 2147483647
/-- an act in memory -/
structure ActAt (w : World) (b o : Nat) (A : ActR) : Prop where
  c0 : w.cell? ⟨b, o, none⟩ = some (.int .i64 A.kind)
  c1 : w.cell? ⟨b, o + 1, none⟩ = some (.int .i64 A.at_)
  c2 : w.cell? ⟨b, o + 2, none⟩ = some (.int .i64 A.n)
  c3 : w.cell? ⟨b, o + 3, none⟩ = some (.int .i64 A.style)
  c4 : w.cell? ⟨b, o + 4, none⟩ = some (.int .i32 A.rune)
theorem ActAt.block {w w' : World} {b o : Nat} {A : ActR} (h : ActAt w b o A) (hb : w'.heap[b]? = w.heap[b]?) : ActAt w' b o A :=
  ⟨(World.cell?_of_block (a := ⟨b, o, none⟩) hb).trans h.c0, (World.cell?_of_block (a := ⟨b, o + 1, none⟩) hb).trans h.c1, (World.cell?_of_block (a := ⟨b, o + 2, none⟩) hb).trans h.c2, (World.cell?_of_block (a := ⟨b, o + 3, none⟩) hb).trans h.c3, (World.cell?_of_block (a := ⟨b, o + 4, none⟩) hb).trans h.c4⟩
/-- a slice of acts -/
structure ActsIn (a : Option Addr) (n cap : Nat) (l : List ActR) (w : World) : Prop where
  len : n = l.length
  fit : n ≤ cap
  top : (cap : Int) ≤ 9223372036854775807
  ok : ∀ A ∈ l, RngA A
  at_ : l = [] ∨ ∃ b off, a = some ⟨b, off, none⟩ ∧ b < w.heap.size ∧ ∀ i A, l[i]? = some A → ActAt w b (off + i * 5) A
theorem ActsIn.belowAll {a : Option Addr} {n cap : Nat} {l : List ActR} {w w' : World} (h : ActsIn a n cap l w) (hb : Below w.heap.size w w') : ActsIn a n cap l w' := by
  refine ⟨h.len, h.fit, h.top, h.ok, h.at_.imp id ?_⟩
  rintro ⟨b, off, ha, hl, hi⟩
  exact ⟨b, off, ha, Nat.lt_of_lt_of_le hl hb.size, fun i A hA => (hi i A hA).block (hb.block b hl)⟩
theorem rng_of {k : Int} (h : (Lit.wf (.int .i32 k)) = true) : -2147483648 ≤ k ∧ k ≤ 2147483647 := by
  simp [Lit.wf, IntKind.min, IntKind.max, IntKind.signed, IntKind.bits] at h
  omega
theorem addN (b off j : Nat) : (⟨b, off, none⟩ : Addr).add j = ⟨b, off + j, none⟩ := by unfold Addr.add; split <;> simp_all
/-! ## the spans -/
theorem gSpans : Tryd.prog.globalNamed "tidewrack/wide.spans" = some 0 := by kernel_rfl
theorem gSpansType : (Tryd.prog.globals[0]?).map (·.type) = some 190 := by kernel_rfl
theorem cSpan : Tryd.prog.cellsOf 189 = 3 := by kernel_rfl
def spanD (x : Int × Int × Nat) : DataW Unit := .agg [.lit (.int .i32 x.1), .lit (.int .i32 x.2.1), .lit (.int .i64 (x.2.2 : Int))]
theorem spans_data : (Rows.laid_tidewrack_wide_spans : DataW Unit) = .agg (W.tab.map spanD) := rfl
theorem tab_of {rest : List (String × DataW Unit)} {w : World} (h : laidMet Tryd.prog (("tidewrack/wide.spans", Rows.laid_tidewrack_wide_spans) :: rest) w) : W.Tab w := by
  rw [spans_data] at h
  obtain ⟨cs, m, hv, hall⟩ := L.laid_head gSpans gSpansType Tryd.underlying190 h
  intro k hk
  obtain ⟨d, q, hd, ht⟩ := hall k hk
  have hkl : k < W.tab.length := hk
  have e : d = spanD (W.tab.getD k (0, 0, 0)) := by
    rw [List.getElem?_map, List.getElem?_eq_getElem hkl] at hd
    simp only [Option.map_some, Option.some.injEq] at hd
    rw [← hd]
    simp [List.getD_eq_getElem?_getD, hkl]
  subst e
  unfold spanD at ht
  rw [cSpan] at ht
  have f0 := L.trod_field Tryd.underlying189 ht 0 _ rfl Tryd.underlying21 cR rfl
  have f1 := L.trod_field Tryd.underlying189 ht 1 _ rfl Tryd.underlying21 cR rfl
  have f2 := L.trod_field Tryd.underlying189 ht 2 _ rfl Tryd.underlying3 cI rfl
  exact ⟨L.at_cell (k := k) (c := 3) (o := 0) gSpans hv (by decide) f0, L.at_cell (k := k) (c := 3) (o := 1) gSpans hv (by decide) f1, L.at_cell (k := k) (c := 3) (o := 2) gSpans hv (by decide) f2⟩
end Go.Proofs.YtkggmcnocpgnbaaDoor.K

/- Glyphs of a row: cut from the end, and gathered from the front. -/
namespace Go.Proofs.YtkggmcnocpgnbaaDoor.K

/-- the pairs of what is shown -/
def glF (l : List Cel) : List (Int × Int) := (l.filter fun c => decide (c.part = 0 ∨ c.part = 1)).map fun c => (c.rune, c.style)
theorem glF_append (a b : List Cel) : glF (a ++ b) = glF a ++ glF b := by unfold glF; rw [List.filter_append, List.map_append]
theorem glF_yes (c : Cel) (h : c.part = 0 ∨ c.part = 1) : glF [c] = [(c.rune, c.style)] := by unfold glF; simp [h]
theorem glF_no (c : Cel) (h : ¬ (c.part = 0 ∨ c.part = 1)) : glF [c] = [] := by unfold glF; simp [h]
theorem glF_length (l : List Cel) : (glF l).length ≤ l.length := by unfold glF; rw [List.length_map]; exact List.length_filter_le ..
theorem glyphs_glF (r : Ro) : glyphs r = glF (trimS r) := rfl
theorem trimS_wrapped (l : List Cel) : trimS ⟨l, true⟩ = l := by unfold trimS; rw [if_pos rfl]
theorem trimS_nil (b : Bool) : trimS ⟨[], b⟩ = [] := by unfold trimS; cases b <;> rfl
theorem trimS_blank (l : List Cel) : trimS ⟨l ++ [blk 0], false⟩ = trimS ⟨l, false⟩ := by
  unfold trimS
  rw [if_neg Bool.false_ne_true, if_neg Bool.false_ne_true, List.reverse_append]
  show (trimG (blk 0 :: l.reverse)).reverse = _
  unfold trimG
  rw [if_pos rfl]
  cases l.reverse <;> rfl
theorem trimS_stop (l : List Cel) (c : Cel) (h : c ≠ blk 0) : trimS ⟨l ++ [c], false⟩ = l ++ [c] := by
  unfold trimS
  rw [if_neg Bool.false_ne_true, List.reverse_append]
  show (trimG (c :: l.reverse)).reverse = _
  unfold trimG
  rw [if_neg h]
  simp
theorem take_last {α : Type} (l : List α) (j : Nat) (h : j < l.length) : l.take (j + 1) = l.take j ++ [l[j]] := by
  rw [List.take_add_one, List.getElem?_eq_getElem h]; rfl
end Go.Proofs.YtkggmcnocpgnbaaDoor.K
