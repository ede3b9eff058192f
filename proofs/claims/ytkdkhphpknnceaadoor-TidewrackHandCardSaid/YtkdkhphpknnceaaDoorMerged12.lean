/- A package-level array of structs that a row lists: what its cells hold. -/
import Derived.Test.YtkdkhphpknnceaaDoorRows
import Derived.Lib.LaidTab
import Derived.LaidLaws
import Derived.ChangeArms
import Derived.Test.YtkdkhphpknnceaaDoorFBase
import Derived.Deep.Slices
import Derived.ProofKit
namespace Go.Proofs.YtkdkhphpknnceaaDoor.L

/-- An array that reads as a list of data: each element reads as its datum. -/
theorem trod_array {H : Type} {enc : TypeId × Value → H} {P : Program} {w : World} {base : Nat} {sp : Nat → Bool} {held : Bool} {fuel : Nat} {t e : TypeId} {n : Nat} {cs : List Value} {ds : List (DataW H)} {p : List MemPlace}
    (ht : P.underlying t = some (.array n e)) (h : DataW.trod enc P w base sp held fuel t cs = some (.agg ds, p)) :
    ∃ m, ∀ i, i < n → ∃ d q, ds[i]? = some d ∧ DataW.trod enc P w base sp held m e ((cs.drop (i * P.cellsOf e)).take (P.cellsOf e)) = some (d, q) := by
  cases fuel with
  | zero => simp [DataW.trod] at h
  | succ fuel =>
    simp only [DataW.trod, ht] at h
    split at h
    · obtain ⟨xs, hm, hx⟩ := Option.map_eq_some_iff.1 h
      have hxs : xs.map (·.1) = ds := by
        have := congrArg Prod.fst hx
        simpa using this
      refine ⟨fuel, fun i hi => ?_⟩
      obtain ⟨b, hb, hf⟩ := Lib.mapM_at hm i i (by simp [hi])
      exact ⟨b.1, b.2, by rw [← hxs]; simp [hb], hf⟩
    · cases h
/-- A variable that stands first on the list. -/
theorem laid_head {P : Program} {W : World} {name : String} {ds : List (DataW Unit)} {rest : List (String × DataW Unit)} {g : Nat} {t e : TypeId} {n : Nat}
    (hg : P.globalNamed name = some g) (hty : (P.globals[g]?).map (·.type) = some t) (ht : P.underlying t = some (.array n e)) (h : laidMet P ((name, .agg ds) :: rest) W) :
    ∃ (cs : Array Value) (m : Nat), W.var? P name = some cs ∧ ∀ i, i < n → ∃ d q, ds[i]? = some d ∧ DataW.trod (fun _ => ()) P W 0 (fun _ => true) false m e ((cs.toList.drop (i * P.cellsOf e)).take (P.cellsOf e)) = some (d, q) := by
  obtain ⟨ps, ⟨g', t', cs, fuel, p, q, hg', ht', hvar, hd, _, _⟩, _⟩ := h
  obtain rfl := Option.some.inj (hg.symm.trans hg')
  obtain rfl := Option.some.inj (hty.symm.trans ht')
  obtain ⟨m, hm⟩ := trod_array ht hd
  exact ⟨cs, m, hvar, hm⟩
/-- A number in a struct: field i. -/
theorem trod_field {H : Type} {enc : TypeId × Value → H} {P : Program} {w : World} {base : Nat} {sp : Nat → Bool} {held : Bool} {fuel : Nat} {t : TypeId} {fs : Array Field} {cs : List Value} {ds : List (DataW H)} {p : List MemPlace}
    (ht : P.underlying t = some (.struct fs)) (h : DataW.trod enc P w base sp held fuel t cs = some (.agg ds, p)) (i : Nat) (f : Field) (hf : fs[i]? = some f) {k : IntKind} (hk : P.underlying f.type = some (.int k)) (hc : P.cellsOf f.type = 1) {z : Int} (hd : ds[i]? = some (.lit (.int k z))) :
    cs[f.offset]? = some (.int k z) := by
  obtain ⟨xs, m, _, hx, _, _, hall⟩ := DataW.trod_struct ht h
  have h1 := hall i f hf
  injection hx with hx _
  injection hx with hx
  rw [hx, List.getElem?_map] at hd
  obtain ⟨y, hy, hyd⟩ := Option.map_eq_some_iff.1 hd
  rw [hy, hc] at h1
  obtain ⟨z', e, e2, _⟩ := DataW.trod_int hk h1
  rw [e2] at hyd
  injection hyd with hyd
  injection hyd with _ hyd
  subst hyd
  have h2 : ((cs.drop f.offset).take 1)[0]? = some (Value.int k z') := by rw [e]; rfl
  simpa [List.getElem?_take, List.getElem?_drop] using h2
theorem at_cell {P : Program} {W : World} {name : String} {g : Nat} {cs : Array Value} (hg : P.globalNamed name = some g) (hv : W.var? P name = some cs) {k c o : Nat} (ho : o < c) {v : Value} (h : ((cs.toList.drop (k * c)).take c)[o]? = some v) : W.cell? ⟨g, k * c + o, none⟩ = some v := by
  rw [World.var?_cell hg hv]
  rw [List.getElem?_take, if_pos ho, List.getElem?_drop] at h
  simpa using h
end Go.Proofs.YtkdkhphpknnceaaDoor.L

/- Glyphs that were handed in; what the row's list gives: the spans. -/
namespace Go.Proofs.YtkdkhphpknnceaaDoor.F
open Go.RowKit Go.ChangeShapes Go.WideShapes H

theorem cI : Tryd.prog.cellsOf 3 = 1 := by kernel_rfl
theorem cR : Tryd.prog.cellsOf 21 = 1 := by kernel_rfl
theorem rng_of {k : Int} (h : (Lit.wf (.int .i32 k)) = true) : -2147483648 ≤ k ∧ k ≤ 2147483647 := by
  simp [Lit.wf, IntKind.min, IntKind.max, IntKind.signed, IntKind.bits] at h
  omega
theorem addN (b off j : Nat) : (⟨b, off, none⟩ : Addr).add j = ⟨b, off + j, none⟩ := by unfold Addr.add; split <;> simp_all
theorem gSpans : Tryd.prog.globalNamed "tidewrack/wide.spans" = some 0 := by kernel_rfl
theorem gSpansType : (Tryd.prog.globals[0]?).map (·.type) = some 115 := by kernel_rfl
theorem cSpan : Tryd.prog.cellsOf 114 = 3 := by kernel_rfl
def spanD (x : Int × Int × Nat) : DataW Unit := .agg [.lit (.int .i32 x.1), .lit (.int .i32 x.2.1), .lit (.int .i64 (x.2.2 : Int))]
theorem spans_data : (Rows.laid_tidewrack_wide_spans : DataW Unit) = .agg (W.tab.map spanD) := rfl
theorem tab_of {rest : List (String × DataW Unit)} {V : World} (h : laidMet Tryd.prog (("tidewrack/wide.spans", Rows.laid_tidewrack_wide_spans) :: rest) V) : W.Tab V := by
  rw [spans_data] at h
  obtain ⟨cs, m, hv, hall⟩ := L.laid_head gSpans gSpansType Tryd.underlying115 h
  intro k hk
  obtain ⟨d, q, hd, ht⟩ := hall k hk
  have hkl : k < W.tab.length := hk
  have e : d = spanD (W.tab.getD k (0, 0, 0)) := by
    rw [List.getElem?_map, List.getElem?_eq_getElem hkl] at hd
    simp only [Option.map_some, Option.some.injEq] at hd
    rw [← hd]
    simp [List.getD_eq_getElem?_getD, hkl]
  subst e
  unfold spanD at ht
  rw [cSpan] at ht
  have f0 := L.trod_field Tryd.underlying114 ht 0 _ rfl Tryd.underlying21 cR rfl
  have f1 := L.trod_field Tryd.underlying114 ht 1 _ rfl Tryd.underlying21 cR rfl
  have f2 := L.trod_field Tryd.underlying114 ht 2 _ rfl Tryd.underlying3 cI rfl
  exact ⟨L.at_cell (k := k) (c := 3) (o := 0) gSpans hv (by decide) f0, L.at_cell (k := k) (c := 3) (o := 1) gSpans hv (by decide) f1, L.at_cell (k := k) (c := 3) (o := 2) gSpans hv (by decide) f2⟩

theorem cGlu : Tryd.prog.cellsOf 44 = 2 := by kernel_rfl
set_option maxRecDepth 100000 in
theorem trod_glu {H : Type} {enc : TypeId × Value → H} {W : World} {m : Nat} {cs : List Value} {x : DataW H × List MemPlace} {b0 : Nat} {f0 : Nat → Bool} {t0 : Bool} (h : DataW.trod enc Tryd.prog W b0 f0 t0 m 44 cs = some x) (hl : cs.length = 2) :
    ∃ c : Int × Int, cs = [.int .i32 c.1, .int .i64 c.2] ∧ -2147483648 ≤ c.1 ∧ c.1 ≤ 2147483647 := by
  match cs, hl with
  | [v0, v1], _ =>
    obtain ⟨xs, n, hn, hxy, _, hxl, hf⟩ := DataW.trod_struct Tryd.underlying44 h
    match xs, hxl with
    | [y0, y1], _ =>
      have g0 := hf 0 _ rfl
      have g1 := hf 1 _ rfl
      simp [cI, cR] at g0 g1
      obtain ⟨k0, e0, _, hw⟩ := DataW.trod_int Tryd.underlying21 g0
      obtain ⟨k1, e1, _, _⟩ := DataW.trod_int Tryd.underlying3 g1
      simp at e0 e1
      subst e0 e1
      exact ⟨⟨k0, k1⟩, rfl, rng_of hw⟩
end Go.Proofs.YtkdkhphpknnceaaDoor.F
