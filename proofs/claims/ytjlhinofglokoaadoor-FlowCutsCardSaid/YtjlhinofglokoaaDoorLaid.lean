/- A package-level array of structs that a row lists: what its cells hold. -/
import Derived.Test.YtjlhinofglokoaaDoorRows
import Derived.Lib.LaidTab
import Derived.LaidLaws
import Derived.ChangeArms
namespace Go.Proofs.YtjlhinofglokoaaDoor.L

/-- An array that reads as a list of data: each element reads as its datum. -/
theorem trod_array {H : Type} {enc : TypeId × Value → H} {P : Program} {w : World} {base : Nat} {sp : Nat → Bool} {held : Bool} {fuel : Nat} {t e : TypeId} {n : Nat} {cs : List Value} {ds : List (DataW H)} {p : List MemPlace}
    (ht : P.underlying t = some (.array n e)) (h : DataW.trod enc P w base sp held fuel t cs = some (.agg ds, p)) :
    ∃ m, ∀ i, i < n → ∃ d q, ds[i]? = some d ∧ DataW.trod enc P w base sp held m e ((cs.drop (i * P.cellsOf e)).take (P.cellsOf e)) = some (d, q) := by
  cases fuel with
  | zero => simp [DataW.trod] at h
  | succ fuel =>
    simp only [DataW.trod, ht] at h
    split at h
    · obtain ⟨xs, hm, hx⟩ := Option.map_eq_some_iff.1 h
      have hxs : xs.map (·.1) = ds := by
        have := congrArg Prod.fst hx
        simpa using this
      refine ⟨fuel, fun i hi => ?_⟩
      obtain ⟨b, hb, hf⟩ := Lib.mapM_at hm i i (by simp [hi])
      exact ⟨b.1, b.2, by rw [← hxs]; simp [hb], hf⟩
    · cases h
/-- A variable that stands first on the list. -/
theorem laid_head {P : Program} {W : World} {name : String} {ds : List (DataW Unit)} {rest : List (String × DataW Unit)} {g : Nat} {t e : TypeId} {n : Nat}
    (hg : P.globalNamed name = some g) (hty : (P.globals[g]?).map (·.type) = some t) (ht : P.underlying t = some (.array n e)) (h : laidMet P ((name, .agg ds) :: rest) W) :
    ∃ (cs : Array Value) (m : Nat), W.var? P name = some cs ∧ ∀ i, i < n → ∃ d q, ds[i]? = some d ∧ DataW.trod (fun _ => ()) P W 0 (fun _ => true) false m e ((cs.toList.drop (i * P.cellsOf e)).take (P.cellsOf e)) = some (d, q) := by
  obtain ⟨ps, ⟨g', t', cs, fuel, p, q, hg', ht', hvar, hd, _, _⟩, _⟩ := h
  obtain rfl := Option.some.inj (hg.symm.trans hg')
  obtain rfl := Option.some.inj (hty.symm.trans ht')
  obtain ⟨m, hm⟩ := trod_array ht hd
  exact ⟨cs, m, hvar, hm⟩
/-- A number in a struct: field i. -/
theorem trod_field {H : Type} {enc : TypeId × Value → H} {P : Program} {w : World} {base : Nat} {sp : Nat → Bool} {held : Bool} {fuel : Nat} {t : TypeId} {fs : Array Field} {cs : List Value} {ds : List (DataW H)} {p : List MemPlace}
    (ht : P.underlying t = some (.struct fs)) (h : DataW.trod enc P w base sp held fuel t cs = some (.agg ds, p)) (i : Nat) (f : Field) (hf : fs[i]? = some f) {k : IntKind} (hk : P.underlying f.type = some (.int k)) (hc : P.cellsOf f.type = 1) {z : Int} (hd : ds[i]? = some (.lit (.int k z))) :
    cs[f.offset]? = some (.int k z) := by
  obtain ⟨xs, m, _, hx, _, _, hall⟩ := DataW.trod_struct ht h
  have h1 := hall i f hf
  injection hx with hx _
  injection hx with hx
  rw [hx, List.getElem?_map] at hd
  obtain ⟨y, hy, hyd⟩ := Option.map_eq_some_iff.1 hd
  rw [hy, hc] at h1
  obtain ⟨z', e, e2, _⟩ := DataW.trod_int hk h1
  rw [e2] at hyd
  injection hyd with hyd
  injection hyd with _ hyd
  subst hyd
  have h2 : ((cs.drop f.offset).take 1)[0]? = some (Value.int k z') := by rw [e]; rfl
  simpa [List.getElem?_take, List.getElem?_drop] using h2
theorem at_cell {P : Program} {W : World} {name : String} {g : Nat} {cs : Array Value} (hg : P.globalNamed name = some g) (hv : W.var? P name = some cs) {k c o : Nat} (ho : o < c) {v : Value} (h : ((cs.toList.drop (k * c)).take c)[o]? = some v) : W.cell? ⟨g, k * c + o, none⟩ = some v := by
  rw [World.var?_cell hg hv]
  rw [List.getElem?_take, if_pos ho, List.getElem?_drop] at h
  simpa using h
end Go.Proofs.YtjlhinofglokoaaDoor.L
