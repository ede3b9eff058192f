/- The contract of Slot's Whole. -/
import Derived.Test.YtghnkpfnpidncaaDoorPMeth
import Derived.Test.YtghnkpfnpidncaaDoorPGrow
import Derived.Sort.QuietIn
namespace Go.Proofs.YtghnkpfnpidncaaDoor.P
open Go.RowKit Go.Shelf

attribute [local go_sem] Oper.semAt_some

/-- all parts, one behind the other -/
def catS (L : PL) : List UInt8 := (L.map (·.getD [])).flatten
theorem cat_to (L : PL) : ∀ k, ((whichTo L true k).map fun i => (L.getD i none).getD []).flatten = ((List.range k).map fun i => (L.getD i none).getD []).flatten
  | 0 => by simp [whichTo]
  | k + 1 => by
    rw [List.range_succ, List.map_append, List.flatten_append, ← cat_to L k]
    cases h : L.getD k none with
    | some l =>
      rw [whichTo_yes (by rw [h]; rfl), List.map_append, List.flatten_append]
    | none =>
      rw [whichTo_no (by rw [h]; rfl)]
      simp only [List.map_cons, List.map_nil, List.flatten_cons, List.flatten_nil, h, Option.getD_none, List.append_nil]
theorem range_getD (L : PL) : (List.range L.length).map (fun i => (L.getD i none).getD []) = L.map (·.getD []) := by
  apply List.ext_getElem
  · simp
  · intro i h1 h2
    simp at h1
    simp [List.getD_eq_getElem?_getD, h1]
theorem cat_which (L : PL) : ((whichS L true).map fun i => (L.getD i none).getD []).flatten = catS L := by
  have h := cat_to L L.length
  rw [range_getD] at h
  exact h
theorem bytes_cat (L : PL) : bytesS L = (catS L).length := by
  rw [← cat_which, List.length_flatten, List.map_map]
  rfl
/-- what Whole answers -/
def fullS (L : PL) : Bool := decide (0 < L.length) && decide (L.length ≤ haveN L)
def wholeS (L : PL) : List UInt8 := if fullS L then catS L else []
def WholePost (L : PL) (w : World) (e : Ending) (w' : World) : Prop := ∃ u : ByteArray, e = .returned (.tuple #[.string u, .bool (fullS L)]) ∧ bl u = wholeS L ∧ Below w.heap.size w w'
theorem ownFrom_looks {β : Type} {B Bs Bt p : Nat} {mo : Option Nat} {k : Int} {L : PL} {there : Bool} (hB : ∀ b ∈ lookL Bs Bt p mo, b < B) : OwnFrom B (fun (_ : β) W => Looks Bs Bt p mo k L there W) := fun _ X Y row hs hg hr =>
  hs.keep ⟨hg.size, fun b hb hlt => hg.block b hlt (fun e => by have := (hr b e.symm).1; have := hB b hb; omega)⟩
theorem Looks.keepB {Bs Bt p : Nat} {mo : Option Nat} {k : Int} {L : PL} {there : Bool} {w w' : World} (h : Looks Bs Bt p mo k L there w) {b : Nat} (hk : KeepB b w w') (hb : b ∉ lookL Bs Bt p mo) : KeepL (lookL Bs Bt p mo) w w' := by
  refine ⟨hk.size, fun i hi _ => ?_⟩
  have hne : i ≠ b := fun e => hb (e ▸ hi)
  rcases List.mem_cons.1 hi with rfl | hi
  · have e := h.bs
    unfold Boxed at e
    rw [e]; exact hk.block _ _ e hne (fun _ _ e' => by cases e')
  rcases List.mem_cons.1 hi with rfl | hi
  · have e := h.bt
    unfold Boxed at e
    rw [e]; exact hk.block _ _ e hne (fun _ _ e' => by cases e')
  rcases List.mem_cons.1 hi with rfl | hi
  · rw [h.slot.1]; exact hk.block _ _ h.slot.1 hne (fun _ _ e' => by cases e')
  · obtain rfl : mo = some i := by simpa using hi
    obtain ⟨D, ⟨es, clock, hm, _⟩, _⟩ := h.slot.2.2.2
    rw [hm]; exact hk.block _ _ hm hne (fun _ _ e' => by cases e')
theorem own_built (b : Nat) : Own (fun (bs : List UInt8) W => BuiltAt b bs W) := fun s X Y row hs hg hr => by
  obtain ⟨v, h1, h2⟩ := hs
  have hne : some b ≠ row := fun e => by obtain ⟨o, ho, hc⟩ := hr b e.symm; rw [h1] at ho; cases ho; cases hc
  refine ⟨v, (hg.block b (Array.getElem?_eq_some_iff.1 h1).1 hne).trans h1, h2.kept hg ?_⟩
  cases hv : v.ownBlock with
  | none => exact .inl rfl
  | some q =>
    refine .inr fun e => ?_
    obtain ⟨cur, hc⟩ := row_obj h2 hv
    obtain ⟨o, ho, hcc⟩ := hr q e.symm
    rw [hc] at ho; cases ho; cases hcc
def catP (L : PL) (pre : List (Ix L true)) : List UInt8 := ((pre.map (·.1)).map fun i => (L.getD i none).getD []).flatten
theorem catP_snoc (L : PL) (pre : List (Ix L true)) (x : Ix L true) : catP L (pre ++ [x]) = catP L pre ++ (L.getD x.1 none).getD [] := by simp [catP]
theorem catP_le {L : PL} (h : Fits L) (pre : List (Ix L true)) : (catP L pre).length ≤ 1000000000 * pre.length := by
  have h1 := sumAt_le h pre
  have e : (catP L pre).length = sumAt L pre := by unfold catP sumAt; rw [List.length_flatten, List.map_map]; rfl
  omega

set_option maxRecDepth 100000 in
set_option maxHeartbeats 2000000 in
theorem whole_none (n p : Nat) (hn : 4 ≤ n) (mo : Option Nat) (k : Int) (L : PL) (w : World) (h : SlotAt p mo k L w) (hno : fullS L = false) :
    CallsIn Fence.wide n Tryd.prog 24 #[.pointer (some ⟨p, 0, none⟩)] w (WholePost L w) := by
  have h1 : 1 ≤ n := by omega
  have hlt := h.lt
  have HP : ∀ nq, Hid (WholePost L w (.returned (.tuple #[.string ⟨#[]⟩, .bool false])) ((w.alloc (.cells #[.pointer (some ⟨p, 0, none⟩)] 86)).drewN nq)) := fun nq => Lib.hid ⟨⟨#[]⟩, by rw [hno], by unfold wholeS; rw [hno]; rfl, drewN_below ((Below.refl _ _).alloc (Nat.le_refl _) _) _⟩
  have hs1 := h.belowAll ((Below.refl _ _).alloc (Nat.le_refl _) (.cells #[.pointer (some ⟨p, 0, none⟩)] 86))
  have b1 := (Boxed.new w 86 (.pointer (some ⟨p, 0, none⟩))).cell
  have c1 := hs1.cells.2.1
  have c2 := hs1.cells.2.2
  by_cases h0 : L.length = 0
  · rw [h0] at c1
    clear h hs1 hno
    refine callsIn_of_wp_marks Tryd.func24 rfl trivial ?_ rfl
    simp only [Tryd.ntmps24, List.size_toArray, List.length_cons, List.length_nil, Nat.reduceAdd, Nat.reduceSub, Array.replicate_succ, Array.replicate_zero, List.push_toArray, List.append_toArray, List.nil_append, List.cons_append]
    gi_wp2
    gi_quiet (fail)
    gi_wp2
    refine ⟨_, results_tmp2 rfl _ _ _, ?_⟩
    exact (HP nq).out
  · have hh : haveN L < L.length := by
      unfold fullS at hno
      simp at hno
      have := hno (by omega)
      omega
    obtain ⟨b, rfl⟩ : ∃ b, mo = some b := by
      cases mo with
      | some b => exact ⟨b, rfl⟩
      | none =>
        have h2 : L = [] := h.2.2
        rw [h2] at h0
        simp at h0
    obtain ⟨w1, hw1⟩ : ∃ w1, w.alloc (.cells #[.pointer (some ⟨p, 0, none⟩)] 86) = w1 := ⟨_, rfl⟩
    have hl : ∀ d ty, (Builtin.len_ #[53] ty #[.map (some b)]).run Tryd.prog (w1.drewN d) = .ok (.int .i64 (haveN L)) (w1.drewN d) := fun d ty => MapAt.len (w := w1.drewN d) (by rw [← hw1]; exact hs1.2.2.2) ty
    obtain ⟨N, hN⟩ : ∃ N, L.length = N := ⟨_, rfl⟩
    obtain ⟨M, hM⟩ : ∃ M, haveN L = M := ⟨_, rfl⟩
    rw [hN] at c1 hh h0
    rw [hM] at hl hh
    have hc0 : ((N : Int) == 0) = false := by rw [beq_eq_false_iff_ne]; omega
    have hd : decide ((M : Int) < (N : Int)) = true := by simpa using hh
    have hd' : decide (M < N) = true := by simpa using hh
    rw [hw1] at c1 c2 b1 HP
    have HW1 := Lib.hid hw1
    clear h hs1 hno hN hM h0 hw1
    refine callsIn_of_wp_marks Tryd.func24 rfl trivial ?_ rfl
    simp only [Tryd.ntmps24, List.size_toArray, List.length_cons, List.length_nil, Nat.reduceAdd, Nat.reduceSub, Array.replicate_succ, Array.replicate_zero, List.push_toArray, List.append_toArray, List.nil_append, List.cons_append]
    gi_wp2
    rw [HW1.out]
    gi_quiet (fail)
    gi_wp2
    refine ⟨_, results_tmp2 rfl _ _ _, ?_⟩
    exact (HP nq).out
end Go.Proofs.YtghnkpfnpidncaaDoor.P
