/- SumOpens: of every text, Open answers what the document says, and opens what Seal made of it. No condition. -/
import Derived.Test.YthhaefcglhghfaaDoorRef
import Derived.Test.YthhaefcglhghfaaDoorCards
import Derived.Test.YthhaefcglhghfaaDoorTie
import Derived.ProofKit
import Derived.OpenShut
import Derived.Deep.DeepHandedRow
import Derived.Lib.LaidTab
namespace Go.Proofs.YthhaefcglhghfaaDoor
open Go.ChangeShapes Go.WideShapes Go.ChangeAt Go.RowKit

theorem beq_lists {a b : ByteArray} (h : a.data.toList = b.data.toList) : (a.toList == b.toList) = true := by
  rw [ByteArray.toList_eq, ByteArray.toList_eq, h]; simp
theorem sealed_opens (l u : List UInt8) (h : u = l ++ tl (sumOf l)) : isSealed u = true ∧ opened u = l := by
  have hl : u.length = l.length + 4 := by rw [h]; simp [tl]
  have h1 : isSealed u = true := by
    unfold isSealed
    rw [hl, decide_eq_true (by omega), show l.length + 4 - 4 = l.length from by omega, h]
    simp
  refine ⟨h1, ?_⟩
  unfold opened
  rw [if_pos h1, hl, show l.length + 4 - 4 = l.length from by omega, h]
  simp

set_option maxHeartbeats 1000000 in
theorem opens_walk (s : ByteArray) (hs : (s.size : Int) ≤ 9223372036854775807) (w : World) (hT : Tab w) :
    Calls Tryd.prog 4 #[.string s] w fun e w' => e = .returned (.bool true) ∧ Below w.heap.size w w' := by
  have HT := Lib.hid hT
  clear hT
  go_enter Tryd.func4, Tryd.ntmps4
  go_wp2_with fail
  refine (awake_any _ HT.out).mono ?_
  rintro e w1 ⟨rfl, hb1⟩
  have HB1 := Lib.hid hb1
  clear hb1
  go_wp2_with fail
  refine (cut_any s 120 hs (by decide) _).mono ?_
  rintro e w' ⟨⟨t, rfl, hts, htl⟩, rfl⟩
  clear htl
  have HT1 := Lib.hid (tab_of HT.out HB1.out)
  go_wp2_with fail
  refine (open_any t (by omega) _ HT1.out).mono ?_
  rintro e w2 ⟨a, rfl, ha, hb2⟩
  have HB2 := Lib.hid hb2
  have HA := Lib.hid ha
  clear hb2 ha
  go_wp2_with fail
  refine (refopen_any t (by omega) _).mono ?_
  rintro e w3 ⟨b, rfl, hbl, hb3⟩
  have HB3 := Lib.hid hb3
  have HBL := Lib.hid hbl
  clear hb3 hbl
  have HT3 := Lib.hid (tab_of (tab_of HT1.out HB2.out) HB3.out)
  go_wp2_with fail
  refine (seal_any t (by omega) _ HT3.out).mono ?_
  rintro e w4 ⟨⟨u, rfl, hus, hul⟩, hb4⟩
  have HB4 := Lib.hid hb4
  have HU := Lib.hid hul
  clear hul hb4
  have HT4 := Lib.hid (tab_of HT3.out HB4.out)
  obtain ⟨k1, k2⟩ := sealed_opens _ _ HU.out
  have ho := open_any u (by omega) w4 HT4.out
  rw [k1, k2] at ho
  have HO := Lib.hid ho
  clear ho k1 k2
  go_wp2_with fail
  refine HO.out.mono ?_
  rintro e w5 ⟨c, rfl, hcl, hb5⟩
  have HB5 := Lib.hid hb5
  have e1 := beq_lists (HA.out.trans HBL.out.symm)
  have e2 := beq_lists hcl
  clear hb5 hcl
  go_wp2_with fail
  go_ret
  have b2 := HB1.out.trans (HB2.out.mono HB1.out.size)
  have b3 := b2.trans (HB3.out.mono b2.size)
  have b4 := b3.trans (HB4.out.mono b3.size)
  exact ⟨rfl, b4.trans (HB5.out.mono b4.size)⟩
/-- FRAME -/
theorem ownKnobNone : ownKnob Tryd.prog.godebug = none := by kernel_rfl
theorem laidOut : laidOutB Tryd.prog = true := by kernel_rfl
theorem gHalf : Tryd.prog.globalNamed "tidewrack/sum.half" = some 0 := by kernel_rfl
theorem gHalfType : (Tryd.prog.globals[0]?).map (·.type) = some 39 := by kernel_rfl
theorem cells39 : Tryd.prog.cellsOf 39 = 16 := by kernel_rfl
theorem cells25 : Tryd.prog.cellsOf 25 = 1 := by kernel_rfl
def halfInts : List Int := [0, 498536548, 997073096, 651767980, 1994146192, 1802195444, 1303535960, 1342533948, 3988292384, 4027552580, 3604390888, 3412177804, 2607071920, 2262029012, 2685067896, 3183342108]
theorem halfInts_tbl : ∀ j, j < 16 → j < halfInts.length ∧ halfInts.getD j 0 = (tbl j : Int) := by decide
/-- WHAT THE ROW's LIST GIVES. -/
theorem tab_laid {W : World} (h : laidMetH Tryd.prog Rows.sumOpensRow.laid W) : Tab W := by
  have ht : Lib.TabIs Tryd.prog W "tidewrack/sum.half" .u32 halfInts := Lib.tabIs_of_head (rest := []) gHalf gHalfType Tryd.underlying39 Tryd.underlying25 cells25 cells39 h
  intro j hj
  rw [← (halfInts_tbl j hj).2]
  exact ht.cell gHalf j (halfInts_tbl j hj).1

namespace SumOpensDone
open Go.ChangeMaps (open_string shut_string)
theorem contract (H : Type) (enc : TypeId × Value → H) (W : World) (base : Nat) (args : Array Value) (ds gs : List (DataW H)) (before : List MemPlace)
    (hval : ∀ (j : Nat) t v, Tryd.f4.params[j]? = some t → args[j]? = some v → Value.okWide Tryd.prog W .any base t v)
    (hW : DataW.Whole enc Tryd.prog Tryd.f4.params.toList Rows.sumOpensSpec.vars false W args.toList ds gs before) (hL : laidMetH Tryd.prog Rows.sumOpensRow.laid W) :
    Calls Tryd.prog 4 args W fun e W' => ∃ v, e = .returned v ∧ Rows.sumOpensSpec.post enc Tryd.prog Tryd.f4 false true false false W args v W' := by
  have hW' := hW
  obtain ⟨p, q, hA0, hV, rfl, hfz, hnd⟩ := hW
  have hA : DataW.TrodAll enc Tryd.prog W 0 (fun _ => true) true Tryd.f4.params.toList args.toList ds p := hA0
  rw [Tryd.params4] at hA hval
  obtain ⟨v0, vs0, d0, ds0, p0, q0, hargs, rfl, rfl, h0, r0⟩ := trodAll_cons hA
  obtain ⟨rfl, rfl, rfl⟩ := trodAll_nil r0
  obtain rfl : args = #[v0] := by cases args; simp_all
  obtain ⟨rfl, rfl⟩ := trodVars_none hV
  obtain ⟨s0, rfl, rfl, rfl, w0⟩ := open_string Tryd.underlying9 (hval 0 9 v0 rfl rfl) h0
  clear hA0
  simp only [List.append_nil] at hW'
  refine (opens_walk s0 (by unfold maxLen at w0; omega) W (tab_laid hL)).mono fun e W' ⟨he, bel⟩ => ?_
  subst he
  exact ⟨_, rfl, _, _, _, [], [], [], hW', trodAll_mk1 (shut_bool Tryd.underlying4 _), (trodAll_cons_mk (shut_string Tryd.underlying9 w0) trodAll_mk0), rfl, bel.frame _, fun h => by cases h⟩

/-- A WORLD FOR THE WITNESS: the settled one, the table (block 0) holding what its initialiser lays. -/
noncomputable def laidWorld (os : Os) : World :=
  { World.holding Tryd.prog os ⟨#[], #[], []⟩ with heap := (World.holding Tryd.prog os ⟨#[], #[], []⟩).heap.modify 0 fun
      | .cells _ t frozen => .cells ((halfInts.map fun z => Value.int .u32 z).toArray) t frozen
      | o => o }
theorem laid_met (os : Os) : laidMet Tryd.prog Rows.sumOpensRow.laid ((laidWorld os).forCall (fun _ _ => 0) ⟨#[], #[.string ⟨#[]⟩], []⟩).memory :=
  laidMet_of_run' 8 (by kernel_rfl) (by kernel_rfl)
theorem reads (os : Os) {H : Type} (enc : TypeId × Value → H) : ∃ places, DataW.whole enc Tryd.prog ((laidWorld os).forCall (fun _ _ => 0) ⟨#[], #[.string ⟨#[]⟩], []⟩).memory Tryd.f4.params.toList Rows.sumOpensSpec.vars false #[Value.string ⟨#[]⟩].toList 8 = some ([.lit (.string [])], [], places) :=
  ⟨[], by kernel_rfl⟩

set_option maxRecDepth 100000 in
theorem lifted (os : Os) (started : os.Started) (H : Type) (enc : TypeId × Value → H) (F : Stop.Interp) :
    ReturnsInHanded {} Tryd.checked os 4 .any ((OpenSpec.ofChange Rows.sumOpensSpec).preRow enc Tryd.prog Tryd.f4 Rows.sumOpensRow.domain false Rows.sumOpensRow.laid) (((OpenSpec.ofChange Rows.sumOpensSpec).at F).post enc Tryd.prog Tryd.f4 false true false false) := by
  obtain ⟨places, hx⟩ := reads os enc
  refine returnsInHanded_of_row (C := Tryd.checked) (s := OpenSpec.ofChange Rows.sumOpensSpec) ownKnobNone started (by kernel_rfl) Tryd.func4
    (witness_row_at (enc := enc) (C := Tryd.checked) false (laidWorld os) #[.string ⟨#[]⟩] rfl (by kernel_rfl) (by kernel_rfl) (by kernel_rfl)
      (OpenSpec.preRow_of_cond 8 hx (by kernel_rfl) (fun k hk => by cases hk) (by kernel_rfl) (laid_met os))) ?_
  intro W base args ds gs before hval hW _ _ _ hL _ _
  exact contract H enc W base args ds gs before hval hW hL

theorem said : Rows.SumOpensSaid :=
  OpenClaim.holds_of_cond 4 Tryd.f4 rfl rfl rfl rfl rfl rfl rfl ⟨rfl, rfl, rfl, rfl, rfl⟩ rfl rfl rfl rfl rfl (by kernel_rfl) Tryd.func4 (by kernel_rfl)
    (of_decide_eq_true (by kernel_rfl)) (by unfold Func.isWrapper; first | (rw [if_pos (by decide +kernel)]; kernel_rfl) | (rw [if_neg (by decide +kernel)]; exact ⟨rfl, rfl⟩))
    (fun os started H enc _ F => by rw [OpenClaim.pre_eq_preRow]; exact lifted os started H enc F)

theorem plain (f : FuncId) (fn : Func) (hf : Tryd.pinned.checked.prog.funcNamed "tidewrack/tidewracklaw02.SumOpens" = some f) (hfn : Tryd.pinned.checked.prog.funcs[f]? = some fn) :
    false = Tryd.pinned.checked.prog.looks [] ∧ ∀ (j : Nat) t, fn.params[j]? = some t → Tryd.pinned.checked.prog.wantsStandIn t = false := by
  obtain rfl : f = 4 := Option.some.inj ((show Tryd.prog.funcNamed "tidewrack/tidewracklaw02.SumOpens" = some 4 by kernel_rfl).symm.trans hf) |>.symm
  obtain rfl : fn = Tryd.f4 := (Option.some.inj (Tryd.func4.symm.trans hfn)).symm
  refine ⟨by kernel_rfl, fun j t ht => ?_⟩
  rw [Tryd.params4] at ht
  obtain rfl : t = 9 := by simpa using Array.mem_of_getElem? ht
  exact (show Tryd.prog.wantsStandIn 9 = false by kernel_rfl)

theorem card : Rows.SumOpensCardSaid :=
  Claim7.holds_tied_plain_at .later [] _ _ _ _ said (fun _ h => by cases h) (by kernel_rfl) (fun _ h => by cases h) sumOpens_row_tie rfl ⟨rfl, rfl⟩ (by kernel_rfl) rfl plain (by kernel_rfl)
end SumOpensDone
theorem SumOpens_holds : Rows.SumOpensCardSaid := SumOpensDone.card
#print axioms SumOpens_holds
end Go.Proofs.YthhaefcglhghfaaDoor
