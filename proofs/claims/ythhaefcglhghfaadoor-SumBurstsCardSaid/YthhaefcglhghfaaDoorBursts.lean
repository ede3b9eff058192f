/- SumBursts: of every text (cut at 120 bytes), sealed, each burst of at most 32 bits, at any place, is told; what is turned is the document's; turned twice it is as it was. No condition. -/
import Derived.Test.YthhaefcglhghfaaDoorBurstMath
namespace Go.Proofs.YthhaefcglhghfaaDoor
open Go.ChangeShapes Go.WideShapes Go.ChangeAt Go.RowKit

theorem beq_false {a b : ByteArray} (h : ¬ a.data.toList = b.data.toList) : (a.toList == b.toList) = false := by
  rw [ByteArray.toList_eq, ByteArray.toList_eq]; simpa using h

set_option maxHeartbeats 1000000 in
theorem bursts_walk (s : ByteArray) (at_ : Int) (mask : Nat) (hs : (s.size : Int) ≤ 9223372036854775807) (hm : mask < 4294967296) (w : World) (hT : Tab w) :
    Calls Tryd.prog 5 #[.string s, .int .i64 at_, .int .u32 mask] w fun e w' => e = .returned (.bool true) ∧ Below w.heap.size w w' := by
  have HT := Lib.hid hT
  have HM := Lib.hid hm
  clear hT hm
  go_enter Tryd.func5, Tryd.ntmps5
  go_wp2_with fail
  refine (awake_any _ HT.out).mono ?_
  rintro e w1 ⟨rfl, hb1⟩
  have HB1 := Lib.hid hb1
  clear hb1
  have HT1 := Lib.hid (tab_of HT.out HB1.out)
  go_wp2_with fail
  refine (cut_any s 120 hs (by decide) _).mono ?_
  rintro e w' ⟨⟨t0, rfl, ht0, _⟩, rfl⟩
  go_wp2_with fail
  refine (seal_any t0 (by omega) _ HT1.out).mono ?_
  rintro e w2 ⟨⟨t, rfl, hts, htl⟩, hb2⟩
  have HB2 := Lib.hid (HB1.out.trans (hb2.mono HB1.out.size))
  have HT2 := Lib.hid (tab_of HT1.out hb2)
  have HSeal := Lib.hid (sealed_opens _ _ htl).1
  have ht2 : (t.size : Int) ≤ 2000 := by omega
  clear hb2 htl hts ht0
  obtain ⟨A, hA⟩ : ∃ A : Nat, (A : Int) = min (max at_ 0) (8 * t.size) := ⟨(min (max at_ 0) (8 * (t.size : Int))).toNat, by omega⟩
  obtain ⟨K, hK⟩ : ∃ K : Nat, (K : Int) = min 32 (8 * t.size - A) := ⟨(min 32 (8 * (t.size : Int) - A)).toNat, by omega⟩
  have hAK : A + K ≤ 8 * t.data.toList.length := by show A + K ≤ 8 * t.size; omega
  have hK32 : K ≤ 32 := by omega
  have HA := Lib.hid hA
  have HK := Lib.hid hK
  have HAK := Lib.hid hAK
  have HK32 := Lib.hid hK32
  clear hA hK hAK hK32
  go_wp2_with fail
  refine (turn_any t at_ mask A K ht2 HM.out HA.out HK.out _).mono ?_
  rintro e w3 ⟨⟨u, rfl, hul⟩, hb3⟩
  have HB3 := Lib.hid (HB2.out.trans (hb3.mono HB2.out.size))
  have HT3 := Lib.hid (tab_of HT2.out hb3)
  have husz : u.size = t.size := by
    have := congrArg List.length hul
    rw [turnL_length] at this
    exact this
  have hu2 : (u.size : Int) ≤ 2000 := by omega
  have HU := Lib.hid hul
  have HUS := Lib.hid husz
  clear hb3 hul husz
  go_wp2_with fail
  refine (open_any u hu2 _ HT3.out).mono ?_
  rintro e w4 ⟨o, rfl, _, hb4⟩
  have HB4 := Lib.hid (HB3.out.trans (hb4.mono HB3.out.size))
  clear hb4
  obtain ⟨ok, hok⟩ : ∃ ok, isSealed u.data.toList = ok := ⟨_, rfl⟩
  rw [hok]
  have hbool : (ok == (u.toList == t.toList)) = true := by
    have h := burst_told t.data.toList A mask K HSeal.out HAK.out HK32.out
    rw [← HU.out, hok] at h
    by_cases he : u.data.toList = t.data.toList
    · rw [beq_lists he, h, decide_eq_true he]; rfl
    · rw [beq_false he, h, decide_eq_false he]; rfl
  have HBool := Lib.hid hbool
  clear hok hbool
  go_wp2_with fail
  refine (refturn_any t at_ mask A K ht2 HM.out HA.out HK.out _).mono ?_
  rintro e w5 ⟨⟨v, rfl, hvl⟩, hb5⟩
  have HB5 := Lib.hid (HB4.out.trans (hb5.mono HB4.out.size))
  have e1 := beq_lists (HU.out.trans hvl.symm)
  clear hb5 hvl
  have hA' : (A : Int) = min (max at_ 0) (8 * u.size) := by rw [HUS.out]; exact HA.out
  have hK' : (K : Int) = min 32 (8 * u.size - A) := by rw [HUS.out]; exact HK.out
  have HA' := Lib.hid hA'
  have HK' := Lib.hid hK'
  clear hA' hK'
  have e2 := HBool.out
  go_wp2_with fail
  refine (turn_any u at_ mask A K hu2 HM.out HA'.out HK'.out _).mono ?_
  rintro e w6 ⟨⟨z, rfl, hzl⟩, hb6⟩
  have HB6 := Lib.hid (HB5.out.trans (hb6.mono HB5.out.size))
  have e3 : (z.toList == t.toList) = true := beq_lists (by rw [hzl, HU.out, turn_twice _ _ _ _ HAK.out])
  clear hb6 hzl
  go_wp2_with fail
  go_ret
  exact ⟨rfl, HB6.out⟩

namespace SumBurstsDone
open Go.ChangeMaps (open_string shut_string)
theorem contract (H : Type) (enc : TypeId × Value → H) (W : World) (base : Nat) (args : Array Value) (ds gs : List (DataW H)) (before : List MemPlace)
    (hval : ∀ (j : Nat) t v, Tryd.f5.params[j]? = some t → args[j]? = some v → Value.okWide Tryd.prog W .any base t v)
    (hW : DataW.Whole enc Tryd.prog Tryd.f5.params.toList Rows.sumBurstsSpec.vars false W args.toList ds gs before) (hL : laidMetH Tryd.prog Rows.sumBurstsRow.laid W) :
    Calls Tryd.prog 5 args W fun e W' => ∃ v, e = .returned v ∧ Rows.sumBurstsSpec.post enc Tryd.prog Tryd.f5 false true false false W args v W' := by
  have hW' := hW
  obtain ⟨p, q, hA0, hV, rfl, hfz, hnd⟩ := hW
  have hA : DataW.TrodAll enc Tryd.prog W 0 (fun _ => true) true Tryd.f5.params.toList args.toList ds p := hA0
  rw [Tryd.params5] at hA hval
  obtain ⟨v0, vs0, d0, ds0, p0, q0, hargs, rfl, rfl, h0, r0⟩ := trodAll_cons hA
  obtain ⟨v1, vs1, d1, ds1, p1, q1, rfl, rfl, rfl, h1, r1⟩ := trodAll_cons r0
  obtain ⟨v2, vs2, d2, ds2, p2, q2, rfl, rfl, rfl, h2, r2⟩ := trodAll_cons r1
  obtain ⟨rfl, rfl, rfl⟩ := trodAll_nil r2
  obtain rfl : args = #[v0, v1, v2] := by cases args; simp_all
  obtain ⟨rfl, rfl⟩ := trodVars_none hV
  obtain ⟨s0, rfl, rfl, rfl, w0⟩ := open_string Tryd.underlying9 (hval 0 9 v0 rfl rfl) h0
  obtain ⟨a1, rfl, rfl, rfl, w1⟩ := open_int Tryd.underlying3 (hval 1 3 v1 rfl rfl) h1
  obtain ⟨a2, rfl, rfl, rfl, w2⟩ := open_int Tryd.underlying25 (hval 2 25 v2 rfl rfl) h2
  clear hA0
  simp only [List.append_nil] at hW'
  have hb2 : 0 ≤ a2 ∧ a2 < 4294967296 := by
    have := w2
    simp [Lit.wf, IntKind.min, IntKind.max, IntKind.signed, IntKind.bits] at this
    omega
  obtain ⟨m, rfl⟩ := Int.eq_ofNat_of_zero_le hb2.1
  refine (bursts_walk s0 a1 m (by unfold maxLen at w0; omega) (by omega) W (tab_laid hL)).mono fun e W' ⟨he, bel⟩ => ?_
  subst he
  exact ⟨_, rfl, _, _, _, [], [], [], hW', trodAll_mk1 (shut_bool Tryd.underlying4 _), (trodAll_cons_mk (shut_string Tryd.underlying9 w0) (trodAll_cons_mk (shut_int Tryd.underlying3 w1) (trodAll_cons_mk (shut_int Tryd.underlying25 w2) trodAll_mk0))), rfl, bel.frame _, fun h => by cases h⟩

/-- A WORLD FOR THE WITNESS: the settled one, the table (block 0) holding what its initialiser lays. -/
noncomputable def laidWorld (os : Os) : World :=
  { World.holding Tryd.prog os ⟨#[], #[], []⟩ with heap := (World.holding Tryd.prog os ⟨#[], #[], []⟩).heap.modify 0 fun
      | .cells _ t frozen => .cells ((halfInts.map fun z => Value.int .u32 z).toArray) t frozen
      | o => o }
theorem laid_met (os : Os) : laidMet Tryd.prog Rows.sumBurstsRow.laid ((laidWorld os).forCall (fun _ _ => 0) ⟨#[], #[.string ⟨#[]⟩, .int .i64 0, .int .u32 0], []⟩).memory :=
  laidMet_of_run' 8 (by kernel_rfl) (by kernel_rfl)
theorem reads (os : Os) {H : Type} (enc : TypeId × Value → H) : ∃ places, DataW.whole enc Tryd.prog ((laidWorld os).forCall (fun _ _ => 0) ⟨#[], #[.string ⟨#[]⟩, .int .i64 0, .int .u32 0], []⟩).memory Tryd.f5.params.toList Rows.sumBurstsSpec.vars false #[Value.string ⟨#[]⟩, .int .i64 0, .int .u32 0].toList 8 = some ([.lit (.string []), .lit (.int .i64 0), .lit (.int .u32 0)], [], places) :=
  ⟨[], by kernel_rfl⟩

set_option maxRecDepth 100000 in
theorem lifted (os : Os) (started : os.Started) (H : Type) (enc : TypeId × Value → H) (F : Stop.Interp) :
    ReturnsInHanded {} Tryd.checked os 5 .any ((OpenSpec.ofChange Rows.sumBurstsSpec).preRow enc Tryd.prog Tryd.f5 Rows.sumBurstsRow.domain false Rows.sumBurstsRow.laid) (((OpenSpec.ofChange Rows.sumBurstsSpec).at F).post enc Tryd.prog Tryd.f5 false true false false) := by
  obtain ⟨places, hx⟩ := reads os enc
  refine returnsInHanded_of_row (C := Tryd.checked) (s := OpenSpec.ofChange Rows.sumBurstsSpec) ownKnobNone started (by kernel_rfl) Tryd.func5
    (witness_row_at (enc := enc) (C := Tryd.checked) false (laidWorld os) #[.string ⟨#[]⟩, .int .i64 0, .int .u32 0] rfl (by kernel_rfl) (by kernel_rfl) (by kernel_rfl)
      (OpenSpec.preRow_of_cond 8 hx (by kernel_rfl) (fun k hk => by cases hk) (by kernel_rfl) (laid_met os))) ?_
  intro W base args ds gs before hval hW _ _ _ hL _ _
  exact contract H enc W base args ds gs before hval hW hL

theorem said : Rows.SumBurstsSaid :=
  OpenClaim.holds_of_cond 5 Tryd.f5 rfl rfl rfl rfl rfl rfl rfl ⟨rfl, rfl, rfl, rfl, rfl⟩ rfl rfl rfl rfl rfl (by kernel_rfl) Tryd.func5 (by kernel_rfl)
    (of_decide_eq_true (by kernel_rfl)) (by unfold Func.isWrapper; first | (rw [if_pos (by decide +kernel)]; kernel_rfl) | (rw [if_neg (by decide +kernel)]; exact ⟨rfl, rfl⟩))
    (fun os started H enc _ F => by rw [OpenClaim.pre_eq_preRow]; exact lifted os started H enc F)

theorem plain (f : FuncId) (fn : Func) (hf : Tryd.pinned.checked.prog.funcNamed "tidewrack/tidewracklaw02.SumBursts" = some f) (hfn : Tryd.pinned.checked.prog.funcs[f]? = some fn) :
    false = Tryd.pinned.checked.prog.looks [] ∧ ∀ (j : Nat) t, fn.params[j]? = some t → Tryd.pinned.checked.prog.wantsStandIn t = false := by
  obtain rfl : f = 5 := Option.some.inj ((show Tryd.prog.funcNamed "tidewrack/tidewracklaw02.SumBursts" = some 5 by kernel_rfl).symm.trans hf) |>.symm
  obtain rfl : fn = Tryd.f5 := (Option.some.inj (Tryd.func5.symm.trans hfn)).symm
  refine ⟨by kernel_rfl, fun j t ht => ?_⟩
  rw [Tryd.params5] at ht
  have h3 : t = 9 ∨ t = 3 ∨ t = 25 := by simpa using Array.mem_of_getElem? ht
  rcases h3 with rfl | rfl | rfl
  · exact (show Tryd.prog.wantsStandIn 9 = false by kernel_rfl)
  · exact (show Tryd.prog.wantsStandIn 3 = false by kernel_rfl)
  · exact (show Tryd.prog.wantsStandIn 25 = false by kernel_rfl)

theorem card : Rows.SumBurstsCardSaid :=
  Claim7.holds_tied_plain_at .later [] _ _ _ _ said (fun _ h => by cases h) (by kernel_rfl) (fun _ h => by cases h) sumBursts_row_tie rfl ⟨rfl, rfl⟩ (by kernel_rfl) rfl plain (by kernel_rfl)
end SumBurstsDone
theorem SumBursts_holds : Rows.SumBurstsCardSaid := SumBurstsDone.card
#print axioms SumBursts_holds
end Go.Proofs.YthhaefcglhghfaaDoor
