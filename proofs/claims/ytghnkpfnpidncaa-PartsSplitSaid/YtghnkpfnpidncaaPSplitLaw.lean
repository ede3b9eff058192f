/- PartsSplit: of every text (cut at 300 bytes) and size, the parts are the document's, and joined they are the text. No condition. -/
import Derived.Test.YtghnkpfnpidncaaPSizes
import Derived.Test.YtghnkpfnpidncaaPRef
namespace Go.Proofs.Ytghnkpfnpidncaa
open Go.RowKit
open Go.Proofs.Ytghnkpfnpidncaa.P

namespace P
theorem map_bl_inj : ∀ (a b : List ByteArray), a.map bl = b.map bl → a = b
  | [], [], _ => rfl
  | [], _ :: _, h => by simp at h
  | _ :: _, [], h => by simp at h
  | x :: a, y :: b, h => by
    simp only [List.map_cons, List.cons.injEq] at h
    rw [map_bl_inj a b h.2, ba_eq h.1, ← ba_eq (u := y) rfl]
theorem bl_append (a b : ByteArray) : bl (a ++ b) = bl a ++ bl b := by simp [bl]
end P

set_option maxHeartbeats 2000000 in
theorem split_walk (s : ByteArray) (z : Int) (hs : (s.size : Int) ≤ 9223372036854775807) (w : World) : Calls Try.prog 3 #[.string s, .int .i64 z] w fun e w' => e = .returned (.bool true) ∧ Below w.heap.size w w' := by
  go_enter Try.func3, Try.ntmps3
  go_wp2_with fail
  refine (P.awake_any w).mono ?_
  rintro e w1 ⟨rfl, hb1⟩
  have HB1 := Lib.hid hb1
  clear hb1
  go_wp2_with fail
  refine (P.cut_any s 300 hs (by decide) _).mono ?_
  rintro e w' ⟨⟨t, rfl, hts, htl⟩, rfl⟩
  clear htl
  have hp := szN_pos z
  have HSp := Lib.hid (split_any t z (by omega) w1)
  have HRs := fun W => Lib.hid (rsplit_any t z (by omega) W)
  obtain ⟨sz, hsz⟩ : ∃ sz, szN z = sz := ⟨_, rfl⟩
  have HSz := Lib.hid hsz
  rw [hsz] at hp
  clear hsz
  go_wp2_with fail
  refine HSp.out.mono ?_
  rintro e w2 ⟨v, ss, rfl, hss, hrow, hb2⟩
  rw [HSz.out] at hss
  have hR := P.rows_of hss hrow
  have HR := Lib.hid hR
  have HB2 := Lib.hid (HB1.out.trans (hb2.mono HB1.out.size))
  obtain ⟨g, cap, rfl, _, hg⟩ := hR.shape
  have HC := Lib.hid (hR.cell g cap rfl)
  have hC := hR.len
  obtain ⟨C, hCC⟩ : ∃ C, ss.length = C := ⟨_, rfl⟩
  have HCL := Lib.hid hC
  have HCC := Lib.hid hCC
  have hcl : C ≤ 301 := by
    have := cntN_le t.size sz hp
    rw [← hCC, hC, show (bl t).length = t.size from rfl]
    omega
  rw [hCC]
  clear hss hrow hb2 hR HSp hC hCC
  go_wp2_with fail
  refine (HRs _).out.mono ?_
  rintro e w3 ⟨v2, ss2, rfl, hss2, hrow2, hb3⟩
  rw [HSz.out] at hss2
  obtain rfl : ss2 = ss := P.map_bl_inj _ _ (hss2.trans HR.out.parts.symm)
  have hR2 := P.rows_of hss2 hrow2
  have HB3 := Lib.hid (HB2.out.trans (hb3.mono HB2.out.size))
  have HC3 := Lib.hid (fun i (hi : i < ss2.length) => (hb3.cell (p := ⟨g, i, none⟩) hg).trans (HC.out i hi))
  obtain ⟨g2, cap2, rfl, _, _⟩ := hR2.shape
  have HC2 := Lib.hid (hR2.cell g2 cap2 rfl)
  rw [HCC.out]
  clear hss2 hrow2 hb3 hR2 HRs HC
  go_wp2_with fail
  go_loop [7, 27] (fun a i => ∃ (k : Nat) (u : ByteArray), k ≤ C ∧ i = .int .i64 (k : Int) ∧ a = .string u ∧ Hid (bl u = (bl t).take (k * sz)) ∧ (u.size : Int) ≤ 300) (fun _ i => C - (intOf i).toNat)
  case atStart => exact ⟨0, ⟨#[]⟩, by omega, rfl, rfl, Lib.hid (by simp [bl]), by decide⟩
  case round =>
    obtain ⟨k, u, hk, rfl, rfl, HU, hu⟩ := hrel
    by_cases hlt : k < C
    · have hkl : k < ss2.length := by rw [HCC.out]; exact hlt
      have hc := HC3.out k hkl
      have hc2 := HC2.out k hkl
      have hpart := HR.out.part hkl
      obtain ⟨x, hx⟩ : ∃ x, ss2.getD k ⟨#[]⟩ = x := ⟨_, rfl⟩
      rw [hx] at hc hc2 hpart
      have hnew : bl (u ++ x) = (bl t).take ((k + 1) * sz) := by
        rw [P.bl_append, HU.out, hpart, Nat.add_mul, Nat.one_mul, List.take_add]
        rfl
      have hsize : ((u ++ x).size : Int) ≤ 300 := by
        have h := congrArg List.length hnew
        rw [List.length_take] at h
        have h2 : (bl (u ++ x)).length = (u ++ x).size := rfl
        have h3 : (bl t).length = t.size := rfl
        omega
      have HN := Lib.hid hnew
      have HSi := Lib.hid hsize
      have hsx : (u.size : Int) + x.size ≤ 300 := by
        have h : (u ++ x).size = u.size + x.size := by simp
        omega
      clear hx hpart hnew hsize
      go_wp2
      go_round
      case rel => exact ⟨k + 1, u ++ x, by omega, by go_num, rfl, HN, HSi.out⟩
      case measure => simp [intOf]; omega
    · obtain rfl : k = C := by omega
      have hfin : u = t := by
        have h : bl u = bl t := by
          rw [HU.out, List.take_of_length_le]
          have h2 := flat_take (bl t) sz k
          have h3 := flat_chunks (bl t) sz hp
          unfold chunks at h3
          rw [← HCL.out, HCC.out, h2] at h3
          have h4 := congrArg List.length h3
          rw [List.length_take] at h4
          omega
        rw [ba_eq h, ← ba_eq (u := t) rfl]
      subst hfin
      go_wp2
      go_ret
      exact ⟨by simp, HB3.out⟩

namespace PartsSplitDone
open Go.ChangeShapes Go.WideShapes Go.ChangeAt Go.RowKit
open Go.ChangeMaps (open_string shut_string)
theorem own : ownKnob Try.prog.godebug = none := by kernel_rfl
theorem laidOut : laidOutB Try.prog = true := by kernel_rfl
set_option maxRecDepth 100000 in
theorem lifted (os : Os) (started : os.Started) (H : Type) (enc : TypeId × Value → H) :
    ReturnsInHanded {} Try.checked os 3 .any (Rows.partsSplitSpec.pre6 enc Try.prog Try.f3 Rows.partsSplitRow.domain false) (Rows.partsSplitSpec.post enc Try.prog Try.f3 false true false false) := by
  refine returnsInHanded_of_change (C := Try.checked) own started (by kernel_rfl) Try.func3
    (ChangeSpec.witness6 (enc := enc) (C := Try.checked) false ⟨#[], #[.string ⟨#[]⟩, .int .i64 0], []⟩ 8 (by kernel_rfl) (by kernel_rfl) (by kernel_rfl) (by kernel_rfl)) ?_
  intro W base args ds gs before hval0 hW hcnd _
  have hval : ∀ (j : Nat) t v, Try.f3.params[j]? = some t → args[j]? = some v → Value.okWide Try.prog W .any base t v := hval0
  have hW' := hW
  obtain ⟨p, q, hA0, hV, rfl, hfz, hnd⟩ := hW
  have hA : DataW.TrodAll enc Try.prog W 0 (fun _ => true) true Try.f3.params.toList args.toList ds p := hA0
  rw [Try.params3] at hA hval
  obtain ⟨v0, vs0, d0, ds0, p0, q0, hargs, rfl, rfl, h0, r0⟩ := trodAll_cons hA
  obtain ⟨v1, vs1, d1, ds1, p1, q1, rfl, rfl, rfl, h1, r1⟩ := trodAll_cons r0
  obtain ⟨rfl, rfl, rfl⟩ := trodAll_nil r1
  obtain rfl : args = #[v0, v1] := by cases args; simp_all
  obtain ⟨rfl, rfl⟩ := trodVars_none hV
  obtain ⟨s0, rfl, rfl, rfl, w0⟩ := open_string Try.underlying9 (hval 0 9 v0 rfl rfl) h0
  obtain ⟨a1, rfl, rfl, rfl, w1⟩ := open_int Try.underlying3 (hval 1 3 v1 rfl rfl) h1
  clear hA0 hval0
  simp only [List.append_nil] at hW'
  refine (split_walk s0 a1 (by unfold maxLen at w0; omega) W).mono fun e W' ⟨he, bel⟩ => ?_
  subst he
  exact ⟨_, rfl, _, _, _, [], [], [], hW', trodAll_mk1 (shut_bool Try.underlying4 _), (trodAll_cons_mk (shut_string Try.underlying9 w0) (trodAll_cons_mk (shut_int Try.underlying3 w1) trodAll_mk0)), rfl, bel.frame _, fun h => by cases h⟩

theorem over : Rows.partsSplitRow.holds Try.pinned (OpenSpec.ofChange Rows.partsSplitSpec) :=
  OpenClaim.holds_of_wide 3 Try.f3 rfl rfl rfl rfl rfl rfl rfl ⟨rfl, rfl, rfl, rfl, rfl⟩ rfl rfl rfl rfl rfl (by kernel_rfl) Try.func3 (by kernel_rfl)
    (of_decide_eq_true (by kernel_rfl)) (by unfold Func.isWrapper; first | (rw [if_pos (by decide +kernel)]; kernel_rfl) | (rw [if_neg (by decide +kernel)]; exact ⟨rfl, rfl⟩))
    (fun os started H enc _ => lifted os started H enc)
end PartsSplitDone
theorem PartsSplit_holds : Rows.PartsSplitSaid := PartsSplitDone.over
#print axioms PartsSplit_holds

end Go.Proofs.Ytghnkpfnpidncaa
