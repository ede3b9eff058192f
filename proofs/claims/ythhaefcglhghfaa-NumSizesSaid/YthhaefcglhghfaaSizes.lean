/- NumSizes: of any two numbers the greater one has no fewer bytes, and never more than nine. No condition. -/
import Derived.Test.YthhaefcglhghfaaAwake
import Derived.ProofKit
import Derived.OpenShut
namespace Go.Proofs.Ythhaefcglhghfaa
open Go.RowKit

set_option maxRecDepth 100000 in
set_option maxHeartbeats 1000000 in
theorem sizes_walk (a b : Int) (w : World) : Calls Try.prog 7 #[.int .i64 a, .int .i64 b] w fun e w' => e = .returned (.bool true) ∧ Below w.heap.size w w' := by
  rcases Int.lt_trichotomy b a with hab | rfl | hab
  all_goals
    go_enter Try.func7, Try.ntmps7
    go_wp2_with fail
    refine (awake_any _).mono ?_
    rintro e w1 ⟨rfl, hb1⟩
    have HB1 := Lib.hid hb1
    clear hb1
    go_wp2_with fail
    refine (size_any _ _).mono ?_
    rintro e w2 ⟨rfl, hb2⟩
    have HB2 := Lib.hid (HB1.out.trans (hb2.mono HB1.out.size))
    clear hb2
    go_wp2_with fail
    refine (size_any _ _).mono ?_
    rintro e w3 ⟨rfl, hb3⟩
    have HB3 := Lib.hid (HB2.out.trans (hb3.mono HB2.out.size))
    clear hb3
  · have q1 := digs_pos (clipN b)
    have q2 := digs_mono (clipN a) (clipN b) (clipN_mono (Int.le_of_lt hab))
    have q3 := digs_nine (clipN a) (clipN_le a)
    obtain ⟨X, hX⟩ : ∃ X, (digs (clipN b)).length = X := ⟨_, rfl⟩
    obtain ⟨Y, hY⟩ : ∃ Y, (digs (clipN a)).length = Y := ⟨_, rfl⟩
    rw [hX] at q1 q2 ⊢
    rw [hY] at q2 q3 ⊢
    clear hX hY
    go_wp2
    go_ret
    refine ⟨?_, HB3.out⟩
    simp
    omega
  · have q1 := digs_pos (clipN b)
    have q3 := digs_nine (clipN b) (clipN_le b)
    obtain ⟨X, hX⟩ : ∃ X, (digs (clipN b)).length = X := ⟨_, rfl⟩
    rw [hX] at q1 q3 ⊢
    clear hX
    go_wp2
    go_ret
    refine ⟨?_, HB3.out⟩
    simp
    omega
  · have q1 := digs_pos (clipN a)
    have q2 := digs_mono (clipN b) (clipN a) (clipN_mono (Int.le_of_lt hab))
    have q3 := digs_nine (clipN b) (clipN_le b)
    obtain ⟨X, hX⟩ : ∃ X, (digs (clipN a)).length = X := ⟨_, rfl⟩
    obtain ⟨Y, hY⟩ : ∃ Y, (digs (clipN b)).length = Y := ⟨_, rfl⟩
    rw [hX] at q1 q2 ⊢
    rw [hY] at q2 q3 ⊢
    clear hX hY
    go_wp2
    go_ret
    refine ⟨?_, HB3.out⟩
    simp
    omega

namespace NumSizesDone
open Go.ChangeShapes Go.WideShapes Go.ChangeAt Go.RowKit
open Go.ChangeMaps (open_string shut_string)
theorem own : ownKnob Try.prog.godebug = none := by kernel_rfl
theorem laidOut : laidOutB Try.prog = true := by kernel_rfl
set_option maxRecDepth 100000 in
theorem lifted (os : Os) (started : os.Started) (H : Type) (enc : TypeId × Value → H) :
    ReturnsInHanded {} Try.checked os 7 .any (Rows.numSizesSpec.pre6 enc Try.prog Try.f7 Rows.numSizesRow.domain false) (Rows.numSizesSpec.post enc Try.prog Try.f7 false true false false) := by
  refine returnsInHanded_of_change (C := Try.checked) own started (by kernel_rfl) Try.func7
    (ChangeSpec.witness6 (enc := enc) (C := Try.checked) false ⟨#[], #[.int .i64 0, .int .i64 0], []⟩ 8 (by kernel_rfl) (by kernel_rfl) (by kernel_rfl) (by kernel_rfl)) ?_
  intro W base args ds gs before hval0 hW hcnd _
  have hval : ∀ (j : Nat) t v, Try.f7.params[j]? = some t → args[j]? = some v → Value.okWide Try.prog W .any base t v := hval0
  have hW' := hW
  obtain ⟨p, q, hA0, hV, rfl, hfz, hnd⟩ := hW
  have hA : DataW.TrodAll enc Try.prog W 0 (fun _ => true) true Try.f7.params.toList args.toList ds p := hA0
  rw [Try.params7] at hA hval
  obtain ⟨v0, vs0, d0, ds0, p0, q0, hargs, rfl, rfl, h0, r0⟩ := trodAll_cons hA
  obtain ⟨v1, vs1, d1, ds1, p1, q1, rfl, rfl, rfl, h1, r1⟩ := trodAll_cons r0
  obtain ⟨rfl, rfl, rfl⟩ := trodAll_nil r1
  obtain rfl : args = #[v0, v1] := by cases args; simp_all
  obtain ⟨rfl, rfl⟩ := trodVars_none hV
  obtain ⟨a0, rfl, rfl, rfl, w0⟩ := open_int Try.underlying3 (hval 0 3 v0 rfl rfl) h0
  obtain ⟨a1, rfl, rfl, rfl, w1⟩ := open_int Try.underlying3 (hval 1 3 v1 rfl rfl) h1
  clear hA0 hval0
  simp only [List.append_nil] at hW'
  refine (sizes_walk a0 a1 W).mono fun e W' ⟨he, bel⟩ => ?_
  subst he
  exact ⟨_, rfl, _, _, _, [], [], [], hW', trodAll_mk1 (shut_bool Try.underlying4 _), (trodAll_cons_mk (shut_int Try.underlying3 w0) (trodAll_cons_mk (shut_int Try.underlying3 w1) trodAll_mk0)), rfl, bel.frame _, fun h => by cases h⟩

theorem over : Rows.numSizesRow.holds Try.pinned (OpenSpec.ofChange Rows.numSizesSpec) :=
  OpenClaim.holds_of_wide 7 Try.f7 rfl rfl rfl rfl rfl rfl rfl ⟨rfl, rfl, rfl, rfl, rfl⟩ rfl rfl rfl rfl rfl (by kernel_rfl) Try.func7 (by kernel_rfl)
    (of_decide_eq_true (by kernel_rfl)) (by unfold Func.isWrapper; first | (rw [if_pos (by decide +kernel)]; kernel_rfl) | (rw [if_neg (by decide +kernel)]; exact ⟨rfl, rfl⟩))
    (fun os started H enc _ => lifted os started H enc)
end NumSizesDone
theorem NumSizes_holds : Rows.NumSizesSaid := NumSizesDone.over
#print axioms NumSizes_holds
end Go.Proofs.Ythhaefcglhghfaa
