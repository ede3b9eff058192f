/- NumOnly: of every text (cut at twenty bytes) bytes that are read as a number are just that number's; beside an error nothing is left. No condition. -/
import Derived.Test.YthhaefcglhghfaaAwake
import Derived.ProofKit
import Derived.OpenShut
namespace Go.Proofs.Ythhaefcglhghfaa
open Go.RowKit

set_option maxHeartbeats 400000 in
theorem cut_any (s : ByteArray) (n : Nat) (hs : (s.size : Int) ≤ 9223372036854775807) (hn : (n : Int) ≤ 1000) (w : World) :
    Calls Try.prog 10 #[.string s, .int .i64 n] w fun e w' => (∃ t : ByteArray, e = .returned (.string t) ∧ (t.size : Int) ≤ n ∧ t.data.toList = s.data.toList.take n) ∧ w = w' := by
  go_enter Try.func10, Try.ntmps10
  go_wp2
  · have h : n < s.size := by assumption
    go_ret
    refine ⟨⟨_, rfl, ?_, ?_⟩, rfl⟩
    · simp; omega
    · simp
  · have h : ¬ n < s.size := by assumption
    go_ret
    refine ⟨⟨_, rfl, ?_, ?_⟩, rfl⟩
    · omega
    · rw [List.take_of_length_le (by show s.size ≤ n; omega)]

set_option maxRecDepth 100000 in
set_option maxHeartbeats 1000000 in
theorem only_walk (s : ByteArray) (hs : (s.size : Int) ≤ 9223372036854775807) (w : World) : Calls Try.prog 6 #[.string s] w fun e w' => e = .returned (.bool true) ∧ Below w.heap.size w w' := by
  go_enter Try.func6, Try.ntmps6
  go_wp2_with fail
  refine (awake_any _).mono ?_
  rintro e w1 ⟨rfl, hb1⟩
  have HB1 := Lib.hid hb1
  clear hb1
  go_wp2_with fail
  refine (cut_any s 20 hs (by decide) _).mono ?_
  rintro e w' ⟨⟨t, rfl, hts, _⟩, rfl⟩
  go_wp2_with fail
  refine (of_any t (by omega) _).mono ?_
  rintro e w2 ⟨rfl, hi2, hw2⟩
  have HB2 : Hid (Below w.heap.size w w2) := Lib.hid (by rw [hw2]; exact HB1.out.alloc HB1.out.size _)
  have hs1 := HB1.out.size
  have HI2 := Lib.hid hi2
  obtain ⟨p, hp⟩ : ∃ p, w1.heap.size = p := ⟨_, rfl⟩
  rw [hp] at HI2 hs1 ⊢
  clear hi2 hw2 hp
  obtain ⟨v, sz, er, hfs⟩ : ∃ v sz er, firstS t.data.toList = (v, sz, er) := ⟨_, _, _, rfl⟩
  have h1 := innum_any p t.data.toList 0 w2 HI2.out
  by_cases her : er = 0
  · subst her
    obtain ⟨htk, htop, hsz, hle⟩ := first_only hfs
    rw [show numS t.data.toList 0 = ((t.data.toList.drop sz, 0), v) from by simp [numS, hfs]] at h1
    have H1 := Lib.hid h1
    have HTk := Lib.hid htk
    have hcl : clipN (v : Int) = v := by unfold clipN; simp; omega
    have HCl := Lib.hid hcl
    have hszt : (sz : Int) ≤ t.size := by have : t.data.toList.length = t.size := rfl; omega
    have hdl : ((t.data.toList.drop sz).length : Int) = t.size - sz := by have : t.data.toList.length = t.size := rfl; simp; omega
    have HDl := Lib.hid hdl
    have hdigs : (digs v).length = sz := by rw [← htk]; simp; omega
    have HDg := Lib.hid hdigs
    clear h1 htk hcl hfs hle hdl htop hdigs
    go_wp2_with fail
    refine H1.out.mono ?_
    rintro e w3 ⟨rfl, hi3, hg3⟩
    have HI3 := Lib.hid hi3
    have HB3 : Hid (Below w.heap.size w w3) := Lib.hid (below_of_grown HB2.out hg3 HB2.out.size hs1)
    clear hi3 hg3
    go_wp2_with fail
    refine (err_any _ _ _ _ HI3.out).mono ?_
    rintro e w' ⟨rfl, rfl⟩
    have hN := num_one w3.heap.size w3.heap.size v [] (w3.alloc (.cells #[.slice none 0 0] 26)) (by decide) (Nat.le_refl _) (out_new _ _) (by simp)
    rw [World.size_alloc] at hN
    have HN := Lib.hid hN
    clear hN
    go_wp2_with fail
    refine HN.out.mono ?_
    rintro e w4 ⟨rfl, hO4, hB4, hK4⟩
    have hs3 := HB3.out.size
    have hplt : p < w3.heap.size := by obtain ⟨_, hb, _⟩ := HI3.out; exact hb.lt
    have HO4 := Lib.hid hO4
    have HI4 : Hid (InSt p (t.data.toList.drop sz) 0 w4) := Lib.hid (((HI3.out.alloc _).alloc _).keeps hK4 (by omega))
    have HB4 : Hid (Below w.heap.size w w4) := Lib.hid (((HB3.out.alloc hs3 _).alloc (by simp; omega) _).trans (hB4.mono hs3))
    clear hO4 hB4 hK4
    go_wp2_with fail
    refine (bytes_any _ _ _ _ HO4.out).mono ?_
    rintro e w' ⟨rfl, rfl⟩
    rw [HCl.out, List.nil_append]
    go_wp2_with fail
    refine (left_any _ _ _ _ HI4.out).mono ?_
    rintro e w' ⟨rfl, rfl⟩
    rw [HDl.out]
    have heq : ((⟨(digs v).toArray⟩ : ByteArray).toList == (t.extract 0 sz).toList) = true := by
      rw [ByteArray.toList_eq, ByteArray.toList_eq, beq_iff_eq, ← HTk.out]
      simp
    obtain ⟨D, hD⟩ : ∃ D : ByteArray, (⟨(digs v).toArray⟩ : ByteArray) = D := ⟨_, rfl⟩
    rw [hD] at heq ⊢
    clear hD
    have hsub : (t.size : Int) - ((t.size : Int) - sz) = sz := by omega
    go_wp2_with fail
    refine (size_any _ _).mono ?_
    rintro e w5 ⟨rfl, hb5⟩
    rw [HCl.out, HDg.out]
    have HB5 : Hid (Below w.heap.size w w5) := Lib.hid (HB4.out.trans (hb5.mono HB4.out.size))
    have hb5s := hb5.size
    have HI5 : Hid (InSt p (t.data.toList.drop sz) 0 w5) := Lib.hid (by
      obtain ⟨s', q1, q2, q3⟩ := HI4.out
      exact ⟨s', (hb5.block p q1.lt).trans q1, q2, q3⟩)
    clear hb5
    go_wp2_with fail
    refine (left_any _ _ _ _ HI5.out).mono ?_
    rintro e w' ⟨rfl, rfl⟩
    rw [HDl.out]
    go_wp2_with fail
    go_ret
    exact ⟨rfl, HB5.out⟩
  · obtain ⟨_, _, her2⟩ := scan_err _ _ _ _ _ _ hfs her
    rw [show numS t.data.toList 0 = (([], er), 0) from by simp [numS, hfs, her, failS]] at h1
    have H1 := Lib.hid h1
    have ht2 : ((er : Int) != 0) = true := by rw [bne_iff_ne]; omega
    have ht3 : ((er : Int) == 0) = false := by rw [beq_eq_false_iff_ne]; omega
    clear h1 hfs her her2
    go_wp2_with fail
    refine H1.out.mono ?_
    rintro e w3 ⟨rfl, hi3, hg3⟩
    have HI3 := Lib.hid hi3
    have HB3 : Hid (Below w.heap.size w w3) := Lib.hid (below_of_grown HB2.out hg3 HB2.out.size hs1)
    clear hi3 hg3
    go_wp2_with fail
    refine (err_any _ _ _ _ HI3.out).mono ?_
    rintro e w' ⟨rfl, rfl⟩
    go_wp2_with fail
    refine (left_any _ _ _ _ HI3.out).mono ?_
    rintro e w' ⟨rfl, rfl⟩
    go_wp2_with fail
    go_ret
    exact ⟨rfl, HB3.out⟩

namespace NumOnlyDone
open Go.ChangeShapes Go.WideShapes Go.ChangeAt Go.RowKit
open Go.ChangeMaps (open_string shut_string)
theorem own : ownKnob Try.prog.godebug = none := by kernel_rfl
theorem laidOut : laidOutB Try.prog = true := by kernel_rfl
set_option maxRecDepth 100000 in
theorem lifted (os : Os) (started : os.Started) (H : Type) (enc : TypeId × Value → H) :
    ReturnsInHanded {} Try.checked os 6 .any (Rows.numOnlySpec.pre6 enc Try.prog Try.f6 Rows.numOnlyRow.domain false) (Rows.numOnlySpec.post enc Try.prog Try.f6 false true false false) := by
  refine returnsInHanded_of_change (C := Try.checked) own started (by kernel_rfl) Try.func6
    (ChangeSpec.witness6 (enc := enc) (C := Try.checked) false ⟨#[], #[.string ⟨#[]⟩], []⟩ 8 (by kernel_rfl) (by kernel_rfl) (by kernel_rfl) (by kernel_rfl)) ?_
  intro W base args ds gs before hval0 hW hcnd _
  have hval : ∀ (j : Nat) t v, Try.f6.params[j]? = some t → args[j]? = some v → Value.okWide Try.prog W .any base t v := hval0
  have hW' := hW
  obtain ⟨p, q, hA0, hV, rfl, hfz, hnd⟩ := hW
  have hA : DataW.TrodAll enc Try.prog W 0 (fun _ => true) true Try.f6.params.toList args.toList ds p := hA0
  rw [Try.params6] at hA hval
  obtain ⟨v0, vs0, d0, ds0, p0, q0, hargs, rfl, rfl, h0, r0⟩ := trodAll_cons hA
  obtain ⟨rfl, rfl, rfl⟩ := trodAll_nil r0
  obtain rfl : args = #[v0] := by cases args; simp_all
  obtain ⟨rfl, rfl⟩ := trodVars_none hV
  obtain ⟨s0, rfl, rfl, rfl, w0⟩ := open_string Try.underlying9 (hval 0 9 v0 rfl rfl) h0
  clear hA0 hval0
  simp only [List.append_nil] at hW'
  refine (only_walk s0 (by unfold maxLen at w0; omega) W).mono fun e W' ⟨he, bel⟩ => ?_
  subst he
  exact ⟨_, rfl, _, _, _, [], [], [], hW', trodAll_mk1 (shut_bool Try.underlying4 _), (trodAll_cons_mk (shut_string Try.underlying9 w0) trodAll_mk0), rfl, bel.frame _, fun h => by cases h⟩

theorem over : Rows.numOnlyRow.holds Try.pinned (OpenSpec.ofChange Rows.numOnlySpec) :=
  OpenClaim.holds_of_wide 6 Try.f6 rfl rfl rfl rfl rfl rfl rfl ⟨rfl, rfl, rfl, rfl, rfl⟩ rfl rfl rfl rfl rfl (by kernel_rfl) Try.func6 (by kernel_rfl)
    (of_decide_eq_true (by kernel_rfl)) (by unfold Func.isWrapper; first | (rw [if_pos (by decide +kernel)]; kernel_rfl) | (rw [if_neg (by decide +kernel)]; exact ⟨rfl, rfl⟩))
    (fun os started H enc _ => lifted os started H enc)
end NumOnlyDone
theorem NumOnly_holds : Rows.NumOnlySaid := NumOnlyDone.over
#print axioms NumOnly_holds
end Go.Proofs.Ythhaefcglhghfaa
