/- PartsSizes: of every text (cut at 300 bytes) and size, all parts but the last have that size, none is greater, none is empty but of an empty text, and there are as many as the document says. No condition. -/
import Derived.Test.YtghnkpfnpidncaaPAwake
import Derived.Lib.MinMax
import Derived.ProofKit
import Derived.OpenShut
namespace Go.Proofs.Ytghnkpfnpidncaa
open Go.RowKit
open Go.Proofs.Ytghnkpfnpidncaa.P

namespace P
theorem cut_any (s : ByteArray) (n : Nat) (_ : (s.size : Int) ≤ 9223372036854775807) (hn : (n : Int) ≤ 1000) (w : World) :
    Calls Try.prog 8 #[.string s, .int .i64 n] w fun e w' => (∃ t : ByteArray, e = .returned (.string t) ∧ (t.size : Int) ≤ n ∧ bl t = (bl s).take n) ∧ w = w' := by
  go_enter Try.func8, Try.ntmps8
  go_wp2
  · have h : n < s.size := by assumption
    go_ret
    refine ⟨⟨_, rfl, ?_, ?_⟩, rfl⟩
    · simp; omega
    · simp [bl]
  · have h : ¬ n < s.size := by assumption
    go_ret
    refine ⟨⟨_, rfl, ?_, ?_⟩, rfl⟩
    · omega
    · rw [List.take_of_length_le (by show s.size ≤ n; omega)]
theorem in_lt (len n k : Nat) (hn : 1 ≤ n) (hl : 1 ≤ len) (hk : k < cntN len n) : k * n < len := by
  rcases Nat.eq_zero_or_pos k with h | h
  · subst h; omega
  · obtain ⟨j, rfl⟩ : ∃ j, k = j + 1 := ⟨k - 1, by omega⟩
    have := (more_iff len n j hn (by omega)).2 (by omega)
    have e : (j + 1) * n = j * n + n := by rw [Nat.add_mul, Nat.one_mul]
    omega
theorem cnt_int (len n : Nat) (hn : 1 ≤ n) : max (1 : Int) (((len : Int) + n - 1) / n) = (cntN len n : Int) := by
  unfold cntN
  have e : ((len : Int) + n - 1) = ((len + n - 1 : Nat) : Int) := by omega
  rw [e, ← Int.natCast_ediv]
  omega
theorem sz_int (z : Int) : max (1 : Int) (min z 8000) = (szN z : Int) := by unfold szN; omega
/-- The texts that Split gave, as a walk meets them. -/
structure Rows (w : World) (v : Value) (base : Nat) (ss : List ByteArray) (l : List UInt8) (sz : Nat) : Prop where
  parts : ss.map bl = chunks l sz
  shape : ∃ g cap, v = .slice (some ⟨g, 0, none⟩) ss.length cap ∧ base ≤ g ∧ g < w.heap.size
  cell : ∀ g cap, v = .slice (some ⟨g, 0, none⟩) ss.length cap → ∀ i, i < ss.length → w.cell? ⟨g, i, none⟩ = some (.string (ss.getD i ⟨#[]⟩))
theorem rows_of {w : World} {v : Value} {base : Nat} {ss : List ByteArray} {l : List UInt8} {sz : Nat} (h1 : ss.map bl = chunks l sz) (h : w.ownsRow base 9 1 v ss.length (ss.map Value.string)) : Rows w v base ss l sz := by
  have hlen : ss.length = cntN l.length sz := by have := congrArg List.length h1; simpa [chunks_len] using this
  have hpos := cntN_pos l.length sz
  obtain ⟨k, hk⟩ : ∃ k, ss.length = k + 1 := ⟨ss.length - 1, by omega⟩
  have h' := h
  rw [hk] at h'
  obtain ⟨g, cap, hv⟩ := ownsRow_succ h'
  rw [← hk] at hv
  refine ⟨h1, ⟨g, cap, hv, ?_⟩, ?_⟩
  · exact h.lt g (by rw [hv]; rfl)
  · intro g' cap' hv' i hi
    have hc := h.cells (g := g') (by rw [hv']; rfl) i (.string (ss.getD i ⟨#[]⟩)) (by simp [List.getD_eq_getElem?_getD, hi])
    have hadd : (⟨g', 0, none⟩ : Addr).add i = ⟨g', i, none⟩ := by unfold Addr.add; split <;> simp_all
    rwa [hadd] at hc
theorem Rows.len {w : World} {v : Value} {base : Nat} {ss : List ByteArray} {l : List UInt8} {sz : Nat} (h : Rows w v base ss l sz) : ss.length = cntN l.length sz := by
  have := congrArg List.length h.parts
  simpa [chunks_len] using this
theorem Rows.part {w : World} {v : Value} {base : Nat} {ss : List ByteArray} {l : List UInt8} {sz : Nat} (h : Rows w v base ss l sz) {i : Nat} (hi : i < ss.length) : bl (ss.getD i ⟨#[]⟩) = chunk l sz i := by
  have h1 : (ss.map bl).getD i [] = (chunks l sz).getD i [] := by rw [h.parts]
  rw [chunks_getD _ _ _ (by rw [← h.len]; exact hi)] at h1
  rw [← h1]
  simp [List.getD_eq_getElem?_getD, hi]
end P

set_option maxHeartbeats 2000000 in
theorem sizes_walk (s : ByteArray) (z : Int) (hs : (s.size : Int) ≤ 9223372036854775807) (w : World) : Calls Try.prog 6 #[.string s, .int .i64 z] w fun e w' => e = .returned (.bool true) ∧ Below w.heap.size w w' := by
  go_enter Try.func6, Try.ntmps6
  go_wp2_with fail
  refine (P.awake_any w).mono ?_
  rintro e w1 ⟨rfl, hb1⟩
  have HB1 := Lib.hid hb1
  clear hb1
  go_wp2_with fail
  refine (P.cut_any s 300 hs (by decide) _).mono ?_
  rintro e w' ⟨⟨t, rfl, hts, htl⟩, rfl⟩
  clear htl
  have hmx := P.sz_int z
  have hp := szN_pos z
  have hl := szN_le z
  obtain ⟨sz, hsz⟩ : ∃ sz, szN z = sz := ⟨_, rfl⟩
  rw [hsz] at hmx hp hl
  have HSz := Lib.hid hsz
  have HSp := Lib.hid (split_any t z (by omega) w1)
  clear hsz
  go_wp2_with fail
  refine HSp.out.mono ?_
  rintro e w2 ⟨v, ss, rfl, hss, hrow, hb2⟩
  rw [HSz.out] at hss
  have hR := P.rows_of hss hrow
  have HR := Lib.hid hR
  have HB2 := Lib.hid (HB1.out.trans (hb2.mono HB1.out.size))
  obtain ⟨g, cap, rfl, _, _⟩ := hR.shape
  have HC := Lib.hid (hR.cell g cap rfl)
  have hC := hR.len
  obtain ⟨C, hCC⟩ : ∃ C, ss.length = C := ⟨_, rfl⟩
  have hcd : max (1 : Int) (((t.size : Int) + sz - 1) / sz) = (C : Int) := by rw [P.cnt_int t.size sz hp, ← hCC, hC]; rfl
  have HCL := Lib.hid hC
  have HCC := Lib.hid hCC
  have hcl : C ≤ 301 := by
    have := cntN_le t.size sz hp
    rw [← hCC, hC, show (bl t).length = t.size from rfl]
    omega
  have hcp : 1 ≤ C := by rw [← hCC, hC]; exact cntN_pos _ _
  rw [hCC]
  clear hss hrow hb2 hR hC hCC HSp
  go_wp2_with fail
  go_loop [21] (fun i => ∃ k : Nat, k ≤ C ∧ i = .int .i64 (k : Int)) (fun i => C - (intOf i).toNat)
  case atStart => exact ⟨0, by omega, rfl⟩
  case round =>
    obtain ⟨k, hk, rfl⟩ := hrel
    by_cases hlt : k < C
    · have hkl : k < ss.length := by rw [HCC.out]; exact hlt
      have hc := HC.out k hkl
      have hpart := HR.out.part hkl
      obtain ⟨x, hx⟩ : ∃ x, ss.getD k ⟨#[]⟩ = x := ⟨_, rfl⟩
      rw [hx] at hc hpart
      have hlenx : x.size = min sz (t.size - k * sz) := by
        have h := congrArg List.length hpart
        rw [chunk_len] at h
        exact h
      have hkc : k < cntN (bl t).length sz := by rw [← HCL.out, HCC.out]; exact hlt
      have hle : (x.size : Int) ≤ sz := by omega
      have hempty : (x.toList.isEmpty = false) ∨ (t.toList.isEmpty = true ∧ x.toList.isEmpty = true) := by
        rcases Nat.eq_zero_or_pos t.size with h0 | h0
        · right
          have e1 : x.size = 0 := by omega
          constructor <;> rw [ByteArray.toList_eq]
          · have : t.data.toList = [] := List.length_eq_zero_iff.1 h0
            rw [this]; rfl
          · have : x.data.toList = [] := List.length_eq_zero_iff.1 e1
            rw [this]; rfl
        · left
          have h2 := P.in_lt t.size sz k hp h0 hkc
          rw [ByteArray.toList_eq]
          cases hxx : x.data.toList with
          | nil =>
            have : x.size = 0 := by rw [← bl_len]; unfold bl; rw [hxx]; rfl
            omega
          | cons a b => rfl
      have HP := Lib.hid hpart
      have hnle : ¬ (sz : Int) < x.size := by omega
      by_cases hlast : k + 1 < C
      · have hfull : x.size = sz := by
          have h := chunk_full (bl t) sz k hp (by rw [← HCL.out, HCC.out]; exact hlast)
          rw [← HP.out] at h
          exact h
        have hk1 : (k : Int) < (C : Int) - 1 := by omega
        have hfi : (x.size : Int) = sz := by omega
        have hne : ((x.size : Int) != (sz : Int)) = false := by rw [hfi]; simp
        clear hx hpart hlenx hkc hfull hfi
        rcases hempty with he | ⟨he1, he2⟩
        · go_wp2
          go_round
          case rel => exact ⟨k + 1, by omega, by go_num⟩
          case measure => simp [intOf]; omega
        · go_wp2
          go_round
          case rel => exact ⟨k + 1, by omega, by go_num⟩
          case measure => simp [intOf]; omega
      · have hk1 : ¬ (k : Int) < (C : Int) - 1 := by omega
        clear hx hpart hlenx hkc
        rcases hempty with he | ⟨he1, he2⟩
        · go_wp2
          go_round
          case rel => exact ⟨k + 1, by omega, by go_num⟩
          case measure => simp [intOf]; omega
        · go_wp2
          go_round
          case rel => exact ⟨k + 1, by omega, by go_num⟩
          case measure => simp [intOf]; omega
    · obtain rfl : k = C := by omega
      go_wp2
      go_ret
      exact ⟨rfl, HB2.out⟩

namespace PartsSizesDone
open Go.ChangeShapes Go.WideShapes Go.ChangeAt Go.RowKit
open Go.ChangeMaps (open_string shut_string)
theorem own : ownKnob Try.prog.godebug = none := by kernel_rfl
theorem laidOut : laidOutB Try.prog = true := by kernel_rfl
set_option maxRecDepth 100000 in
theorem lifted (os : Os) (started : os.Started) (H : Type) (enc : TypeId × Value → H) :
    ReturnsInHanded {} Try.checked os 6 .any (Rows.partsSizesSpec.pre6 enc Try.prog Try.f6 Rows.partsSizesRow.domain false) (Rows.partsSizesSpec.post enc Try.prog Try.f6 false true false false) := by
  refine returnsInHanded_of_change (C := Try.checked) own started (by kernel_rfl) Try.func6
    (ChangeSpec.witness6 (enc := enc) (C := Try.checked) false ⟨#[], #[.string ⟨#[]⟩, .int .i64 0], []⟩ 8 (by kernel_rfl) (by kernel_rfl) (by kernel_rfl) (by kernel_rfl)) ?_
  intro W base args ds gs before hval0 hW hcnd _
  have hval : ∀ (j : Nat) t v, Try.f6.params[j]? = some t → args[j]? = some v → Value.okWide Try.prog W .any base t v := hval0
  have hW' := hW
  obtain ⟨p, q, hA0, hV, rfl, hfz, hnd⟩ := hW
  have hA : DataW.TrodAll enc Try.prog W 0 (fun _ => true) true Try.f6.params.toList args.toList ds p := hA0
  rw [Try.params6] at hA hval
  obtain ⟨v0, vs0, d0, ds0, p0, q0, hargs, rfl, rfl, h0, r0⟩ := trodAll_cons hA
  obtain ⟨v1, vs1, d1, ds1, p1, q1, rfl, rfl, rfl, h1, r1⟩ := trodAll_cons r0
  obtain ⟨rfl, rfl, rfl⟩ := trodAll_nil r1
  obtain rfl : args = #[v0, v1] := by cases args; simp_all
  obtain ⟨rfl, rfl⟩ := trodVars_none hV
  obtain ⟨s0, rfl, rfl, rfl, w0⟩ := open_string Try.underlying9 (hval 0 9 v0 rfl rfl) h0
  obtain ⟨a1, rfl, rfl, rfl, w1⟩ := open_int Try.underlying3 (hval 1 3 v1 rfl rfl) h1
  clear hA0 hval0
  simp only [List.append_nil] at hW'
  refine (sizes_walk s0 a1 (by unfold maxLen at w0; omega) W).mono fun e W' ⟨he, bel⟩ => ?_
  subst he
  exact ⟨_, rfl, _, _, _, [], [], [], hW', trodAll_mk1 (shut_bool Try.underlying4 _), (trodAll_cons_mk (shut_string Try.underlying9 w0) (trodAll_cons_mk (shut_int Try.underlying3 w1) trodAll_mk0)), rfl, bel.frame _, fun h => by cases h⟩

theorem over : Rows.partsSizesRow.holds Try.pinned (OpenSpec.ofChange Rows.partsSizesSpec) :=
  OpenClaim.holds_of_wide 6 Try.f6 rfl rfl rfl rfl rfl rfl rfl ⟨rfl, rfl, rfl, rfl, rfl⟩ rfl rfl rfl rfl rfl (by kernel_rfl) Try.func6 (by kernel_rfl)
    (of_decide_eq_true (by kernel_rfl)) (by unfold Func.isWrapper; first | (rw [if_pos (by decide +kernel)]; kernel_rfl) | (rw [if_neg (by decide +kernel)]; exact ⟨rfl, rfl⟩))
    (fun os started H enc _ => lifted os started H enc)
end PartsSizesDone
theorem PartsSizes_holds : Rows.PartsSizesSaid := PartsSizesDone.over
#print axioms PartsSizes_holds

end Go.Proofs.Ytghnkpfnpidncaa
