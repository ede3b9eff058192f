/- The contract of wide.Fit: of any runes, how many of the first ones fit. -/
import Derived.Test.YtkdkhphpknnceaaDoorMerged2
namespace Go.Proofs.YtkdkhphpknnceaaDoor.W
open Go.RowKit Go.Shelf

attribute [local go_sem] Oper.semAt_some

theorem ownFrom_pure' {β : Type} (B : Nat) (p : β → Prop) : OwnFrom B (fun s _ => p s) := fun _ _ _ _ hs _ _ => hs

set_option maxRecDepth 100000 in
set_option maxHeartbeats 2000000 in
theorem fit_in (n : Nat) (hn : 4 ≤ n) (v : Int) (hv1 : -9223372036854775808 ≤ v) (hv2 : v ≤ 9223372036854775807) (a : Option Addr) (len cap : Nat) (zs : List Int) (w : World) (h : Rn a len zs w) :
    CallsIn Fence.wide n Tryd.prog 31 #[.int .i64 v, .slice a len cap] w fun e W' => e = .returned (.int .i64 (fitS v zs : Int)) ∧ Below w.heap.size w W' := by
  have h1 : 1 ≤ n := by omega
  have hpos := h.tb.pos
  have hfew := h.few
  have hlt := h.lt
  refine callsIn_of_wp_marks Tryd.func31 rfl trivial ?_ rfl
  simp only [Tryd.ntmps31, List.size_toArray, List.length_cons, List.length_nil, Nat.reduceAdd, Nat.reduceSub, Array.replicate_succ, Array.replicate_zero, List.push_toArray, List.append_toArray, List.nil_append, List.cons_append]
  have HR := Lib.hid h
  have HLt := Lib.hid hlt
  have HV1 := Lib.hid hv1
  have HV2 := Lib.hid hv2
  clear h hlt hv1 hv2
  gi_wp2_with fail
  refine ⟨by first | trivial | omega, ?_⟩
  refine (columns_in (n - 1) a len cap _).mono ?_
  rintro e w' ⟨rfl, rfl⟩
  obtain ⟨wA, hwA⟩ : ∃ wA, wA = (w.alloc (.cells #[.int .i64 0] 3)).alloc (.cells #[.int .i64 v] 3) := ⟨_, rfl⟩
  have hsA : wA.heap.size = w.heap.size + 2 := by rw [hwA]; simp
  have bA : Below w.heap.size w wA := by rw [hwA]; exact ((Below.refl _ _).alloc (Nat.le_refl _) _).alloc (by simp) _
  have bN : Boxed wA w.heap.size 3 (.int .i64 0) := by rw [hwA]; exact (Boxed.new w 3 _).alloc _
  have bV : Boxed wA (w.heap.size + 1) 3 (.int .i64 v) := by
    rw [hwA]
    have h := Boxed.new (w.alloc (.cells #[.int .i64 0] 3)) 3 (.int .i64 v)
    rwa [World.size_alloc] at h
  have hL := looks_new (cap := cap) (HR.out.belowAll bA)
  rw [← hwA]
  obtain ⟨W0, hW0⟩ : ∃ W0, W0 = wA.alloc (.cells #[.slice a len cap] 55) := ⟨_, rfl⟩
  rw [← hW0, hsA] at hL
  rw [← hW0, hsA]
  have hs0 : W0.heap.size = w.heap.size + 3 := by rw [hW0]; simp; omega
  have b0 : Below w.heap.size w W0 := by rw [hW0]; exact bA.alloc (by omega) _
  have bN0 : Boxed W0 w.heap.size 3 (.int .i64 0) := by rw [hW0]; exact bN.alloc _
  have bV0 : Boxed W0 (w.heap.size + 1) 3 (.int .i64 v) := by rw [hW0]; exact bV.alloc _
  have hnl : ∀ k, k < 2 → w.heap.size + k ∉ lookL (w.heap.size + 2) a zs := by
    intro k hk hm
    rcases List.mem_cons.1 hm with e | hm
    · omega
    rcases List.mem_cons.1 hm with e | hm
    · omega
    · have := HLt.out _ hm; omega
  clear hwA bA bN bV hsA hW0
  gi_wp2_with fail
  refine wpIn_rangeFunc_ownF rfl h1 (gf := 58) (lb := #[.pointer (some ⟨w.heap.size + 2, 0, none⟩)]) rfl trivial (enters_of Tryd.func58 (by kernel_rfl) rfl)
    (cols_stops (n - 1) (by omega) (w.heap.size + 2) a len cap zs hfew W0 hL) (fun h1 h2 => keepL_t h1 h2) (keepL_b hL.all) (Below.refl _ _) (fun _ => rfl)
    (fun pre W => Boxed W w.heap.size 3 (.int .i64 (pre.length : Int)) ∧ (Boxed W (w.heap.size + 1) 3 (.int .i64 (v - (sumS pre : Int))) ∧ (Below w.heap.size w W ∧ fitS v pre = pre.length)))
    (fun c pre W => (c = .exit 0 ∧ ∃ p x, pre = p ++ [x] ∧ fitS v p = p.length ∧ v - sumS p < ofS x) ∧ (Boxed W w.heap.size 3 (.int .i64 (pre.dropLast.length : Int)) ∧ Below w.heap.size w W))
    (OwnFrom.and (Own.from (boxed_own w.heap.size 3 (fun pre : List Int => Value.int .i64 (pre.length : Int))) _) (OwnFrom.and (Own.from (boxed_own (w.heap.size + 1) 3 (fun pre : List Int => Value.int .i64 (v - (sumS pre : Int)))) _) (OwnFrom.and (ownFrom_below (Nat.le_refl _) (by omega)) (ownFrom_pure' _ _))))
    (fun c => OwnFrom.and (ownFrom_pure' _ _) (OwnFrom.and (Own.from (boxed_own w.heap.size 3 (fun pre : List Int => Value.int .i64 (pre.dropLast.length : Int))) _) (ownFrom_below (Nat.le_refl _) (by omega))))
    ⟨bN0, by simpa [sumS] using bV0, b0, rfl⟩
    (fun x => { tmps := #[.int .i64 v, .slice a len cap, undef, undef, .int .i64 0, .pointer (some ⟨w.heap.size, 0, none⟩), .pointer (some ⟨w.heap.size + 1, 0, none⟩), .int .i64 (ofS x : Int), .int .i64 v, .slice a len cap, .func (.func 58) #[] #[.pointer (some ⟨w.heap.size + 2, 0, none⟩)], .int .i64 (ofS x : Int), undef, undef, undef, undef, undef, undef, undef, undef, undef], defers := [] }) ?assign ?body ?done ?stop
  case assign =>
    intro l x W K hK
    gi_wp2
    simpa using hK
  case body =>
    rintro l pre x W ⟨hv, hu, hB, hF⟩ hltp
    have hc := hv.cell
    have hf := hv.frozen
    have hcu := hu.cell
    have hfu := hu.frozen
    have hle := sumS_le pre
    have hof := ofS_le x
    obtain ⟨A, hA⟩ : ∃ A, sumS pre = A := ⟨_, rfl⟩
    obtain ⟨C, hC⟩ : ∃ C, ofS x = C := ⟨_, rfl⟩
    have hsn : sumS (pre ++ [x]) = A + C := by rw [sumS_append, sumS_cons, hA, hC]; rfl
    obtain ⟨L, hL'⟩ : ∃ L : Int, v - (A : Int) = L := ⟨_, rfl⟩
    rw [hA, hL'] at hcu
    rw [hC] at hof ⊢
    have HSn := Lib.hid hsn
    have HV := Lib.hid hv
    have HU := Lib.hid hu
    have HB := Lib.hid hB
    have HF := Lib.hid hF
    have HA := Lib.hid hA
    have HC := Lib.hid hC
    have HL := Lib.hid hL'
    have hL2 : L ≤ 9223372036854775807 := by have := HV2.out; omega
    have hpl : (pre.length : Int) ≤ 1000000 := by omega
    by_cases hgt : L < (C : Int)
    · clear hsn hv hu hB hF hle hA hC hL'
      gi_wp2
      refine ⟨KeepsOthers.refl _, ⟨rfl, pre, x, rfl, HF.out, by rw [HA.out, HC.out, HL.out]; exact hgt⟩, by rw [List.dropLast_concat]; exact HV.out, HB.out⟩
    · have hwr : IntKind.i64.wrap (L - (C : Int)) = L - (C : Int) := IntWalk.i64_in _ (by omega)
      have hsn2 : fitS v (pre ++ [x]) = (pre ++ [x]).length := fitS_snoc hF (by rw [hA, hC, hL']; exact hgt)
      have HSn2 := Lib.hid hsn2
      clear hsn hv hu hB hF hle hA hC hL' hsn2
      gi_wp2
      have e1 : L - (C : Int) = v - (sumS (pre ++ [x]) : Int) := by rw [HSn.out]; have := HL.out; omega
      have e2 : (pre.length : Int) + 1 = ((pre ++ [x]).length : Int) := by simp
      rw [e1, e2]
      refine ⟨((KeepsOthers.setCell _ _ _).trans (KeepsOthers.setCell _ _ _)), keepL_t (KeepL.setCell _ (hnl 1 (by omega)) _ _) (KeepL.setCell _ (hnl 0 (by omega)) _ _), ?_, ?_, ?_, HSn2.out⟩
      · exact (HV.out.other (by omega) _).set _
      · exact (HU.out.set _).other (by omega) _
      · exact (HB.out.setCell (p := ⟨w.heap.size + 1, 0, none⟩) (by simp) _).setCell (p := ⟨w.heap.size, 0, none⟩) (by simp) _
  case done =>
    rintro D ys W hD hS ⟨hv, _, hB, hF⟩ hK
    have hc := hv.cell
    subst hS
    rw [← hF] at hc
    have HB := Lib.hid hB
    have HK := Lib.hid hK
    have HD := Lib.hid hD
    clear hv hB hK hD hF
    gi_wp2
    refine ⟨by simp, .inl ⟨_, _, rfl, run_takeDeferred HK.out, ?_⟩⟩
    exact ⟨_, results_tmp rfl _ _ _, rfl, HB.out.trans (belowK_b (w := W0) (by omega) W D _ _ HD.out HK.out rfl rfl)⟩
  case stop =>
    rintro D c pre W hD ⟨j, hj, hpre⟩ ⟨⟨rfl, p, x, hp, hF, hx⟩, hv, hB⟩ hK
    have hfin := fitS_stop hF hx zs j (by rw [← hp]; exact hpre)
    have hdl : pre.dropLast.length = fitS v zs := by rw [hp, List.dropLast_concat, hfin]
    rw [hdl] at hv
    have hc := hv.cell
    have HB := Lib.hid hB
    have HK := Lib.hid hK
    have HD := Lib.hid hD
    clear hv hB hK hD hF hpre hp hx hfin hdl
    gi_wp2
    refine ⟨by simp, .inl ⟨_, _, rfl, run_takeDeferred HK.out, ?_⟩⟩
    exact ⟨_, results_tmp rfl _ _ _, rfl, HB.out.trans (belowK_b (w := W0) (by omega) W D _ _ HD.out HK.out rfl rfl)⟩
theorem fit_any (v : Int) (hv1 : -9223372036854775808 ≤ v) (hv2 : v ≤ 9223372036854775807) (a : Option Addr) (len cap : Nat) (zs : List Int) (w : World) (h : Rn a len zs w) :
    Calls Tryd.prog 31 #[.int .i64 v, .slice a len cap] w fun e W' => e = .returned (.int .i64 (fitS v zs : Int)) ∧ Below w.heap.size w W' :=
  (callsIn_wide (n := 4)).1 (fit_in 4 (Nat.le_refl _) v hv1 hv2 a len cap zs w h)
end Go.Proofs.YtkdkhphpknnceaaDoor.W
