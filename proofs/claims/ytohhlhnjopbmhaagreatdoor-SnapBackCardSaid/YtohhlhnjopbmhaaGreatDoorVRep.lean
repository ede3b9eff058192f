/- The contracts of slices.Repeat of one element. -/
import Derived.Test.YtohhlhnjopbmhaaGreatDoorMerged5
import Derived.Test.YtohhlhnjopbmhaaGreatDoorMerged7
namespace Go.Proofs.YtohhlhnjopbmhaaGreatDoor.K
open Go.Proofs.YtohhlhnjopbmhaaGreatDoor.R (agree_frame)
open Go.RowKit

def RepR (nb : Nat) (e : TypeId) (size n : Nat) (xs : List Value) (j : Nat) (u v : World) : Prop := Below nb u v ∧ (v = u ∨ U.Filled nb e size nb n xs j v)
def RepOk_cells (nb n k q : Nat) (xs : List Value) : Nat → Value → World → Prop
  | 0, u, _ => u = .int .i64 (k : Int)
  | 1, u, _ => u = .slice (some ⟨nb, 0, none⟩) n n
  | 2, u, _ => u = .int .i64 (k : Int)
  | 3, u, _ => u = .slice (some ⟨nb, k * 3, none⟩) (n - k) (n - k)
  | 4, u, _ => u = .slice (some ⟨nb, 0, none⟩) n n
  | 5, u, _ => u = .int .i64 (k : Int)
  | 6, u, _ => u = .slice (some ⟨nb, 0, none⟩) k n
  | 7, u, w => u = .int .i64 (q : Int) ∧ U.Filled nb 112 3 nb n xs (k + q) w
  | 8, u, _ => u = .int .i64 ((k : Int) + (q : Int))
  | _, _, _ => True
set_option maxRecDepth 100000 in
set_option maxHeartbeats 8000000 in
theorem repeat_cells (b off c n : Nat) (xs : List Value) (w : World) (hx : xs.length = 3) (hc : ∀ j u, xs[j]? = some u → w.cell? ((⟨b, off, none⟩ : Addr).add j) = some u) (hbl : b < w.heap.size) (h1 : ∀ u ∈ xs, u.oneCell' = true) (hn : (n : Int) ≤ 1000000) :
    Calls Tryz.prog 91 #[.slice (some ⟨b, off, none⟩) 1 c, .int .i64 (n : Int)] w fun e w' => e = .returned (.slice (some ⟨w.heap.size, 0, none⟩) n n) ∧ w'.ownsRow w.heap.size 112 3 (.slice (some ⟨w.heap.size, 0, none⟩) n n) n (U.rep n xs) ∧ Below w.heap.size w w' := by
  obtain ⟨nb, hnb⟩ : ∃ nb, w.heap.size = nb := ⟨_, rfl⟩
  rw [hnb]
  obtain ⟨P, hP⟩ : ∃ P : Ending → World → Prop, (fun e w' => e = .returned (.slice (some ⟨nb, 0, none⟩) n n) ∧ w'.ownsRow nb 112 3 (.slice (some ⟨nb, 0, none⟩) n n) n (U.rep n xs) ∧ Below nb w w') = P := ⟨_, rfl⟩
  rw [hP]
  obtain ⟨i0, hin, hz0, hz1, hz2⟩ := info_parts (by kernel_rfl : (Tryz.prog.info? 112).map (fun i => (i.zero, i.size, i.bytes)) = some (some (Value.agg #[.int .i32 0, .int .i64 0, .int .i64 0]), 3, 24))
  obtain ⟨w2, hmk, ho2, hg2⟩ := run_make_full (P := Tryz.prog) (w := w) nb 52 112 i0 (Value.agg #[.int .i32 0, .int .i64 0, .int .i64 0]) 3 Tryz.underlying52 hin hz0 hz1 .i64 .i64 n (by rw [hz2]; omega) (by unfold maxLen; omega) (by omega)
  rw [hnb] at hmk ho2
  obtain ⟨L2, hL2⟩ : ∃ L2, (madeCells (Value.agg #[.int .i32 0, .int .i64 0, .int .i64 0]).cells (n * 3)).toList = L2 := ⟨_, rfl⟩
  rw [hL2] at ho2
  have hb2 : Below nb w w2 := (Below.refl nb w).grown hg2 (Nat.le_of_eq hnb.symm) (fun q hq => by cases hq)
  have hsz : (Tryz.prog.info? 112).map (·.size) = some 3 := by rw [hin]; simp [hz1]
  have hlt2 : nb ≤ w2.heap.size := by have := hb2.size; omega
  have HMul := Lib.hid (mul_one n (by omega) w)
  have hneg : decide ((n : Int) < 0) = false := decide_eq_false (by omega)
  have hbig : decide ((n : Int) > 9223372036854775807) = false := decide_eq_false (by omega)
  obtain ⟨m, hm⟩ : ∃ m, Nat.min 1 n = m := ⟨_, rfl⟩
  have hmn : m ≤ n := by rw [← hm]; exact Nat.min_le_right _ _
  have hm1 : m ≤ 1 := by rw [← hm]; exact Nat.min_le_left _ _
  have hm0 : 1 ≤ m ∨ n = 0 := by
    rcases Nat.eq_zero_or_pos n with h | h
    · exact .inr h
    · left; rw [← hm]; show 1 ≤ min 1 n; omega
  have HC2 : Hid (∀ j u, (U.rep m xs)[j]? = some u → w2.cell? ((⟨b, off, none⟩ : Addr).add j) = some u) := Lib.hid (fun j u hj => by
    have hxu : xs[j]? = some u := by
      rcases Nat.le_one_iff_eq_zero_or_eq_one.1 hm1 with h | h
      · rw [h] at hj; simp [U.rep] at hj
      · rw [h, U.rep_one] at hj; exact hj
    have hadd : ((⟨b, off, none⟩ : Addr).add j) = ⟨b, off + j, none⟩ := by unfold Addr.add; split <;> simp_all
    have := hc j u hxu
    rw [hadd] at this ⊢
    exact (hb2.cell (p := ⟨b, off + j, none⟩) (by show b < nb; omega)).trans this)
  have HLen : Hid ((U.rep m xs).length = m * 3) := Lib.hid (by rw [U.rep_length, hx])
  have HMem : Hid (∀ u ∈ U.rep m xs, u.oneCell' = true) := Lib.hid (fun u hu => h1 u (U.rep_mem hu))
  have HLl : Hid (L2.length = n * 3) := Lib.hid ho2.1
  have HX := Lib.hid hx
  have H1 := Lib.hid h1
  have HO2 := Lib.hid ho2
  have HB2 := Lib.hid hb2
  have HSz := Lib.hid hsz
  have HM := Lib.hid hm
  have HMn := Lib.hid hmn
  have HM0 := Lib.hid hm0
  have HP := Lib.hid hP
  have HNb := Lib.hid hnb
  clear hP hnb hin hz0 hz1 hz2 ho2 hg2 hL2 hb2 hsz hm hmn hm1 hm0 hx hc h1 hbl
  go_enter Tryz.func91, Tryz.ntmps91
  go_wp2_with (first | (go_at_call 93; refine HMul.out.mono ?_; rintro e w' ⟨rfl, rfl⟩) | (refine U.wpList_copy_own rfl _ _ _ _ rfl 112 3 Tryz.underlying52 HSz.out nb nb n n L2 HO2.out 0 m n n ⟨b, off, none⟩ 1 c (U.rep m xs) rfl rfl HM.out HLen.out HC2.out (by rw [Nat.zero_add]; exact HMn.out) HMem.out ?_))
  intro w3 ho3 hg3
  have HF3 : Hid (Below nb w w3 ∧ U.Filled nb 112 3 nb n xs m w3) := Lib.hid ⟨below_grown HB2.out hg3 (Nat.le_refl _) hlt2, _, by
      exact List.take_left' HLen.out, ho3⟩
  clear ho3 hg3 hmk
  go_wp2_with fail
  go_loopw [8] (fun i wr => ∃ k : Nat, i = .int .i64 (k : Int) ∧ k ≤ n ∧ Hid ((1 ≤ k ∨ n = 0) ∧ Below nb w wr ∧ U.Filled nb 112 3 nb n xs k wr)) (fun i _ => n - (intOf i).toNat)
  case atStart => exact ⟨m, rfl, HMn.out, Lib.hid ⟨HM0.out, HF3.out⟩⟩
  case round =>
    obtain ⟨k, rfl, hk, HF⟩ := hrel
    by_cases hlt : k < n
    · have hd : decide (k < n) = true := by simp; omega
      have hk1 : 1 ≤ k := HF.out.1.resolve_right (by omega)
      obtain ⟨q, hq⟩ : ∃ q, Nat.min k (n - k) = q := ⟨_, rfl⟩
      have hqk : q ≤ k := by rw [← hq]; exact Nat.min_le_left _ _
      have hqn : k + q ≤ n := by have : q ≤ n - k := by rw [← hq]; exact Nat.min_le_right _ _
                                 omega
      have hq1 : 1 ≤ q := by rw [← hq]; show 1 ≤ min k (n - k); omega
      have hkn : (k : Int) ≤ n := by omega
      have HRl : Hid ((U.rep q xs).length = q * 3) := Lib.hid (by rw [U.rep_length, HX.out])
      have HRm : Hid (∀ u ∈ U.rep q xs, u.oneCell' = true) := Lib.hid (fun u hu => H1.out u (U.rep_mem hu))
      have HQ := Lib.hid hq
      clear hq
      go_upto_region 9 with fail
      refine Go.Proofs.YtohhlhnjopbmhaaGreatDoor.R.wp_region_tailV 9 (by kernel_rfl) (fun u => Below nb w u ∧ U.Filled nb 112 3 nb n xs k u) (RepR nb 112 3 n xs (k + q)) (RepOk_cells nb n k q xs) (by rfl) (by kernel_rfl) (by decide) (by kernel_rfl) (by kernel_rfl) (by kernel_rfl) ?hC ?hOk ?hop ?hdone ⟨HF.out.2.1.drew, HF.out.2.2.belowAll (Below.refl _ _).drew⟩
      case hC =>
        intro u u' hu hr
        exact ⟨hu.1.trans hr.1, hr.2.elim (fun e => by rw [e]; exact hu.2) (fun h => h.less HX.out)⟩
      case hOk =>
        intro i x u u' hv hr
        unfold RepOk_cells at hv ⊢
        split at hv
        all_goals first | exact hv | exact ⟨hv.1, hr.2.elim (fun e => by rw [e]; exact hv.2) id⟩
      case hop =>
        refine ⟨?_, ?_, ?_, ?_, ?_, ?_, ?_, ?_, ?_, trivial⟩
        · intro z v hz hag hdep
          refine .inl ⟨rfl, fun K hK => ?_⟩
          have d8 : z.tmps.getD 8 undef = .int .i64 (k : Int) := hag.2.2 8 (by kernel_rfl)
          have e8 := d8
          rw [Array.getD_eq_getD_getElem?] at e8
          clear hz
          clear hdep hag 
          go_simp
          exact hK _ _ (⟨Below.refl _ _, .inl rfl⟩) rfl
        · intro z v hz hag hdep
          refine .inl ⟨rfl, fun K hK => ?_⟩
          have d7 : z.tmps.getD 7 undef = .slice (some ⟨nb, 0, none⟩) n n := hag.2.2 7 (by kernel_rfl)
          have e7 := d7
          rw [Array.getD_eq_getD_getElem?] at e7
          clear hdep hag 
          go_simp
          exact hK _ _ (⟨Below.refl _ _, .inl rfl⟩) rfl
        · intro z v hz hag hdep
          refine .inl ⟨rfl, fun K hK => ?_⟩
          have d8 : z.tmps.getD 8 undef = .int .i64 (k : Int) := hag.2.2 8 (by kernel_rfl)
          have e8 := d8
          rw [Array.getD_eq_getD_getElem?] at e8
          clear hdep hag 
          go_simp
          exact hK _ _ (⟨Below.refl _ _, .inl rfl⟩) rfl
        · intro z v hz hag hdep
          refine .inl ⟨rfl, fun K hK => ?_⟩
          have d39 : z.tmps.getD 39 undef = .slice (some ⟨nb, 0, none⟩) n n := hdep { on := 1, ground := .data } (by simp) rfl _ _ rfl rfl
          have e39 := d39
          rw [Array.getD_eq_getD_getElem?] at e39
          have d40 : z.tmps.getD 40 undef = .int .i64 (k : Int) := hdep { on := 2, ground := .data } (by simp) rfl _ _ rfl rfl
          have e40 := d40
          rw [Array.getD_eq_getD_getElem?] at e40
          have hne : ¬ n = k := by omega
          clear hz
          clear hdep hag 
          go_simp
          exact hK _ _ (⟨Below.refl _ _, .inl rfl⟩) rfl
        · intro z v hz hag hdep
          refine .inl ⟨rfl, fun K hK => ?_⟩
          have d7 : z.tmps.getD 7 undef = .slice (some ⟨nb, 0, none⟩) n n := hag.2.2 7 (by kernel_rfl)
          have e7 := d7
          rw [Array.getD_eq_getD_getElem?] at e7
          clear hdep hag 
          go_simp
          exact hK _ _ (⟨Below.refl _ _, .inl rfl⟩) rfl
        · intro z v hz hag hdep
          refine .inl ⟨rfl, fun K hK => ?_⟩
          have d8 : z.tmps.getD 8 undef = .int .i64 (k : Int) := hag.2.2 8 (by kernel_rfl)
          have e8 := d8
          rw [Array.getD_eq_getD_getElem?] at e8
          clear hdep hag 
          go_simp
          exact hK _ _ (⟨Below.refl _ _, .inl rfl⟩) rfl
        · intro z v hz hag hdep
          refine .inl ⟨rfl, fun K hK => ?_⟩
          have d42 : z.tmps.getD 42 undef = .slice (some ⟨nb, 0, none⟩) n n := hdep { on := 4, ground := .data } (by simp) rfl _ _ rfl rfl
          have e42 := d42
          rw [Array.getD_eq_getD_getElem?] at e42
          have d43 : z.tmps.getD 43 undef = .int .i64 (k : Int) := hdep { on := 5, ground := .data } (by simp) rfl _ _ rfl rfl
          have e43 := d43
          rw [Array.getD_eq_getD_getElem?] at e43
          clear hz
          clear hdep hag 
          go_simp
          exact hK _ _ (⟨Below.refl _ _, .inl rfl⟩) rfl
        · intro z v hz hag hdep
          refine .inl ⟨rfl, fun K hK => ?_⟩
          have d41 : z.tmps.getD 41 undef = .slice (some ⟨nb, k * 3, none⟩) (n - k) (n - k) := hdep { on := 3, ground := .data } (by simp) rfl _ _ rfl rfl
          have e41 := d41
          rw [Array.getD_eq_getD_getElem?] at e41
          have d44 : z.tmps.getD 44 undef = .slice (some ⟨nb, 0, none⟩) k n := hdep { on := 6, ground := .data } (by simp) rfl _ _ rfl rfl
          have e44 := d44
          rw [Array.getD_eq_getD_getElem?] at e44
          have HSrc := Lib.hid (hz.2.src HX.out hqk hk)
          obtain ⟨hzb, L, hL, hoL⟩ := hz
          have HOL := Lib.hid hoL
          have HL := Lib.hid hL
          have HZb := Lib.hid hzb
          clear hdep hag hoL hL hzb
          refine U.wp_copy_own _ _ _ _ rfl 112 3 Tryz.underlying52 HSz.out nb nb n n L HOL.out k q (n - k) (n - k) ⟨nb, 0, none⟩ k n (U.rep q xs) d41 d44 HQ.out HRl.out HSrc.out hqn HRm.out ?_
          intro w4 ho4 hg4
          have hF4 : U.Filled nb 112 3 nb n xs (k + q) w4 := ⟨_, U.rep_step HX.out HL.out hqk hqn HOL.out.1, ho4.out⟩
          exact hK _ _ ⟨below_grown (Below.refl _ _) hg4.out (Nat.le_refl _) (by have := HZb.out.size; have := HNb.out; omega), .inr hF4⟩ ⟨rfl, hF4⟩
        · intro z v hz hag hdep
          refine .inl ⟨rfl, fun K hK => ?_⟩
          have d38 : z.tmps.getD 38 undef = .int .i64 (k : Int) := hdep { on := 0, ground := .data } (by simp) rfl _ _ rfl rfl
          have e38 := d38
          rw [Array.getD_eq_getD_getElem?] at e38
          have d45' : RepOk_cells nb n k q xs 7 (z.tmps.getD 45 undef) v := hdep { on := 7, ground := .data } (by simp) rfl _ _ rfl rfl
          simp only [RepOk_cells] at d45'
          obtain ⟨d45, hq45⟩ := d45'
          have e45 := d45
          rw [Array.getD_eq_getD_getElem?] at e45
          clear hz hq45
          have hwr : IntKind.i64.wrap ((k : Int) + (q : Int)) = (k : Int) + (q : Int) := by rw [IntKind.wrap_i64]; omega
          clear hdep hag 
          go_simp
          exact hK _ _ (⟨Below.refl _ _, .inl rfl⟩) rfl
      case hdone =>
        intro z u hu hag hok hno
        clear hno
        have d45 : RepOk_cells nb n k q xs 7 (z.tmps.getD 45 undef) u := hok 7 _ 45 (by decide) rfl rfl
        have d46 : z.tmps.getD 46 undef = .int .i64 ((k : Int) + (q : Int)) := hok 8 _ 46 (by decide) rfl rfl
        have HF' : Hid (Below nb w u ∧ U.Filled nb 112 3 nb n xs (k + q) u) := Lib.hid ⟨hu.1, d45.2⟩
        obtain ⟨uu, huu, hzz⟩ := agree_frame [38, 39, 40, 41, 42, 43, 44, 45, 46] rfl hag
        have e46 := (huu 46).trans d46
        subst hzz
        clear d45 d46 hag hok hu huu
        simp only [List.foldl_cons, List.foldl_nil]
        rw [e46]
        clear e46
        dsimp only [List.drop]
        go_wp2
        go_roundw
        case rel => exact ⟨k + q, by go_num, by omega, Lib.hid ⟨.inl (by omega), HF'.out⟩⟩
        case measure => simp [intOf]; omega
    · obtain rfl : k = n := by omega
      have hd : decide ((k : Int) < (k : Int)) = false := by simp
      go_wp2_with fail
      obtain ⟨L, hL, hoL⟩ := HF.out.2.2
      rw [List.take_of_length_le (Nat.le_of_eq hoL.1)] at hL
      rw [hL] at hoL
      rw [← HP.out]
      exact ⟨rfl, hoL, HF.out.2.1⟩
def RepOk_rows (nb n k q : Nat) (xs : List Value) : Nat → Value → World → Prop
  | 0, u, _ => u = .int .i64 (k : Int)
  | 1, u, _ => u = .slice (some ⟨nb, 0, none⟩) n n
  | 2, u, _ => u = .int .i64 (k : Int)
  | 3, u, _ => u = .slice (some ⟨nb, k * 2, none⟩) (n - k) (n - k)
  | 4, u, _ => u = .slice (some ⟨nb, 0, none⟩) n n
  | 5, u, _ => u = .int .i64 (k : Int)
  | 6, u, _ => u = .slice (some ⟨nb, 0, none⟩) k n
  | 7, u, w => u = .int .i64 (q : Int) ∧ U.Filled nb 54 2 nb n xs (k + q) w
  | 8, u, _ => u = .int .i64 ((k : Int) + (q : Int))
  | _, _, _ => True
set_option maxRecDepth 100000 in
set_option maxHeartbeats 8000000 in
theorem repeat_rows (b off c n : Nat) (xs : List Value) (w : World) (hx : xs.length = 2) (hc : ∀ j u, xs[j]? = some u → w.cell? ((⟨b, off, none⟩ : Addr).add j) = some u) (hbl : b < w.heap.size) (h1 : ∀ u ∈ xs, u.oneCell' = true) (hn : (n : Int) ≤ 1000000) :
    Calls Tryz.prog 75 #[.slice (some ⟨b, off, none⟩) 1 c, .int .i64 (n : Int)] w fun e w' => e = .returned (.slice (some ⟨w.heap.size, 0, none⟩) n n) ∧ w'.ownsRow w.heap.size 54 2 (.slice (some ⟨w.heap.size, 0, none⟩) n n) n (U.rep n xs) ∧ Below w.heap.size w w' := by
  obtain ⟨nb, hnb⟩ : ∃ nb, w.heap.size = nb := ⟨_, rfl⟩
  rw [hnb]
  obtain ⟨P, hP⟩ : ∃ P : Ending → World → Prop, (fun e w' => e = .returned (.slice (some ⟨nb, 0, none⟩) n n) ∧ w'.ownsRow nb 54 2 (.slice (some ⟨nb, 0, none⟩) n n) n (U.rep n xs) ∧ Below nb w w') = P := ⟨_, rfl⟩
  rw [hP]
  obtain ⟨i0, hin, hz0, hz1, hz2⟩ := info_parts (by kernel_rfl : (Tryz.prog.info? 54).map (fun i => (i.zero, i.size, i.bytes)) = some (some (Value.agg #[.slice none 0 0, .bool false]), 2, 32))
  obtain ⟨w2, hmk, ho2, hg2⟩ := run_make_full (P := Tryz.prog) (w := w) nb 22 54 i0 (Value.agg #[.slice none 0 0, .bool false]) 2 Tryz.underlying22 hin hz0 hz1 .i64 .i64 n (by rw [hz2]; omega) (by unfold maxLen; omega) (by omega)
  rw [hnb] at hmk ho2
  obtain ⟨L2, hL2⟩ : ∃ L2, (madeCells (Value.agg #[.slice none 0 0, .bool false]).cells (n * 2)).toList = L2 := ⟨_, rfl⟩
  rw [hL2] at ho2
  have hb2 : Below nb w w2 := (Below.refl nb w).grown hg2 (Nat.le_of_eq hnb.symm) (fun q hq => by cases hq)
  have hsz : (Tryz.prog.info? 54).map (·.size) = some 2 := by rw [hin]; simp [hz1]
  have hlt2 : nb ≤ w2.heap.size := by have := hb2.size; omega
  have HMul := Lib.hid (mul_one n (by omega) w)
  have hneg : decide ((n : Int) < 0) = false := decide_eq_false (by omega)
  have hbig : decide ((n : Int) > 9223372036854775807) = false := decide_eq_false (by omega)
  obtain ⟨m, hm⟩ : ∃ m, Nat.min 1 n = m := ⟨_, rfl⟩
  have hmn : m ≤ n := by rw [← hm]; exact Nat.min_le_right _ _
  have hm1 : m ≤ 1 := by rw [← hm]; exact Nat.min_le_left _ _
  have hm0 : 1 ≤ m ∨ n = 0 := by
    rcases Nat.eq_zero_or_pos n with h | h
    · exact .inr h
    · left; rw [← hm]; show 1 ≤ min 1 n; omega
  have HC2 : Hid (∀ j u, (U.rep m xs)[j]? = some u → w2.cell? ((⟨b, off, none⟩ : Addr).add j) = some u) := Lib.hid (fun j u hj => by
    have hxu : xs[j]? = some u := by
      rcases Nat.le_one_iff_eq_zero_or_eq_one.1 hm1 with h | h
      · rw [h] at hj; simp [U.rep] at hj
      · rw [h, U.rep_one] at hj; exact hj
    have hadd : ((⟨b, off, none⟩ : Addr).add j) = ⟨b, off + j, none⟩ := by unfold Addr.add; split <;> simp_all
    have := hc j u hxu
    rw [hadd] at this ⊢
    exact (hb2.cell (p := ⟨b, off + j, none⟩) (by show b < nb; omega)).trans this)
  have HLen : Hid ((U.rep m xs).length = m * 2) := Lib.hid (by rw [U.rep_length, hx])
  have HMem : Hid (∀ u ∈ U.rep m xs, u.oneCell' = true) := Lib.hid (fun u hu => h1 u (U.rep_mem hu))
  have HLl : Hid (L2.length = n * 2) := Lib.hid ho2.1
  have HX := Lib.hid hx
  have H1 := Lib.hid h1
  have HO2 := Lib.hid ho2
  have HB2 := Lib.hid hb2
  have HSz := Lib.hid hsz
  have HM := Lib.hid hm
  have HMn := Lib.hid hmn
  have HM0 := Lib.hid hm0
  have HP := Lib.hid hP
  have HNb := Lib.hid hnb
  clear hP hnb hin hz0 hz1 hz2 ho2 hg2 hL2 hb2 hsz hm hmn hm1 hm0 hx hc h1 hbl
  go_enter Tryz.func75, Tryz.ntmps75
  go_wp2_with (first | (go_at_call 93; refine HMul.out.mono ?_; rintro e w' ⟨rfl, rfl⟩) | (refine U.wpList_copy_own rfl _ _ _ _ rfl 54 2 Tryz.underlying22 HSz.out nb nb n n L2 HO2.out 0 m n n ⟨b, off, none⟩ 1 c (U.rep m xs) rfl rfl HM.out HLen.out HC2.out (by rw [Nat.zero_add]; exact HMn.out) HMem.out ?_))
  intro w3 ho3 hg3
  have HF3 : Hid (Below nb w w3 ∧ U.Filled nb 54 2 nb n xs m w3) := Lib.hid ⟨below_grown HB2.out hg3 (Nat.le_refl _) hlt2, _, by
      exact List.take_left' HLen.out, ho3⟩
  clear ho3 hg3 hmk
  go_wp2_with fail
  go_loopw [8] (fun i wr => ∃ k : Nat, i = .int .i64 (k : Int) ∧ k ≤ n ∧ Hid ((1 ≤ k ∨ n = 0) ∧ Below nb w wr ∧ U.Filled nb 54 2 nb n xs k wr)) (fun i _ => n - (intOf i).toNat)
  case atStart => exact ⟨m, rfl, HMn.out, Lib.hid ⟨HM0.out, HF3.out⟩⟩
  case round =>
    obtain ⟨k, rfl, hk, HF⟩ := hrel
    by_cases hlt : k < n
    · have hd : decide (k < n) = true := by simp; omega
      have hk1 : 1 ≤ k := HF.out.1.resolve_right (by omega)
      obtain ⟨q, hq⟩ : ∃ q, Nat.min k (n - k) = q := ⟨_, rfl⟩
      have hqk : q ≤ k := by rw [← hq]; exact Nat.min_le_left _ _
      have hqn : k + q ≤ n := by have : q ≤ n - k := by rw [← hq]; exact Nat.min_le_right _ _
                                 omega
      have hq1 : 1 ≤ q := by rw [← hq]; show 1 ≤ min k (n - k); omega
      have hkn : (k : Int) ≤ n := by omega
      have HRl : Hid ((U.rep q xs).length = q * 2) := Lib.hid (by rw [U.rep_length, HX.out])
      have HRm : Hid (∀ u ∈ U.rep q xs, u.oneCell' = true) := Lib.hid (fun u hu => H1.out u (U.rep_mem hu))
      have HQ := Lib.hid hq
      clear hq
      go_upto_region 9 with fail
      refine Go.Proofs.YtohhlhnjopbmhaaGreatDoor.R.wp_region_tailV 9 (by kernel_rfl) (fun u => Below nb w u ∧ U.Filled nb 54 2 nb n xs k u) (RepR nb 54 2 n xs (k + q)) (RepOk_rows nb n k q xs) (by rfl) (by kernel_rfl) (by decide) (by kernel_rfl) (by kernel_rfl) (by kernel_rfl) ?hC ?hOk ?hop ?hdone ⟨HF.out.2.1.drew, HF.out.2.2.belowAll (Below.refl _ _).drew⟩
      case hC =>
        intro u u' hu hr
        exact ⟨hu.1.trans hr.1, hr.2.elim (fun e => by rw [e]; exact hu.2) (fun h => h.less HX.out)⟩
      case hOk =>
        intro i x u u' hv hr
        unfold RepOk_rows at hv ⊢
        split at hv
        all_goals first | exact hv | exact ⟨hv.1, hr.2.elim (fun e => by rw [e]; exact hv.2) id⟩
      case hop =>
        refine ⟨?_, ?_, ?_, ?_, ?_, ?_, ?_, ?_, ?_, trivial⟩
        · intro z v hz hag hdep
          refine .inl ⟨rfl, fun K hK => ?_⟩
          have d8 : z.tmps.getD 8 undef = .int .i64 (k : Int) := hag.2.2 8 (by kernel_rfl)
          have e8 := d8
          rw [Array.getD_eq_getD_getElem?] at e8
          clear hz
          clear hdep hag 
          go_simp
          exact hK _ _ (⟨Below.refl _ _, .inl rfl⟩) rfl
        · intro z v hz hag hdep
          refine .inl ⟨rfl, fun K hK => ?_⟩
          have d7 : z.tmps.getD 7 undef = .slice (some ⟨nb, 0, none⟩) n n := hag.2.2 7 (by kernel_rfl)
          have e7 := d7
          rw [Array.getD_eq_getD_getElem?] at e7
          clear hdep hag 
          go_simp
          exact hK _ _ (⟨Below.refl _ _, .inl rfl⟩) rfl
        · intro z v hz hag hdep
          refine .inl ⟨rfl, fun K hK => ?_⟩
          have d8 : z.tmps.getD 8 undef = .int .i64 (k : Int) := hag.2.2 8 (by kernel_rfl)
          have e8 := d8
          rw [Array.getD_eq_getD_getElem?] at e8
          clear hdep hag 
          go_simp
          exact hK _ _ (⟨Below.refl _ _, .inl rfl⟩) rfl
        · intro z v hz hag hdep
          refine .inl ⟨rfl, fun K hK => ?_⟩
          have d39 : z.tmps.getD 39 undef = .slice (some ⟨nb, 0, none⟩) n n := hdep { on := 1, ground := .data } (by simp) rfl _ _ rfl rfl
          have e39 := d39
          rw [Array.getD_eq_getD_getElem?] at e39
          have d40 : z.tmps.getD 40 undef = .int .i64 (k : Int) := hdep { on := 2, ground := .data } (by simp) rfl _ _ rfl rfl
          have e40 := d40
          rw [Array.getD_eq_getD_getElem?] at e40
          have hne : ¬ n = k := by omega
          clear hz
          clear hdep hag 
          go_simp
          exact hK _ _ (⟨Below.refl _ _, .inl rfl⟩) rfl
        · intro z v hz hag hdep
          refine .inl ⟨rfl, fun K hK => ?_⟩
          have d7 : z.tmps.getD 7 undef = .slice (some ⟨nb, 0, none⟩) n n := hag.2.2 7 (by kernel_rfl)
          have e7 := d7
          rw [Array.getD_eq_getD_getElem?] at e7
          clear hdep hag 
          go_simp
          exact hK _ _ (⟨Below.refl _ _, .inl rfl⟩) rfl
        · intro z v hz hag hdep
          refine .inl ⟨rfl, fun K hK => ?_⟩
          have d8 : z.tmps.getD 8 undef = .int .i64 (k : Int) := hag.2.2 8 (by kernel_rfl)
          have e8 := d8
          rw [Array.getD_eq_getD_getElem?] at e8
          clear hdep hag 
          go_simp
          exact hK _ _ (⟨Below.refl _ _, .inl rfl⟩) rfl
        · intro z v hz hag hdep
          refine .inl ⟨rfl, fun K hK => ?_⟩
          have d42 : z.tmps.getD 42 undef = .slice (some ⟨nb, 0, none⟩) n n := hdep { on := 4, ground := .data } (by simp) rfl _ _ rfl rfl
          have e42 := d42
          rw [Array.getD_eq_getD_getElem?] at e42
          have d43 : z.tmps.getD 43 undef = .int .i64 (k : Int) := hdep { on := 5, ground := .data } (by simp) rfl _ _ rfl rfl
          have e43 := d43
          rw [Array.getD_eq_getD_getElem?] at e43
          clear hz
          clear hdep hag 
          go_simp
          exact hK _ _ (⟨Below.refl _ _, .inl rfl⟩) rfl
        · intro z v hz hag hdep
          refine .inl ⟨rfl, fun K hK => ?_⟩
          have d41 : z.tmps.getD 41 undef = .slice (some ⟨nb, k * 2, none⟩) (n - k) (n - k) := hdep { on := 3, ground := .data } (by simp) rfl _ _ rfl rfl
          have e41 := d41
          rw [Array.getD_eq_getD_getElem?] at e41
          have d44 : z.tmps.getD 44 undef = .slice (some ⟨nb, 0, none⟩) k n := hdep { on := 6, ground := .data } (by simp) rfl _ _ rfl rfl
          have e44 := d44
          rw [Array.getD_eq_getD_getElem?] at e44
          have HSrc := Lib.hid (hz.2.src HX.out hqk hk)
          obtain ⟨hzb, L, hL, hoL⟩ := hz
          have HOL := Lib.hid hoL
          have HL := Lib.hid hL
          have HZb := Lib.hid hzb
          clear hdep hag hoL hL hzb
          refine U.wp_copy_own _ _ _ _ rfl 54 2 Tryz.underlying22 HSz.out nb nb n n L HOL.out k q (n - k) (n - k) ⟨nb, 0, none⟩ k n (U.rep q xs) d41 d44 HQ.out HRl.out HSrc.out hqn HRm.out ?_
          intro w4 ho4 hg4
          have hF4 : U.Filled nb 54 2 nb n xs (k + q) w4 := ⟨_, U.rep_step HX.out HL.out hqk hqn HOL.out.1, ho4.out⟩
          exact hK _ _ ⟨below_grown (Below.refl _ _) hg4.out (Nat.le_refl _) (by have := HZb.out.size; have := HNb.out; omega), .inr hF4⟩ ⟨rfl, hF4⟩
        · intro z v hz hag hdep
          refine .inl ⟨rfl, fun K hK => ?_⟩
          have d38 : z.tmps.getD 38 undef = .int .i64 (k : Int) := hdep { on := 0, ground := .data } (by simp) rfl _ _ rfl rfl
          have e38 := d38
          rw [Array.getD_eq_getD_getElem?] at e38
          have d45' : RepOk_rows nb n k q xs 7 (z.tmps.getD 45 undef) v := hdep { on := 7, ground := .data } (by simp) rfl _ _ rfl rfl
          simp only [RepOk_rows] at d45'
          obtain ⟨d45, hq45⟩ := d45'
          have e45 := d45
          rw [Array.getD_eq_getD_getElem?] at e45
          clear hz hq45
          have hwr : IntKind.i64.wrap ((k : Int) + (q : Int)) = (k : Int) + (q : Int) := by rw [IntKind.wrap_i64]; omega
          clear hdep hag 
          go_simp
          exact hK _ _ (⟨Below.refl _ _, .inl rfl⟩) rfl
      case hdone =>
        intro z u hu hag hok hno
        clear hno
        have d45 : RepOk_rows nb n k q xs 7 (z.tmps.getD 45 undef) u := hok 7 _ 45 (by decide) rfl rfl
        have d46 : z.tmps.getD 46 undef = .int .i64 ((k : Int) + (q : Int)) := hok 8 _ 46 (by decide) rfl rfl
        have HF' : Hid (Below nb w u ∧ U.Filled nb 54 2 nb n xs (k + q) u) := Lib.hid ⟨hu.1, d45.2⟩
        obtain ⟨uu, huu, hzz⟩ := agree_frame [38, 39, 40, 41, 42, 43, 44, 45, 46] rfl hag
        have e46 := (huu 46).trans d46
        subst hzz
        clear d45 d46 hag hok hu huu
        simp only [List.foldl_cons, List.foldl_nil]
        rw [e46]
        clear e46
        dsimp only [List.drop]
        go_wp2
        go_roundw
        case rel => exact ⟨k + q, by go_num, by omega, Lib.hid ⟨.inl (by omega), HF'.out⟩⟩
        case measure => simp [intOf]; omega
    · obtain rfl : k = n := by omega
      have hd : decide ((k : Int) < (k : Int)) = false := by simp
      go_wp2_with fail
      obtain ⟨L, hL, hoL⟩ := HF.out.2.2
      rw [List.take_of_length_le (Nat.le_of_eq hoL.1)] at hL
      rw [hL] at hoL
      rw [← HP.out]
      exact ⟨rfl, hoL, HF.out.2.1⟩
end Go.Proofs.YtohhlhnjopbmhaaGreatDoor.K
