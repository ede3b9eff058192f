/- SpansCounts: as many numbers are in a set as Has tells, one by one. -/
import Derived.Test.YtjbjflmpdmflmaaHTot
namespace Go.Proofs.Ytjbjflmpdmflmaa.H
open Go.RowKit

theorem and_small (n : Int) (m : Nat) (hm : m < 4294967296) : ∃ t : Nat, bits .and .i64 n (m : Int) = (t : Int) ∧ t ≤ m := by
  refine ⟨(BitVec.ofInt 64 n &&& BitVec.ofInt 64 (m : Int)).toNat, ?_, ?_⟩
  · show IntKind.i64.wrap ((BitVec.ofInt 64 n &&& BitVec.ofInt 64 (m : Int)).toNat : Int) = _
    have h2 : (BitVec.ofInt 64 (m : Int)).toNat = m := by
      rw [BitVec.ofInt_natCast, BitVec.toNat_ofNat]; exact Nat.mod_eq_of_lt (by omega)
    have h3 : (BitVec.ofInt 64 n &&& BitVec.ofInt 64 (m : Int)).toNat ≤ m := by
      rw [BitVec.toNat_and, h2]; exact Nat.and_le_right
    rw [IntKind.wrap_i64]
    omega
  · rw [BitVec.toNat_and, BitVec.ofInt_natCast, BitVec.toNat_ofNat, Nat.mod_eq_of_lt (by omega : m < 2 ^ 64)]
    exact Nat.and_le_right
theorem SActsIn.one {a : Option Addr} {n c : Nat} {l : List (Bool × Sp)} {w : World} (h : SActsIn a n c l w) {k : Nat} (hk : k < n) : ∃ g off x, a = some ⟨g, off, none⟩ ∧ g < w.heap.size ∧ l[k]? = some x ∧ w.cell? ⟨g, off + k * 3, none⟩ = some (.bool x.1) ∧ w.cell? ⟨g, off + k * 3 + 1, none⟩ = some (.int .i64 x.2.1) ∧ w.cell? ⟨g, off + k * 3 + 2, none⟩ = some (.int .i64 x.2.2) := by
  obtain ⟨x, hx⟩ : ∃ x, l[k]? = some x := ⟨_, List.getElem?_eq_getElem (by rw [← h.len]; exact hk)⟩
  obtain ⟨g, off, ha, hg, hi⟩ := h.at_.resolve_left (by intro e; rw [e] at hx; cases hx)
  exact ⟨g, off, x, ha, hg, hx, (hi k x hx).1, (hi k x hx).2.1, (hi k x hx).2.2⟩
theorem len_tot : ∀ {l : List Sp} {b : Int}, Norm b l → (l.length : Int) ≤ tot l
  | [], _, _ => by simp [tot]
  | x :: l, b, h => by
    have := len_tot h.2.2
    have := h.2.1
    simp only [List.length_cons, tot]
    omega
/-- spans of 0 to 62 -/
def Few (l : List Sp) : Prop := Norm 0 l ∧ Top 63 l
theorem Few.nil : Few [] := ⟨trivial, fun x hx => by cases hx⟩
theorem Few.nm {l : List Sp} (h : Few l) : Nm l := ⟨h.1.mono (by decide), h.2.mono (by decide)⟩
theorem Few.len {l : List Sp} (h : Few l) : l.length ≤ 63 := by
  have h1 := len_tot h.1
  have h2 := tot_bound h.1 h.2
  by_cases hl : l = []
  · subst hl; simp
  · have := h2.2 hl; omega
theorem few_cnt {A C : Nat} (hA : A ≤ 63) (hC : C ≤ 63) : cnt ((A : Int), (C : Int)) = ((A : Int), (C : Int)) := by
  unfold cnt
  simp only
  rw [near_id (by unfold lo; omega) (by unfold hi; omega), near_id (by unfold lo; omega) (by unfold hi; omega)]
theorem Few.add {l : List Sp} (h : Few l) {A C : Nat} (hA : A ≤ 63) (hC : C ≤ 63) : Few (addS l ((A : Int), (C : Int))) := by
  unfold addS
  rw [few_cnt hA hC]
  split
  · rename_i hlt
    exact ⟨addR_norm _ _ _ h.1 hlt (by simp only; omega), addR_top _ _ _ h.2 (by simp only; omega)⟩
  · exact h
theorem Few.cut {l : List Sp} (h : Few l) {A C : Nat} (hA : A ≤ 63) (hC : C ≤ 63) : Few (cutS l ((A : Int), (C : Int))) := by
  unfold cutS
  rw [few_cnt hA hC]
  split
  · rename_i hlt
    exact ⟨leftL_norm _ _ (one_norm hlt) _ _ h.1, leftL_top _ _ _ (one_norm hlt) _ h.2⟩
  · exact h
theorem Few.tot {l : List Sp} (h : Few l) : num (fun n => mem n l) (-1) 66 = tot l := tot_num (h.1.mono (by decide)) (h.2.mono (by decide))
theorem Few.out {l : List Sp} (h : Few l) {n : Int} (hn : n < 0 ∨ 63 ≤ n) : hasS n l = false := by
  cases hh : hasS n l with
  | false => rfl
  | true =>
    have hm := (hasS_mem n l).1 hh
    have h1 := h.1.low hm
    have h2 := h.2.high hm
    omega
theorem num_succ (l : List Sp) (j : Nat) : num (fun n => mem n l) (-1) (j + 1) = num (fun n => mem n l) (-1) j + if hasS ((j : Int) - 1) l then 1 else 0 := by
  simp only [num]
  rw [show (-1 : Int) + j = (j : Int) - 1 by omega]
  cases hh : hasS ((j : Int) - 1) l with
  | true => rw [if_pos ((hasS_mem _ l).1 hh)]; rfl
  | false => rw [if_neg (fun hm => by rw [(hasS_mem _ l).2 hm] at hh; cases hh)]; rfl
theorem num_le (p : Int → Prop) (b : Int) : ∀ (k : Nat), 0 ≤ num p b k ∧ num p b k ≤ k
  | 0 => by simp [num]
  | k + 1 => by
    have := num_le p b k
    simp only [num]
    split <;> omega
set_option maxRecDepth 100000 in
set_option maxHeartbeats 8000000 in
theorem counts_walk (a : Option Addr) (n c : Nat) (l : List (Bool × Sp)) (W : World) (h : SActsIn a n c l W) :
    Calls Try.prog 6 #[.slice a n c] W (BPost true W) := by
  obtain ⟨P, hP⟩ : ∃ P, BPost true W = P := ⟨_, rfl⟩
  rw [hP]
  have HP := Lib.hid hP
  obtain ⟨N, hN⟩ : ∃ N, min n 20 = N := ⟨_, rfl⟩
  have hNn : N ≤ n := by omega
  have hN20 : N ≤ 20 := by omega
  have hnc := h.fit
  have htop := h.top
  have HF := Lib.hid h
  have HA := Lib.hid (awake_any W)
  clear hP h
  go_enter Try.func6, Try.ntmps6
  go_wp2_with fail
  refine HA.out.mono ?_
  rintro e W1 ⟨rfl, hb1⟩
  obtain ⟨s, hs⟩ : ∃ s, s = W1.heap.size := ⟨_, rfl⟩
  obtain ⟨W2, hW2⟩ : ∃ W2, W2 = W1.alloc (.cells #[.slice none 0 0] 28) := ⟨_, rfl⟩
  have h2 : One s [] W1 W2 := by rw [hW2, hs]; exact One.new W1
  have HT := Lib.hid h2
  have HS := Lib.hid hs
  have HW := Lib.hid hW2
  have HB1 := Lib.hid hb1
  clear h2 hs hW2 hb1 HA
  go_wp2_with fail
  rw [← HW.out, ← HS.out]
  go_loopw [4] (fun i wr => ∃ k : Nat, i = .int .i64 (k : Int) ∧ k ≤ N ∧ Hid (∃ O, One s O W1 wr ∧ Few O)) (fun i _ => N - (intOf i).toNat)
  case atStart => exact ⟨0, rfl, by omega, Lib.hid ⟨[], HT.out, Few.nil⟩⟩
  case round =>
    rename_i K hK
    obtain ⟨k, rfl, hk, HF2⟩ := hrel
    clear HT HW
    by_cases hlt : k < N
    · have hd : decide (k < n) = true := decide_eq_true (by omega)
      have hd2 : decide (k < 20) = true := decide_eq_true (by omega)
      have hkI : (k : Int) < n := by omega
      have hkI2 : (k : Int) < 20 := by omega
      have hkn : k < n := by omega
      obtain ⟨O, hO, hFO⟩ := HF2.out
      have hb2 : Below W.heap.size W wr := HB1.out.trans (hO.bel.mono HB1.out.size)
      obtain ⟨g, off, x, rfl, hg, hx, k0, k1, k2⟩ := HF.out.one hkn
      have k0 := (hb2.cell (p := ⟨g, off + k * 3, none⟩) hg).trans k0
      have k1 := (hb2.cell (p := ⟨g, off + k * 3 + 1, none⟩) hg).trans k1
      have k2 := (hb2.cell (p := ⟨g, off + k * 3 + 2, none⟩) hg).trans k2
      obtain ⟨B, x1, x2⟩ := x
      simp only at k0 k1 k2
      obtain ⟨A, hA, hA63⟩ := and_small x1 63 (by decide)
      obtain ⟨C, hC, hC63⟩ := and_small x2 63 (by decide)
      have hA : bits .and .i64 x1 63 = (A : Int) := hA
      have hC : bits .and .i64 x2 63 = (C : Int) := hC
      clear hb2 hx hg HF2
      cases B with
      | true =>
        obtain ⟨w3, hw3⟩ : ∃ w3, w3 = (wr.alloc (.cells #[.bool true, .int .i64 x1, .int .i64 x2] 31)).alloc (.cells #[.int .i64 (A : Int), .int .i64 (C : Int)] 38) := ⟨_, rfl⟩
        have hO3 : One s O W1 w3 := by rw [hw3]; exact (hO.below (alloc_below _ _)).below (alloc_below _ _)
        have HC := Lib.hid (hO3.act fun M hM => cut_one (A : Int) (C : Int) hM hFO.nm (by have := hFO.len; omega) (wr.heap.size + 1 + 1) (by rw [hw3]; simp))
        have HFO := Lib.hid (hFO.cut hA63 hC63)
        have HW3 := Lib.hid hw3
        clear hO hFO hw3 hO3
        go_wp2_with fail
        rw [← HW3.out]
        refine HC.out.mono ?_
        rintro e w4 ⟨rfl, h4⟩
        have H4 : Hid (∃ O, One s O W1 w4 ∧ Few O) := Lib.hid ⟨_, h4, HFO.out⟩
        clear h4 HC HFO HW3
        go_wp2_with fail
        go_roundw
        case rel => exact ⟨k + 1, by go_num, by omega, H4⟩
        case measure => simp [intOf]; omega
      | false =>
        obtain ⟨w3, hw3⟩ : ∃ w3, w3 = (wr.alloc (.cells #[.bool false, .int .i64 x1, .int .i64 x2] 31)).alloc (.cells #[.int .i64 (A : Int), .int .i64 (C : Int)] 38) := ⟨_, rfl⟩
        have hO3 : One s O W1 w3 := by rw [hw3]; exact (hO.below (alloc_below _ _)).below (alloc_below _ _)
        have HC := Lib.hid (hO3.act fun M hM => add_one (A : Int) (C : Int) hM hFO.nm (by have := hFO.len; omega) (wr.heap.size + 1 + 1) (by rw [hw3]; simp))
        have HFO := Lib.hid (hFO.add hA63 hC63)
        have HW3 := Lib.hid hw3
        clear hO hFO hw3 hO3
        go_wp2_with fail
        rw [← HW3.out]
        refine HC.out.mono ?_
        rintro e w4 ⟨rfl, h4⟩
        have H4 : Hid (∃ O, One s O W1 w4 ∧ Few O) := Lib.hid ⟨_, h4, HFO.out⟩
        clear h4 HC HFO HW3
        go_wp2_with fail
        go_roundw
        case rel => exact ⟨k + 1, by go_num, by omega, H4⟩
        case measure => simp [intOf]; omega
    · obtain rfl : k = N := by omega
      have hor : k = n ∧ (decide (k < n) = false) ∨ k = 20 ∧ k < n ∧ decide (k < n) = true := by
        by_cases hkn : k < n
        · exact .inr ⟨by omega, hkn, decide_eq_true hkn⟩
        · exact .inl ⟨by omega, decide_eq_false hkn⟩
      obtain ⟨O, hO, hFO⟩ := HF2.out
      have HO := Lib.hid hO
      have HFO := Lib.hid hFO
      have HK := Lib.hid hK
      clear hO hFO HF2 hlt HF hN20 hk hN hnc htop hNn hK
      suffices hrest : ∀ (u1 u5 u6 u7 u8 u9 u10 u11 u12 u13 u14 u15 u16 u17 u18 u19 u20 u21 u22 u23 u24 u25 u26 u27 u28 u29 u30 u31 u32 u33 u34 u35 u36 u37 u38 u39 u40 u41 u42 u43 u44 u45 u46 u47 u48 u49 u50 u51 u52 u53 u54 u55 u56 u57 u58 u59 u60 : Value), K { tmps := #[.slice a n c, u1, .bool false, .pointer (some ⟨s, 0, none⟩), .int .i64 (k : Int), u5, u6, u7, u8, u9, u10, u11, u12, u13, u14, u15, u16, u17, u18, u19, u20, u21, u22, u23, u24, u25, u26, u27, u28, u29, u30, u31, u32, u33, u34, u35, u36, u37, u38, u39, u40, u41, u42, u43, u44, u45, u46, u47, u48, u49, u50, u51, u52, u53, u54, u55, u56, u57, u58, u59, u60], defers := [] } wr by
        have HR := Lib.hid hrest
        clear hrest
        rcases hor with ⟨he, hd⟩ | ⟨he, hkn, hd⟩
        · subst he
          go_wp2_with fail
          exact HR.out _ _ _ _ _ _ _ _ _ _ _ _ _ _ _ _ _ _ _ _ _ _ _ _ _ _ _ _ _ _ _ _ _ _ _ _ _ _ _ _ _ _ _ _ _ _ _ _ _ _ _ _ _ _ _ _ _
        · subst he
          go_wp2_with fail
          exact HR.out _ _ _ _ _ _ _ _ _ _ _ _ _ _ _ _ _ _ _ _ _ _ _ _ _ _ _ _ _ _ _ _ _ _ _ _ _ _ _ _ _ _ _ _ _ _ _ _ _ _ _ _ _ _ _ _ _
      clear hor
      intro u1 u5 u6 u7 u8 u9 u10 u11 u12 u13 u14 u15 u16 u17 u18 u19 u20 u21 u22 u23 u24 u25 u26 u27 u28 u29 u30 u31 u32 u33 u34 u35 u36 u37 u38 u39 u40 u41 u42 u43 u44 u45 u46 u47 u48 u49 u50 u51 u52 u53 u54 u55 u56 u57 u58 u59 u60
      refine HK.out _ _ ?_
      clear HK
      go_wp2_with fail
      go_loopw [7, 8] (fun nn kk wr => ∃ j : Nat, j ≤ 66 ∧ kk = .int .i64 ((j : Int) - 1) ∧ nn = .int .i64 (num (fun n => mem n O) (-1) j) ∧ Hid (One s O W1 wr)) (fun _ kk _ => (65 - intOf kk).toNat)
      case atStart => exact ⟨0, by omega, rfl, rfl, HO⟩
      case round =>
        rename_i K2 hK2
        obtain ⟨j, hj, rfl, rfl, HB⟩ := hrel
        clear HO
        by_cases hlt : j < 66
        · have hd : decide ((j : Int) - 1 ≤ 64) = true := decide_eq_true (by omega)
          have hd' : (j : Int) - 1 ≤ 64 := by omega
          have HC := Lib.hid (HB.out.see fun M hM => sthas_any hM HFO.out.nm (by have := HFO.out.len; omega) ((j : Int) - 1))
          have hns := num_succ O j
          have hnb := num_le (fun n => mem n O) (-1) j
          obtain ⟨T, hT⟩ : ∃ T, num (fun n => mem n O) (-1) j = T := ⟨_, rfl⟩
          rw [hT] at hns hnb ⊢
          have b1 : 0 ≤ T := hnb.1
          have b2 : T ≤ 66 := by omega
          obtain ⟨r, hr⟩ : ∃ r, hasS ((j : Int) - 1) O = r := ⟨_, rfl⟩
          rw [hr] at HC hns
          cases r with
          | true =>
            have HNs := Lib.hid hns
            clear hr hns hT hnb
            go_wp2_with fail
            refine HC.out.mono ?_
            rintro e w5 ⟨rfl, hb5⟩
            have H5 := Lib.hid (HB.out.below hb5)
            clear hb5 HC HB
            go_wp2_with fail
            go_roundw
            case rel => exact ⟨j + 1, by omega, by go_num, by simp [HNs.out], H5⟩
            case measure => simp [intOf]; omega
          | false =>
            have HNs := Lib.hid hns
            clear hr hns hT hnb
            go_wp2_with fail
            refine HC.out.mono ?_
            rintro e w5 ⟨rfl, hb5⟩
            have H5 := Lib.hid (HB.out.below hb5)
            clear hb5 HC HB
            go_wp2_with fail
            go_roundw
            case rel => exact ⟨j + 1, by omega, by go_num, by simp [HNs.out], H5⟩
            case measure => simp [intOf]; omega
        · obtain rfl : j = 66 := by omega
          rw [HFO.out.tot]
          have hnm := HFO.out.nm
          have hln : O.length ≤ 100000 := by have := HFO.out.len; omega
          have HC := Lib.hid (HB.out.see fun M hM => stlen_any hM hnm hln)
          have HNm := Lib.hid (And.intro hnm hln)
          have HA1 := Lib.hid (HFO.out.out (n := -1) (.inl (by decide)))
          have HA2 := Lib.hid (HFO.out.out (n := 63) (.inr (by decide)))
          have q1 : (tot O == tot O) = true := by simp
          clear hnm hln
          go_wp2_with fail
          refine HC.out.mono ?_
          rintro e w5 ⟨rfl, hb5⟩
          have hO5 := HB.out.below hb5
          have hC := hO5.see fun M hM => sthas_any hM HNm.out.1 HNm.out.2 (-1)
          rw [HA1.out] at hC
          have HC2 := Lib.hid hC
          have H5 := Lib.hid hO5
          clear hb5 hO5 hC HC HB
          go_wp2_with fail
          refine HC2.out.mono ?_
          rintro e w6 ⟨rfl, hb6⟩
          have hO6 := H5.out.below hb6
          have hC := hO6.see fun M hM => sthas_any hM HNm.out.1 HNm.out.2 63
          rw [HA2.out] at hC
          have HC3 := Lib.hid hC
          have H6 := Lib.hid hO6
          clear hb6 hO6 hC HC2 H5
          go_wp2_with fail
          refine HC3.out.mono ?_
          rintro e w7 ⟨rfl, hb7⟩
          have hend := HB1.out.trans ((H6.out.below hb7).bel.mono HB1.out.size)
          have HEnd := Lib.hid hend
          clear hb7 hend HC3 H6
          go_wp2_with fail
          rw [← HP.out]
          exact ⟨rfl, HEnd.out⟩
end Go.Proofs.Ytjbjflmpdmflmaa.H
