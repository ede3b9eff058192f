/- The contract of the program's Put. -/
import Derived.Test.YtkggmcnocpgnbaaDoorMerged4
namespace Go.Proofs.YtkggmcnocpgnbaaDoor.K
open Go.RowKit

set_option maxRecDepth 100000 in
set_option maxHeartbeats 8000000 in
theorem rowPut_any (a : Option Addr) (n c : Nat) (wr0 : Bool) (l : List Cel) (at_ x s : Int) (w : World) (hT : W.Tab w) (hI : CelsIn .i32 a n l w) (hnil : a = none → c = 0) (hn : (n : Int) ≤ 1000000) :
    Calls Tryd.prog 47 #[.agg #[.slice a n c, .bool wr0], .int .i64 at_, .int .i32 x, .int .i64 s] w (RowPost .i32 105 w.heap.size (putS (W.ofS x) l at_ x s) false w) := by
  obtain ⟨rb, hrb⟩ : ∃ rb, w.heap.size = rb := ⟨_, rfl⟩
  rw [hrb, ← putC_S (W.ofS_le x)]
  obtain ⟨k, hk⟩ : ∃ k, W.ofS x = k := ⟨_, rfl⟩
  have hk2 := W.ofS_le x
  rw [hk] at hk2 ⊢
  obtain ⟨P, hP⟩ : ∃ P, RowPost .i32 105 rb (putC k l at_ x s) false w = P := ⟨_, rfl⟩
  rw [hP]
  have HP := Lib.hid hP
  have hln := hI.len
  have hst := St0.start 27 27 w (.slice a n c) wr0
  obtain ⟨w2, hw2⟩ : ∃ w2, (w.alloc (.cells #[.slice a n c, .bool wr0] 27)).alloc (.cells #[.slice none 0 0, .bool false] 27) = w2 := ⟨_, rfl⟩
  rw [hw2, hrb] at hst
  have c0 := hst.r.c0
  have hsz2 : rb + 2 ≤ w2.heap.size := hst.size
  have hrb2 : rb < w2.heap.size := by omega
  have HSt := Lib.hid hst
  have hI2 : CelsIn .i32 a n l w2 := hI.belowAll (by rw [hrb]; exact hst.below)
  have HCl := Lib.hid (clone_any a n c l w2 hI2 hnil hn)
  have HT2 : Hid (W.Tab w2) := Lib.hid (hT.belowAll (by rw [hrb]; exact hst.below))
  have HW2 := Lib.hid hw2
  have HRb := Lib.hid hrb
  have HLn := Lib.hid hln
  have HK := Lib.hid hk
  clear hP hst hI hI2 hnil hw2 hrb hln hT hk
  go_enter Tryd.func47, Tryd.ntmps47
  go_upto_region 1 with fail
  rw [HW2.out, HRb.out]
  go_wp2_with (go_at_call 82; refine HCl.out.mono ?_; rintro e w3 ⟨v3, rfl, hO3, hb3⟩)
  have HC4 := Lib.hid (cells_any x s w3 (HT2.out.belowAll hb3))
  rw [HK.out] at HC4
  obtain ⟨a3, c3, rfl, hin3, hblk3, hnil3, hcap3, hmx3⟩ := hO3.shape
  have HB3 := Lib.hid hb3
  have HO3 := Lib.hid hO3
  have HBlk3 := Lib.hid hblk3
  have HCap3 := Lib.hid hcap3
  have HIn3 := Lib.hid hin3
  clear hb3 hO3 hin3 hblk3 HCl hnil3 hcap3
  go_upto_region 2 with (go_at_call 83; refine HC4.out.mono ?_; rintro e w4 ⟨v4, rfl, hO4, hb4⟩)
  obtain ⟨a4, c4, he4, hin4, -, -, hcap4, -⟩ := hO4.shape
  rw [putL_length hk2] at he4 hin4 hcap4
  subst he4
  rw [← HLn.out] at HCap3 HIn3 ⊢
  have hO34 := HO3.out.belowAll hb4
  rw [← HLn.out] at hO34
  have HO34 : Hid (OwnC .i32 105 (rb + 2) (.slice a3 n c3) l w4) := Lib.hid (hO34.weaken hsz2)
  have hbb4 : Below (rb + 2) w2 w4 := (HB3.out.mono hsz2).trans (hb4.mono (Nat.le_trans hsz2 HB3.out.size))
  have HSt4 := Lib.hid (HSt.out.more hbb4)
  have HIn4 := Lib.hid hin4
  have HBk : Hid (∀ b off, a3 = some ⟨b, off, none⟩ → rb + 2 ≤ b ∧ off = 0) := Lib.hid (fun b off e => by have := HBlk3.out b off e; exact ⟨Nat.le_trans hsz2 this.1, this.2.2⟩)
  have HNk : Hid (∀ b off, a3 = some ⟨b, off, none⟩ → b < w3.heap.size) := Lib.hid (fun b off e => (HBlk3.out b off e).2.1)
  clear hO4 hb4 hin4 hO34 hbb4 HO3 HBlk3
  by_cases hbad : at_ < 0 ∨ (l.length : Int) - k < at_
  · have hS : putC k l at_ x s = mend l := by unfold putC; rw [if_pos hbad]
    rw [hS] at HP
    have HM := Lib.hid (mended_any (rb + 2) (.slice a3 n c3) l w4 HO34.out HSt4.out.size (by rw [← HLn.out]; exact hn))
    rw [← HLn.out] at hbad
    have hway : decide (at_ ≥ 0) = false ∨ (decide (at_ ≥ 0) = true ∧ decide (at_ ≤ (n : Int) - (k : Int)) = false) := by
      by_cases h : at_ < 0
      · left; simp; omega
      · right; exact ⟨by simp; omega, by simp; omega⟩
    clear hbad hS
    rcases hway with d1 | ⟨d1, d2⟩
    all_goals
      go_wp2_with fail
      refine HM.out.mono ?_
      rintro e w5 ⟨v5, rfl, hO5, hb5⟩
      have HSt5 := Lib.hid (HSt4.out.more hb5)
      obtain ⟨a5, c5, he5, -⟩ := hO5.shape
      obtain ⟨n5, hn5⟩ : ∃ n5, (mend l).length = n5 := ⟨_, rfl⟩
      rw [hn5] at he5
      subst he5
      have HO5 := Lib.hid hO5
      have x0 := HSt5.out.q.c0
      have x1 := HSt5.out.q.c1
      have f0 := HSt5.out.q.fr 0
      have f1 := HSt5.out.q.fr 1
      clear hO5 hb5 hn5 HM
      go_wp2_with fail
      refine bodyPost_ret (v := .agg #[.slice a5 n5 c5, .bool false]) (by rw [results_cell (fn := Tryd.f47) rfl]; go_simp <;> rfl) rfl ?_
      rw [← HP.out]
      exact ⟨_, rfl, (HO5.out.set2 (Nat.lt_succ_self (rb + 1)) _ _).weaken (by omega), below_set2 HSt5.out.below (by omega)⟩
  · obtain ⟨A, rfl⟩ : ∃ A : Nat, at_ = (A : Int) := ⟨at_.toNat, by omega⟩
    rw [← HLn.out] at hbad
    have hA : A + k ≤ n := by omega
    have d1 : decide ((A : Int) ≥ 0) = true := by simp
    have d2 : decide ((A : Int) ≤ (n : Int) - (k : Int)) = true := by simp; omega
    have hAn : (A : Int) ≤ n := by omega
    have hAc : (A : Int) ≤ c3 := by have := HCap3.out; omega
    have hS : putC k l (A : Int) x s = mend (l.take A ++ putL k x s ++ l.drop (A + k)) := by unfold putC; rw [if_neg (by rw [← HLn.out]; exact hbad)]; rfl
    have hML : (l.take A ++ putL k x s ++ l.drop (A + k)).length = n := by
      rw [List.length_append, List.length_append, List.length_take, List.length_drop, putL_length hk2, ← HLn.out]; omega
    obtain ⟨m, hm⟩ : ∃ m, l.take A ++ putL k x s ++ l.drop (A + k) = m := ⟨_, rfl⟩
    rw [hm] at hS hML
    have HM := Lib.hid hm
    have HS := Lib.hid hS
    have HML := Lib.hid hML
    clear hbad hm hS hML
    go_upto_region 3 with fail
    go_cut [] (fun wx => Hid (OwnC .i32 105 (rb + 2) (.slice a3 n c3) m wx ∧ Below (rb + 2) w4 wx))
    case first =>
      have hsz : (Tryd.prog.info? 105).map (·.size) = some 3 := by
        obtain ⟨i0, hin, hz0, hz1, hz2⟩ := info_parts rowT.info
        rw [hin]; simp [hz1]
      have HSz := Lib.hid hsz
      clear hsz
      by_cases hk0 : k = 0
      · subst hk0
        have HE : Hid (m = l) := Lib.hid (by rw [← HM.out]; simp [putL])
        have HD : Hid (OwnC .i32 105 (rb + 2) (.slice a3 n c3) m w4 ∧ Below (rb + 2) w4 w4) := Lib.hid ⟨by rw [HE.out]; exact HO34.out, Below.refl _ _⟩
        cases a3 with
        | none =>
          go_wp2_with (refine U.wpList_copy_zero rfl _ _ _ _ rfl 105 3 Tryd.underlying25 HSz.out _ _ _ _ _ _ rfl rfl (Nat.zero_min _) ?_)
          go_meet
          exact HD
        | some ad =>
          obtain ⟨b3, o3, s3⟩ := ad
          by_cases hca : c3 = A
          · subst hca
            go_wp2_with (refine U.wpList_copy_zero rfl _ _ _ _ rfl 105 3 Tryd.underlying25 HSz.out _ _ _ _ _ _ rfl rfl (Nat.zero_min _) ?_)
            go_meet
            exact HD
          · go_wp2_with (refine U.wpList_copy_zero rfl _ _ _ _ rfl 105 3 Tryd.underlying25 HSz.out _ _ _ _ _ _ rfl rfl (Nat.zero_min _) ?_)
            go_meet
            exact HD
      · have hln : 0 < l.length := by rw [← HLn.out]; omega
        obtain ⟨b3, o3, rfl, hb3, -⟩ := HIn3.out.at_.resolve_left (by intro e; rw [e] at hln; simp at hln)
        obtain ⟨hbb, rfl⟩ := HBk.out b3 o3 rfl
        have hpl : 0 < (putL k x s).length := by rw [putL_length hk2]; omega
        obtain ⟨b4, o4, rfl, hb4, -⟩ := HIn4.out.at_.resolve_left (by intro e; rw [e] at hpl; simp at hpl)
        have hne : ¬ c3 = A := by have := HCap3.out; omega
        have hmin : Nat.min k (n - A) = k := Nat.min_eq_left (by omega)
        have HOu : Hid (w4.ownsRow (rb + 2) 105 3 (.slice (some ⟨b3, 0, none⟩) n c3) n (flatC .i32 l)) := Lib.hid (by have h := HO34.out; unfold OwnC at h; rw [← HLn.out] at h; exact h)
        have HNews := Lib.hid HIn4.out.news
        have HFl : Hid ((flatC .i32 (putL k x s)).length = k * 3) := Lib.hid (by rw [flatC_len, putL_length hk2])
        have HMin := Lib.hid hmin
        clear hln hpl hmin hb3 hb4
        go_wp2_with (refine U.wpList_copy_own rfl _ _ _ _ rfl 105 3 Tryd.underlying25 HSz.out (rb + 2) b3 n c3 (flatC .i32 l) HOu.out A k (n - A) _ ⟨b4, o4, none⟩ k _ (flatC .i32 (putL k x s)) rfl rfl HMin.out HFl.out HNews.out hA (flatC_one .i32 _) ?_)
        intro w5 h5 hg5
        have HD : Hid (OwnC .i32 105 (rb + 2) (.slice (some ⟨b3, 0, none⟩) n c3) m w5 ∧ Below (rb + 2) w4 w5) := Lib.hid ⟨by unfold OwnC; rw [HML.out, ← HM.out, putC_flat, List.append_assoc]; exact h5, below_grown (Below.refl _ _) hg5 hbb HSt4.out.size⟩
        clear h5 hg5
        go_wp2_with fail
        go_meet
        exact HD
    case rest =>
    obtain ⟨hO5, hb5⟩ := hcut.out
    have HSt5 := Lib.hid (HSt4.out.more hb5)
    have hMm := mended_any (rb + 2) (.slice a3 n c3) m wc hO5 HSt5.out.size (by rw [HML.out]; exact hn)
    rw [← HS.out] at hMm
    have HMm := Lib.hid hMm
    clear hO5 hb5 hMm
    go_wp2_with fail
    refine HMm.out.mono ?_
    rintro e w6 ⟨v6, rfl, hO6, hb6⟩
    have HSt6 := Lib.hid (HSt5.out.more hb6)
    obtain ⟨a6, c6, he6, -⟩ := hO6.shape
    obtain ⟨n6, hn6⟩ : ∃ n6, (putC k l (A : Int) x s).length = n6 := ⟨_, rfl⟩
    rw [hn6] at he6
    subst he6
    have HO6 := Lib.hid hO6
    have x0 := HSt6.out.q.c0
    have x1 := HSt6.out.q.c1
    have f0 := HSt6.out.q.fr 0
    have f1 := HSt6.out.q.fr 1
    clear hO6 hb6 hn6 HMm
    go_wp2_with fail
    refine bodyPost_ret (v := .agg #[.slice a6 n6 c6, .bool false]) (by rw [results_cell (fn := Tryd.f47) rfl]; go_simp <;> rfl) rfl ?_
    rw [← HP.out]
    exact ⟨_, rfl, (HO6.out.set2 (Nat.lt_succ_self (rb + 1)) _ _).weaken (by omega), below_set2 HSt6.out.below (by omega)⟩
end Go.Proofs.YtkggmcnocpgnbaaDoor.K

/- The contract of the program's Erase. -/
namespace Go.Proofs.YtkggmcnocpgnbaaDoor.K
open Go.RowKit

theorem eraseJ_skip (l : List Cel) (a b s : Int) (j : Nat) : ∀ (d : Nat), j + d ≤ l.length → (∀ i, j ≤ i → i < j + d → ¬ (a ≤ (i : Int) ∧ (i : Int) < b)) → eraseJ l a b s (j + d) = eraseJ l a b s j
  | 0, _, _ => rfl
  | d + 1, h, hn => by
    rw [← Nat.add_assoc, eraseJ_out l a b s (j + d) (by omega) (hn _ (by omega) (by omega))]
    exact eraseJ_skip l a b s j d (by omega) (fun i h1 h2 => hn i h1 (by omega))
theorem eraseJ_from (l : List Cel) (a b s : Int) (A : Nat) (hA : nearS a l.length = (A : Int)) : eraseJ l a b s A = l := by
  have h := eraseJ_skip l a b s 0 A (by unfold nearS at hA; omega) (fun i _ hi h => by unfold nearS at hA; omega)
  rw [Nat.zero_add, eraseJ_zero] at h
  exact h
theorem eraseJ_to (l : List Cel) (a b s : Int) (A B j : Nat) (hA : nearS a l.length = (A : Int)) (hB : nearS b l.length = (B : Int)) (h1 : A ≤ j) (h2 : B ≤ j) (h3 : j ≤ l.length) : mend (eraseJ l a b s j) = eraseS l a b s := by
  have h := eraseJ_skip l a b s j (l.length - j) (by omega) (fun i h4 h5 h => by unfold nearS at hA hB; omega)
  rw [show j + (l.length - j) = l.length by omega] at h
  rw [← h, eraseJ_all]
theorem near_in {a b : Int} {n A B j : Nat} (hA : nearS a n = (A : Int)) (hB : nearS b n = (B : Int)) (h1 : A ≤ j) (h2 : j < B) : a ≤ (j : Int) ∧ (j : Int) < b := by
  unfold nearS at hA hB; omega

set_option maxRecDepth 100000 in
set_option maxHeartbeats 8000000 in
theorem rowErase_any (a : Option Addr) (n c : Nat) (wr0 : Bool) (l : List Cel) (fr ut s : Int) (w : World) (hI : CelsIn .i32 a n l w) (hnil : a = none → c = 0) (hn : (n : Int) ≤ 1000000) :
    Calls Tryd.prog 95 #[.agg #[.slice a n c, .bool wr0], .int .i64 fr, .int .i64 ut, .int .i64 s] w (RowPost .i32 105 w.heap.size (eraseS l fr ut s) false w) := by
  obtain ⟨rb, hrb⟩ : ∃ rb, w.heap.size = rb := ⟨_, rfl⟩
  rw [hrb]
  obtain ⟨P, hP⟩ : ∃ P, RowPost .i32 105 rb (eraseS l fr ut s) false w = P := ⟨_, rfl⟩
  rw [hP]
  have HP := Lib.hid hP
  have hln := hI.len
  obtain ⟨A, hA, hAn⟩ := nearS_nat fr n
  obtain ⟨B, hB, hBn⟩ := nearS_nat ut n
  have HNa := Lib.hid (fun (v : World) => nearest_any fr n v)
  have HNb := Lib.hid (fun (v : World) => nearest_any ut n v)
  rw [hA] at HNa
  rw [hB] at HNb
  have hst := St0.start 27 27 w (.slice a n c) wr0
  obtain ⟨w2, hw2⟩ : ∃ w2, (w.alloc (.cells #[.slice a n c, .bool wr0] 27)).alloc (.cells #[.slice none 0 0, .bool false] 27) = w2 := ⟨_, rfl⟩
  rw [hw2, hrb] at hst
  have c0 := hst.r.c0
  have hsz2 : rb + 2 ≤ w2.heap.size := hst.size
  have hrb2 : rb < w2.heap.size := by omega
  have HSt := Lib.hid hst
  have hI2 : CelsIn .i32 a n l w2 := hI.belowAll (by rw [hrb]; exact hst.below)
  have HCl := Lib.hid (clone_any a n c l w2 hI2 hnil hn)
  have HW2 := Lib.hid hw2
  have HRb := Lib.hid hrb
  have HLn := Lib.hid hln
  have HA := Lib.hid hA
  have HB := Lib.hid hB
  clear hP hst hI hI2 hnil hw2 hrb hln hA hB
  go_enter Tryd.func95, Tryd.ntmps95
  go_upto_region 1 with fail
  rw [HW2.out, HRb.out]
  go_upto_region 2 with (go_at_call 82; refine HCl.out.mono ?_; rintro e w3 ⟨v3, rfl, hO3, hb3⟩)
  obtain ⟨a3, c3, rfl, hin3, hblk3, -, -, hmx3⟩ := hO3.shape
  have HSt3 := Lib.hid (HSt.out.more (hb3.mono hsz2))
  rw [← HLn.out] at hin3 ⊢
  have HO3 : Hid (OwnC .i32 105 (rb + 2) (.slice a3 n c3) (eraseJ l fr ut s A) w3) := Lib.hid (by
    have h := hO3.weaken hsz2
    rw [← HLn.out] at h
    rw [eraseJ_from l fr ut s A (by rw [← HLn.out]; exact HA.out)]
    exact h)
  have HBk : Hid (∀ b off, a3 = some ⟨b, off, none⟩ → rb + 2 ≤ b ∧ off = 0) := Lib.hid (fun b off e => by have := hblk3 b off e; exact ⟨Nat.le_trans hsz2 this.1, this.2.2⟩)
  have HIn3 := Lib.hid hin3
  clear hO3 hb3 hin3 hblk3 HCl c0
  go_wp2_with (go_at_call 49; refine (HNa.out _).mono ?_; rintro e w' ⟨rfl, rfl⟩)
  go_loopw [10] (fun i wr => ∃ j : Nat, i = .int .i64 (j : Int) ∧ j ≤ n ∧ A ≤ j ∧ Hid (St0 27 27 rb (.slice a n c) wr0 w wr ∧ OwnC .i32 105 (rb + 2) (.slice a3 n c3) (eraseJ l fr ut s j) wr)) (fun i _ => n - (intOf i).toNat)
  case atStart => exact ⟨A, rfl, hAn, Nat.le_refl _, Lib.hid ⟨HSt3.out, HO3.out⟩⟩
  case round =>
    obtain ⟨j, rfl, hj, hAj, HF⟩ := hrel
    by_cases hlt : j < B
    · have hd : decide (j < B) = true := by simp; omega
      have hjn : j < n := by omega
      have hjl : j < l.length := by rw [← HLn.out]; omega
      obtain ⟨b3, o3, rfl, hb3, -⟩ := HIn3.out.at_.resolve_left (by intro e; rw [e] at hjl; simp at hjl)
      obtain ⟨hbb, rfl⟩ := HBk.out b3 o3 rfl
      have HE := Lib.hid (eraseJ_in l fr ut s j hjl (near_in HA.out HB.out hAj hlt))
      have HJl : Hid ((eraseJ l fr ut s j).length = n) := Lib.hid (by rw [eraseJ_length, ← HLn.out])
      have HO := Lib.hid HF.out.2
      clear hb3
      go_wp2_with (first | (go_at_call 49; refine (HNb.out _).mono ?_; rintro e w' ⟨rfl, rfl⟩) | (go_at_call 86; refine (blank_any s _).mono ?_; rintro e w4 ⟨rfl, hb4⟩) | (refine wpList_store_cel rowT rfl rfl _ _ rfl (rb + 2) b3 n c3 (eraseJ l fr ut s j) j (blk s) rfl rfl (HO.out.belowAll hb4) hjn HJl.out ?_))
      intro w5 h5 hg5
      have HF5 : Hid (St0 27 27 rb (.slice a n c) wr0 w w5 ∧ OwnC .i32 105 (rb + 2) (.slice (some ⟨b3, 0, none⟩) n c3) (eraseJ l fr ut s (j + 1)) w5) := Lib.hid (by
        have h4 := HF.out.1.more (hb4.mono HF.out.1.size)
        exact ⟨h4.more ((Below.refl _ _).grown hg5 h4.size (fun q hq => by cases hq; exact hbb)), by rw [HE.out]; exact h5⟩)
      clear h5 hg5 hb4
      go_wp2
      go_roundw
      case rel => exact ⟨j + 1, by go_num, by omega, by omega, HF5⟩
      case measure => simp [intOf]; omega
    · have hd : decide (j < B) = false := by simp; omega
      obtain ⟨a4, c4, he4, -⟩ := HF.out.2.shape
      have hm := mended_any (rb + 2) (.slice a3 n c3) (eraseJ l fr ut s j) wr HF.out.2 HF.out.1.size (by rw [eraseJ_length, ← HLn.out]; exact hn)
      have hme : mend (eraseJ l fr ut s j) = eraseS l fr ut s := eraseJ_to l fr ut s A B j (by rw [← HLn.out]; exact HA.out) (by rw [← HLn.out]; exact HB.out) hAj (by omega) (by rw [← HLn.out]; exact hj)
      rw [hme] at hm
      have HM := Lib.hid hm
      clear hm hme he4
      go_wp2_with (first | (go_at_call 49; refine (HNb.out _).mono ?_; rintro e w' ⟨rfl, rfl⟩))
      refine HM.out.mono ?_
      rintro e w5 ⟨v5, rfl, hO5, hb5⟩
      have HSt5 := Lib.hid (HF.out.1.more hb5)
      obtain ⟨a5, c5, he5, -⟩ := hO5.shape
      obtain ⟨n5, hn5⟩ : ∃ n5, (eraseS l fr ut s).length = n5 := ⟨_, rfl⟩
      rw [hn5] at he5
      subst he5
      have HO5 := Lib.hid hO5
      have x0 := HSt5.out.q.c0
      have x1 := HSt5.out.q.c1
      have f0 := HSt5.out.q.fr 0
      have f1 := HSt5.out.q.fr 1
      clear hO5 hb5 hn5 HM
      go_wp2_with fail
      refine bodyPost_ret (v := .agg #[.slice a5 n5 c5, .bool false]) (by rw [results_cell (fn := Tryd.f95) rfl]; go_simp <;> rfl) rfl ?_
      rw [← HP.out]
      exact ⟨_, rfl, (HO5.out.set2 (Nat.lt_succ_self (rb + 1)) _ _).weaken (by omega), below_set2 HSt5.out.below (by omega)⟩
end Go.Proofs.YtkggmcnocpgnbaaDoor.K
