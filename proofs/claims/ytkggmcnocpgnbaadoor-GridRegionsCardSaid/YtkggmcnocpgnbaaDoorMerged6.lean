/- The contract of the program's Put. -/
import Derived.Test.YtkggmcnocpgnbaaDoorMerged5
import Derived.Lib.AppendZeros
import Derived.Lib.Buffer
import Derived.Test.YtkggmcnocpgnbaaDoorRelV
namespace Go.Proofs.YtkggmcnocpgnbaaDoor.K
open Go.RowKit

set_option maxRecDepth 100000 in
set_option maxHeartbeats 8000000 in
theorem rowPut_any (a : Option Addr) (n c : Nat) (wr0 : Bool) (l : List Cel) (at_ x s : Int) (w : World) (hT : W.Tab w) (hI : CelsIn .i32 a n l w) (hnil : a = none → c = 0) (hn : (n : Int) ≤ 1000000) :
    Calls Tryd.prog 47 #[.agg #[.slice a n c, .bool wr0], .int .i64 at_, .int .i32 x, .int .i64 s] w (RowPost .i32 105 w.heap.size (putS (W.ofS x) l at_ x s) false w) := by
  obtain ⟨rb, hrb⟩ : ∃ rb, w.heap.size = rb := ⟨_, rfl⟩
  rw [hrb, ← putC_S (W.ofS_le x)]
  obtain ⟨k, hk⟩ : ∃ k, W.ofS x = k := ⟨_, rfl⟩
  have hk2 := W.ofS_le x
  rw [hk] at hk2 ⊢
  obtain ⟨P, hP⟩ : ∃ P, RowPost .i32 105 rb (putC k l at_ x s) false w = P := ⟨_, rfl⟩
  rw [hP]
  have HP := Lib.hid hP
  have hln := hI.len
  have hst := St0.start 27 27 w (.slice a n c) wr0
  obtain ⟨w2, hw2⟩ : ∃ w2, (w.alloc (.cells #[.slice a n c, .bool wr0] 27)).alloc (.cells #[.slice none 0 0, .bool false] 27) = w2 := ⟨_, rfl⟩
  rw [hw2, hrb] at hst
  have c0 := hst.r.c0
  have hsz2 : rb + 2 ≤ w2.heap.size := hst.size
  have hrb2 : rb < w2.heap.size := by omega
  have HSt := Lib.hid hst
  have hI2 : CelsIn .i32 a n l w2 := hI.belowAll (by rw [hrb]; exact hst.below)
  have HCl := Lib.hid (clone_any a n c l w2 hI2 hnil hn)
  have HT2 : Hid (W.Tab w2) := Lib.hid (hT.belowAll (by rw [hrb]; exact hst.below))
  have HW2 := Lib.hid hw2
  have HRb := Lib.hid hrb
  have HLn := Lib.hid hln
  have HK := Lib.hid hk
  clear hP hst hI hI2 hnil hw2 hrb hln hT hk
  go_enter Tryd.func47, Tryd.ntmps47
  go_upto_region 1 with fail
  rw [HW2.out, HRb.out]
  go_wp2_with (go_at_call 82; refine HCl.out.mono ?_; rintro e w3 ⟨v3, rfl, hO3, hb3⟩)
  have HC4 := Lib.hid (cells_any x s w3 (HT2.out.belowAll hb3))
  rw [HK.out] at HC4
  obtain ⟨a3, c3, rfl, hin3, hblk3, hnil3, hcap3, hmx3⟩ := hO3.shape
  have HB3 := Lib.hid hb3
  have HO3 := Lib.hid hO3
  have HBlk3 := Lib.hid hblk3
  have HCap3 := Lib.hid hcap3
  have HIn3 := Lib.hid hin3
  clear hb3 hO3 hin3 hblk3 HCl hnil3 hcap3
  go_upto_region 2 with (go_at_call 83; refine HC4.out.mono ?_; rintro e w4 ⟨v4, rfl, hO4, hb4⟩)
  obtain ⟨a4, c4, he4, hin4, -, -, hcap4, -⟩ := hO4.shape
  rw [putL_length hk2] at he4 hin4 hcap4
  subst he4
  rw [← HLn.out] at HCap3 HIn3 ⊢
  have hO34 := HO3.out.belowAll hb4
  rw [← HLn.out] at hO34
  have HO34 : Hid (OwnC .i32 105 (rb + 2) (.slice a3 n c3) l w4) := Lib.hid (hO34.weaken hsz2)
  have hbb4 : Below (rb + 2) w2 w4 := (HB3.out.mono hsz2).trans (hb4.mono (Nat.le_trans hsz2 HB3.out.size))
  have HSt4 := Lib.hid (HSt.out.more hbb4)
  have HIn4 := Lib.hid hin4
  have HBk : Hid (∀ b off, a3 = some ⟨b, off, none⟩ → rb + 2 ≤ b ∧ off = 0) := Lib.hid (fun b off e => by have := HBlk3.out b off e; exact ⟨Nat.le_trans hsz2 this.1, this.2.2⟩)
  have HNk : Hid (∀ b off, a3 = some ⟨b, off, none⟩ → b < w3.heap.size) := Lib.hid (fun b off e => (HBlk3.out b off e).2.1)
  clear hO4 hb4 hin4 hO34 hbb4 HO3 HBlk3
  by_cases hbad : at_ < 0 ∨ (l.length : Int) - k < at_
  · have hS : putC k l at_ x s = mend l := by unfold putC; rw [if_pos hbad]
    rw [hS] at HP
    have HM := Lib.hid (mended_any (rb + 2) (.slice a3 n c3) l w4 HO34.out HSt4.out.size (by rw [← HLn.out]; exact hn))
    rw [← HLn.out] at hbad
    have hway : decide (at_ ≥ 0) = false ∨ (decide (at_ ≥ 0) = true ∧ decide (at_ ≤ (n : Int) - (k : Int)) = false) := by
      by_cases h : at_ < 0
      · left; simp; omega
      · right; exact ⟨by simp; omega, by simp; omega⟩
    clear hbad hS
    rcases hway with d1 | ⟨d1, d2⟩
    all_goals
      go_wp2_with fail
      refine HM.out.mono ?_
      rintro e w5 ⟨v5, rfl, hO5, hb5⟩
      have HSt5 := Lib.hid (HSt4.out.more hb5)
      obtain ⟨a5, c5, he5, -⟩ := hO5.shape
      obtain ⟨n5, hn5⟩ : ∃ n5, (mend l).length = n5 := ⟨_, rfl⟩
      rw [hn5] at he5
      subst he5
      have HO5 := Lib.hid hO5
      have x0 := HSt5.out.q.c0
      have x1 := HSt5.out.q.c1
      have f0 := HSt5.out.q.fr 0
      have f1 := HSt5.out.q.fr 1
      clear hO5 hb5 hn5 HM
      go_wp2_with fail
      refine bodyPost_ret (v := .agg #[.slice a5 n5 c5, .bool false]) (by rw [results_cell (fn := Tryd.f47) rfl]; go_simp <;> rfl) rfl ?_
      rw [← HP.out]
      exact ⟨_, rfl, (HO5.out.set2 (Nat.lt_succ_self (rb + 1)) _ _).weaken (by omega), below_set2 HSt5.out.below (by omega)⟩
  · obtain ⟨A, rfl⟩ : ∃ A : Nat, at_ = (A : Int) := ⟨at_.toNat, by omega⟩
    rw [← HLn.out] at hbad
    have hA : A + k ≤ n := by omega
    have d1 : decide ((A : Int) ≥ 0) = true := by simp
    have d2 : decide ((A : Int) ≤ (n : Int) - (k : Int)) = true := by simp; omega
    have hAn : (A : Int) ≤ n := by omega
    have hAc : (A : Int) ≤ c3 := by have := HCap3.out; omega
    have hS : putC k l (A : Int) x s = mend (l.take A ++ putL k x s ++ l.drop (A + k)) := by unfold putC; rw [if_neg (by rw [← HLn.out]; exact hbad)]; rfl
    have hML : (l.take A ++ putL k x s ++ l.drop (A + k)).length = n := by
      rw [List.length_append, List.length_append, List.length_take, List.length_drop, putL_length hk2, ← HLn.out]; omega
    obtain ⟨m, hm⟩ : ∃ m, l.take A ++ putL k x s ++ l.drop (A + k) = m := ⟨_, rfl⟩
    rw [hm] at hS hML
    have HM := Lib.hid hm
    have HS := Lib.hid hS
    have HML := Lib.hid hML
    clear hbad hm hS hML
    go_upto_region 3 with fail
    go_cut [] (fun wx => Hid (OwnC .i32 105 (rb + 2) (.slice a3 n c3) m wx ∧ Below (rb + 2) w4 wx))
    case first =>
      have hsz : (Tryd.prog.info? 105).map (·.size) = some 3 := by
        obtain ⟨i0, hin, hz0, hz1, hz2⟩ := info_parts rowT.info
        rw [hin]; simp [hz1]
      have HSz := Lib.hid hsz
      clear hsz
      by_cases hk0 : k = 0
      · subst hk0
        have HE : Hid (m = l) := Lib.hid (by rw [← HM.out]; simp [putL])
        have HD : Hid (OwnC .i32 105 (rb + 2) (.slice a3 n c3) m w4 ∧ Below (rb + 2) w4 w4) := Lib.hid ⟨by rw [HE.out]; exact HO34.out, Below.refl _ _⟩
        cases a3 with
        | none =>
          go_wp2_with (refine U.wpList_copy_zero rfl _ _ _ _ rfl 105 3 Tryd.underlying25 HSz.out _ _ _ _ _ _ rfl rfl (Nat.zero_min _) ?_)
          go_meet
          exact HD
        | some ad =>
          obtain ⟨b3, o3, s3⟩ := ad
          by_cases hca : c3 = A
          · subst hca
            go_wp2_with (refine U.wpList_copy_zero rfl _ _ _ _ rfl 105 3 Tryd.underlying25 HSz.out _ _ _ _ _ _ rfl rfl (Nat.zero_min _) ?_)
            go_meet
            exact HD
          · go_wp2_with (refine U.wpList_copy_zero rfl _ _ _ _ rfl 105 3 Tryd.underlying25 HSz.out _ _ _ _ _ _ rfl rfl (Nat.zero_min _) ?_)
            go_meet
            exact HD
      · have hln : 0 < l.length := by rw [← HLn.out]; omega
        obtain ⟨b3, o3, rfl, hb3, -⟩ := HIn3.out.at_.resolve_left (by intro e; rw [e] at hln; simp at hln)
        obtain ⟨hbb, rfl⟩ := HBk.out b3 o3 rfl
        have hpl : 0 < (putL k x s).length := by rw [putL_length hk2]; omega
        obtain ⟨b4, o4, rfl, hb4, -⟩ := HIn4.out.at_.resolve_left (by intro e; rw [e] at hpl; simp at hpl)
        have hne : ¬ c3 = A := by have := HCap3.out; omega
        have hmin : Nat.min k (n - A) = k := Nat.min_eq_left (by omega)
        have HOu : Hid (w4.ownsRow (rb + 2) 105 3 (.slice (some ⟨b3, 0, none⟩) n c3) n (flatC .i32 l)) := Lib.hid (by have h := HO34.out; unfold OwnC at h; rw [← HLn.out] at h; exact h)
        have HNews := Lib.hid HIn4.out.news
        have HFl : Hid ((flatC .i32 (putL k x s)).length = k * 3) := Lib.hid (by rw [flatC_len, putL_length hk2])
        have HMin := Lib.hid hmin
        clear hln hpl hmin hb3 hb4
        go_wp2_with (refine U.wpList_copy_own rfl _ _ _ _ rfl 105 3 Tryd.underlying25 HSz.out (rb + 2) b3 n c3 (flatC .i32 l) HOu.out A k (n - A) _ ⟨b4, o4, none⟩ k _ (flatC .i32 (putL k x s)) rfl rfl HMin.out HFl.out HNews.out hA (flatC_one .i32 _) ?_)
        intro w5 h5 hg5
        have HD : Hid (OwnC .i32 105 (rb + 2) (.slice (some ⟨b3, 0, none⟩) n c3) m w5 ∧ Below (rb + 2) w4 w5) := Lib.hid ⟨by unfold OwnC; rw [HML.out, ← HM.out, putC_flat, List.append_assoc]; exact h5, below_grown (Below.refl _ _) hg5 hbb HSt4.out.size⟩
        clear h5 hg5
        go_wp2_with fail
        go_meet
        exact HD
    case rest =>
    obtain ⟨hO5, hb5⟩ := hcut.out
    have HSt5 := Lib.hid (HSt4.out.more hb5)
    have hMm := mended_any (rb + 2) (.slice a3 n c3) m wc hO5 HSt5.out.size (by rw [HML.out]; exact hn)
    rw [← HS.out] at hMm
    have HMm := Lib.hid hMm
    clear hO5 hb5 hMm
    go_wp2_with fail
    refine HMm.out.mono ?_
    rintro e w6 ⟨v6, rfl, hO6, hb6⟩
    have HSt6 := Lib.hid (HSt5.out.more hb6)
    obtain ⟨a6, c6, he6, -⟩ := hO6.shape
    obtain ⟨n6, hn6⟩ : ∃ n6, (putC k l (A : Int) x s).length = n6 := ⟨_, rfl⟩
    rw [hn6] at he6
    subst he6
    have HO6 := Lib.hid hO6
    have x0 := HSt6.out.q.c0
    have x1 := HSt6.out.q.c1
    have f0 := HSt6.out.q.fr 0
    have f1 := HSt6.out.q.fr 1
    clear hO6 hb6 hn6 HMm
    go_wp2_with fail
    refine bodyPost_ret (v := .agg #[.slice a6 n6 c6, .bool false]) (by rw [results_cell (fn := Tryd.f47) rfl]; go_simp <;> rfl) rfl ?_
    rw [← HP.out]
    exact ⟨_, rfl, (HO6.out.set2 (Nat.lt_succ_self (rb + 1)) _ _).weaken (by omega), below_set2 HSt6.out.below (by omega)⟩
end Go.Proofs.YtkggmcnocpgnbaaDoor.K

/- The contract of the program's Erase. -/
namespace Go.Proofs.YtkggmcnocpgnbaaDoor.K
open Go.RowKit

theorem eraseJ_skip (l : List Cel) (a b s : Int) (j : Nat) : ∀ (d : Nat), j + d ≤ l.length → (∀ i, j ≤ i → i < j + d → ¬ (a ≤ (i : Int) ∧ (i : Int) < b)) → eraseJ l a b s (j + d) = eraseJ l a b s j
  | 0, _, _ => rfl
  | d + 1, h, hn => by
    rw [← Nat.add_assoc, eraseJ_out l a b s (j + d) (by omega) (hn _ (by omega) (by omega))]
    exact eraseJ_skip l a b s j d (by omega) (fun i h1 h2 => hn i h1 (by omega))
theorem eraseJ_from (l : List Cel) (a b s : Int) (A : Nat) (hA : nearS a l.length = (A : Int)) : eraseJ l a b s A = l := by
  have h := eraseJ_skip l a b s 0 A (by unfold nearS at hA; omega) (fun i _ hi h => by unfold nearS at hA; omega)
  rw [Nat.zero_add, eraseJ_zero] at h
  exact h
theorem eraseJ_to (l : List Cel) (a b s : Int) (A B j : Nat) (hA : nearS a l.length = (A : Int)) (hB : nearS b l.length = (B : Int)) (h1 : A ≤ j) (h2 : B ≤ j) (h3 : j ≤ l.length) : mend (eraseJ l a b s j) = eraseS l a b s := by
  have h := eraseJ_skip l a b s j (l.length - j) (by omega) (fun i h4 h5 h => by unfold nearS at hA hB; omega)
  rw [show j + (l.length - j) = l.length by omega] at h
  rw [← h, eraseJ_all]
theorem near_in {a b : Int} {n A B j : Nat} (hA : nearS a n = (A : Int)) (hB : nearS b n = (B : Int)) (h1 : A ≤ j) (h2 : j < B) : a ≤ (j : Int) ∧ (j : Int) < b := by
  unfold nearS at hA hB; omega

set_option maxRecDepth 100000 in
set_option maxHeartbeats 8000000 in
theorem rowErase_any (a : Option Addr) (n c : Nat) (wr0 : Bool) (l : List Cel) (fr ut s : Int) (w : World) (hI : CelsIn .i32 a n l w) (hnil : a = none → c = 0) (hn : (n : Int) ≤ 1000000) :
    Calls Tryd.prog 95 #[.agg #[.slice a n c, .bool wr0], .int .i64 fr, .int .i64 ut, .int .i64 s] w (RowPost .i32 105 w.heap.size (eraseS l fr ut s) false w) := by
  obtain ⟨rb, hrb⟩ : ∃ rb, w.heap.size = rb := ⟨_, rfl⟩
  rw [hrb]
  obtain ⟨P, hP⟩ : ∃ P, RowPost .i32 105 rb (eraseS l fr ut s) false w = P := ⟨_, rfl⟩
  rw [hP]
  have HP := Lib.hid hP
  have hln := hI.len
  obtain ⟨A, hA, hAn⟩ := nearS_nat fr n
  obtain ⟨B, hB, hBn⟩ := nearS_nat ut n
  have HNa := Lib.hid (fun (v : World) => nearest_any fr n v)
  have HNb := Lib.hid (fun (v : World) => nearest_any ut n v)
  rw [hA] at HNa
  rw [hB] at HNb
  have hst := St0.start 27 27 w (.slice a n c) wr0
  obtain ⟨w2, hw2⟩ : ∃ w2, (w.alloc (.cells #[.slice a n c, .bool wr0] 27)).alloc (.cells #[.slice none 0 0, .bool false] 27) = w2 := ⟨_, rfl⟩
  rw [hw2, hrb] at hst
  have c0 := hst.r.c0
  have hsz2 : rb + 2 ≤ w2.heap.size := hst.size
  have hrb2 : rb < w2.heap.size := by omega
  have HSt := Lib.hid hst
  have hI2 : CelsIn .i32 a n l w2 := hI.belowAll (by rw [hrb]; exact hst.below)
  have HCl := Lib.hid (clone_any a n c l w2 hI2 hnil hn)
  have HW2 := Lib.hid hw2
  have HRb := Lib.hid hrb
  have HLn := Lib.hid hln
  have HA := Lib.hid hA
  have HB := Lib.hid hB
  clear hP hst hI hI2 hnil hw2 hrb hln hA hB
  go_enter Tryd.func95, Tryd.ntmps95
  go_upto_region 1 with fail
  rw [HW2.out, HRb.out]
  go_upto_region 2 with (go_at_call 82; refine HCl.out.mono ?_; rintro e w3 ⟨v3, rfl, hO3, hb3⟩)
  obtain ⟨a3, c3, rfl, hin3, hblk3, -, -, hmx3⟩ := hO3.shape
  have HSt3 := Lib.hid (HSt.out.more (hb3.mono hsz2))
  rw [← HLn.out] at hin3 ⊢
  have HO3 : Hid (OwnC .i32 105 (rb + 2) (.slice a3 n c3) (eraseJ l fr ut s A) w3) := Lib.hid (by
    have h := hO3.weaken hsz2
    rw [← HLn.out] at h
    rw [eraseJ_from l fr ut s A (by rw [← HLn.out]; exact HA.out)]
    exact h)
  have HBk : Hid (∀ b off, a3 = some ⟨b, off, none⟩ → rb + 2 ≤ b ∧ off = 0) := Lib.hid (fun b off e => by have := hblk3 b off e; exact ⟨Nat.le_trans hsz2 this.1, this.2.2⟩)
  have HIn3 := Lib.hid hin3
  clear hO3 hb3 hin3 hblk3 HCl c0
  go_wp2_with (go_at_call 49; refine (HNa.out _).mono ?_; rintro e w' ⟨rfl, rfl⟩)
  go_loopw [10] (fun i wr => ∃ j : Nat, i = .int .i64 (j : Int) ∧ j ≤ n ∧ A ≤ j ∧ Hid (St0 27 27 rb (.slice a n c) wr0 w wr ∧ OwnC .i32 105 (rb + 2) (.slice a3 n c3) (eraseJ l fr ut s j) wr)) (fun i _ => n - (intOf i).toNat)
  case atStart => exact ⟨A, rfl, hAn, Nat.le_refl _, Lib.hid ⟨HSt3.out, HO3.out⟩⟩
  case round =>
    obtain ⟨j, rfl, hj, hAj, HF⟩ := hrel
    by_cases hlt : j < B
    · have hd : decide (j < B) = true := by simp; omega
      have hjn : j < n := by omega
      have hjl : j < l.length := by rw [← HLn.out]; omega
      obtain ⟨b3, o3, rfl, hb3, -⟩ := HIn3.out.at_.resolve_left (by intro e; rw [e] at hjl; simp at hjl)
      obtain ⟨hbb, rfl⟩ := HBk.out b3 o3 rfl
      have HE := Lib.hid (eraseJ_in l fr ut s j hjl (near_in HA.out HB.out hAj hlt))
      have HJl : Hid ((eraseJ l fr ut s j).length = n) := Lib.hid (by rw [eraseJ_length, ← HLn.out])
      have HO := Lib.hid HF.out.2
      clear hb3
      go_wp2_with (first | (go_at_call 49; refine (HNb.out _).mono ?_; rintro e w' ⟨rfl, rfl⟩) | (go_at_call 86; refine (blank_any s _).mono ?_; rintro e w4 ⟨rfl, hb4⟩) | (refine wpList_store_cel rowT rfl rfl _ _ rfl (rb + 2) b3 n c3 (eraseJ l fr ut s j) j (blk s) rfl rfl (HO.out.belowAll hb4) hjn HJl.out ?_))
      intro w5 h5 hg5
      have HF5 : Hid (St0 27 27 rb (.slice a n c) wr0 w w5 ∧ OwnC .i32 105 (rb + 2) (.slice (some ⟨b3, 0, none⟩) n c3) (eraseJ l fr ut s (j + 1)) w5) := Lib.hid (by
        have h4 := HF.out.1.more (hb4.mono HF.out.1.size)
        exact ⟨h4.more ((Below.refl _ _).grown hg5 h4.size (fun q hq => by cases hq; exact hbb)), by rw [HE.out]; exact h5⟩)
      clear h5 hg5 hb4
      go_wp2
      go_roundw
      case rel => exact ⟨j + 1, by go_num, by omega, by omega, HF5⟩
      case measure => simp [intOf]; omega
    · have hd : decide (j < B) = false := by simp; omega
      obtain ⟨a4, c4, he4, -⟩ := HF.out.2.shape
      have hm := mended_any (rb + 2) (.slice a3 n c3) (eraseJ l fr ut s j) wr HF.out.2 HF.out.1.size (by rw [eraseJ_length, ← HLn.out]; exact hn)
      have hme : mend (eraseJ l fr ut s j) = eraseS l fr ut s := eraseJ_to l fr ut s A B j (by rw [← HLn.out]; exact HA.out) (by rw [← HLn.out]; exact HB.out) hAj (by omega) (by rw [← HLn.out]; exact hj)
      rw [hme] at hm
      have HM := Lib.hid hm
      clear hm hme he4
      go_wp2_with (first | (go_at_call 49; refine (HNb.out _).mono ?_; rintro e w' ⟨rfl, rfl⟩))
      refine HM.out.mono ?_
      rintro e w5 ⟨v5, rfl, hO5, hb5⟩
      have HSt5 := Lib.hid (HF.out.1.more hb5)
      obtain ⟨a5, c5, he5, -⟩ := hO5.shape
      obtain ⟨n5, hn5⟩ : ∃ n5, (eraseS l fr ut s).length = n5 := ⟨_, rfl⟩
      rw [hn5] at he5
      subst he5
      have HO5 := Lib.hid hO5
      have x0 := HSt5.out.q.c0
      have x1 := HSt5.out.q.c1
      have f0 := HSt5.out.q.fr 0
      have f1 := HSt5.out.q.fr 1
      clear hO5 hb5 hn5 HM
      go_wp2_with fail
      refine bodyPost_ret (v := .agg #[.slice a5 n5 c5, .bool false]) (by rw [results_cell (fn := Tryd.f95) rfl]; go_simp <;> rfl) rfl ?_
      rw [← HP.out]
      exact ⟨_, rfl, (HO5.out.set2 (Nat.lt_succ_self (rb + 1)) _ _).weaken (by omega), below_set2 HSt5.out.below (by omega)⟩
end Go.Proofs.YtkggmcnocpgnbaaDoor.K

/- The contracts of slices.Grow of none, and of slices.Concat, at cells. -/
namespace Go.Proofs.YtkggmcnocpgnbaaDoor.K
open Go.RowKit

set_option maxRecDepth 100000 in
set_option maxHeartbeats 4000000 in
theorem grow_any (n : Nat) (hn : (n : Int) ≤ 3000000) (w : World) : Calls Tryd.prog 120 #[.slice none 0 0, .int .i64 (n : Int)] w (CelPost 105 w.heap.size [] w) := by
  obtain ⟨P, hP⟩ : ∃ P, CelPost 105 w.heap.size [] w = P := ⟨_, rfl⟩
  rw [hP]
  have HP := Lib.hid hP
  clear hP
  have hneg : decide ((n : Int) < 0) = false := decide_eq_false (by omega)
  by_cases h0 : n = 0
  · subst h0
    go_enter Tryd.func120, Tryd.ntmps120
    go_wp2_with fail
    rw [← HP.out]
    exact ⟨_, rfl, OwnC.nil _ _ _ _, Below.refl _ _⟩
  · obtain ⟨i0, hin, hz0, hz1, hz2⟩ := info_parts rowT.info
    have happ := Lib.run_append_nil_zeros (P := Tryd.prog) w 25 3 25 105 i0 _ .i64 .i64 Tryd.underlying25 Tryd.underlying3 hin hz0 n (by omega) (by rw [hz1]; decide) (by omega) (by rw [hz2]; omega)
    have hg1 : n ≤ grownCap w n 0 105 := grownCap_ge w _ 0 _
    have hg2 : grownCap w n 0 105 ≤ maxLen := grownCap_le_maxLen w _ 0 _ (by unfold maxLen; omega)
    obtain ⟨cap, hcap⟩ : ∃ cap, grownCap w n 0 105 = cap := ⟨_, rfl⟩
    rw [hcap] at happ hg1 hg2
    obtain ⟨Z, hZ⟩ : ∃ Z, (Builtin.zeroCells (Value.agg #[.int .i32 0, .int .i64 0, .int .i64 0]).cells n ++ Builtin.zeroCells (Value.agg #[.int .i32 0, .int .i64 0, .int .i64 0]).cells (cap - n)) = Z := ⟨_, rfl⟩
    have hZs : Z.size = cap * 3 := by
      rw [← hZ, Array.size_append, size_zeroCells, size_zeroCells, show (Value.agg #[.int .i32 0, .int .i64 0, .int .i64 0]).cells.size = 3 from rfl, ← Nat.add_mul]
      congr 1
      omega
    rw [hZ] at happ
    have hpos : decide (0 < n) = true := decide_eq_true (by omega)
    have hOw : OwnC .i32 105 w.heap.size (.slice (some ⟨w.heap.size, 0, none⟩) 0 cap) [] (w.drew.alloc (.cells Z 105)) :=
      ⟨rfl, .inr ⟨w.heap.size, cap, Z, rfl, Nat.le_refl _, World.alloc_heap_new w.drew _, Nat.zero_le _, hg2, hZs, rfl⟩⟩
    have hBl : Below w.heap.size w (w.drew.alloc (.cells Z 105)) := (Below.refl _ _).drew.alloc (Nat.le_refl _) _
    have HOw := Lib.hid hOw
    have HBl := Lib.hid hBl
    have hcn : (n : Int) ≤ cap := by omega
    have HApp := Lib.hid happ
    clear hOw hBl hZs hZ hcap hg2 hin hz0 hz1 hz2 h0 happ
    go_enter Tryd.func120, Tryd.ntmps120
    go_wp2_with (at_builtin; refine Lib.wpList_append_run _ rfl _ _ _ _ rfl _ _ rfl rfl _ _ HApp.out ?_)
    go_wp2_with fail
    rw [← HP.out]
    exact ⟨_, rfl, HOw.out, HBl.out⟩
/-- one of the slices that are put together -/
structure Seg where
  a : Option Addr
  n : Nat
  c : Nat
  l : List Cel
def totL (ss : List Seg) : Nat := (ss.map (·.n)).sum
def catL (ss : List Seg) : List Cel := ss.flatMap (·.l)
theorem totL_succ {ss : List Seg} {j : Nat} (h : j < ss.length) : totL (ss.take (j + 1)) = totL (ss.take j) + ss[j].n := by
  unfold totL
  rw [List.take_succ_eq_append_getElem h, List.map_append, List.sum_append]
  simp
theorem catL_succ {ss : List Seg} {j : Nat} (h : j < ss.length) : catL (ss.take (j + 1)) = catL (ss.take j) ++ ss[j].l := by
  unfold catL
  rw [List.take_succ_eq_append_getElem h, List.flatMap_append]
  simp
theorem totL_le {ss : List Seg} (j : Nat) : totL (ss.take j) ≤ totL ss := by
  have h := List.take_append_drop j ss
  unfold totL
  conv => rhs; rw [← h]
  rw [List.map_append, List.sum_append]
  omega
theorem catL_length : ∀ {ss : List Seg}, (∀ s ∈ ss, s.n = s.l.length) → (catL ss).length = totL ss
  | [], _ => rfl
  | s :: ss, h => by
    have ih := catL_length (ss := ss) (fun x hx => h x (by simp [hx]))
    unfold catL totL at ih ⊢
    rw [List.flatMap_cons, List.length_append, ih, List.map_cons, List.sum_cons, h s (by simp)]

set_option maxRecDepth 100000 in
set_option maxHeartbeats 8000000 in
theorem concat_any (b k k2 : Nat) (ss : List Seg) (w : World) (hlen : ss.length = k) (hb : b < w.heap.size) (hcell : ∀ i (h : i < ss.length), w.cell? ⟨b, i, none⟩ = some (.slice ss[i].a ss[i].n ss[i].c))
    (hin : ∀ i (h : i < ss.length), CelsIn .i32 ss[i].a ss[i].n ss[i].l w ∧ (ss[i].a = none → ss[i].c = 0)) (htot : (totL ss : Int) ≤ 1000000) (hk : (k : Int) ≤ 1000) (hk2 : k ≤ k2) :
    Calls Tryd.prog 107 #[.slice (some ⟨b, 0, none⟩) k k2] w (CelPost 105 w.heap.size (catL ss) w) := by
  obtain ⟨P, hP⟩ : ∃ P, CelPost 105 w.heap.size (catL ss) w = P := ⟨_, rfl⟩
  rw [hP]
  have HP := Lib.hid hP
  obtain ⟨rb, hrb⟩ : ∃ rb, w.heap.size = rb := ⟨_, rfl⟩
  have HRb := Lib.hid hrb
  have HLen := Lib.hid hlen
  have HB := Lib.hid hb
  have HCell := Lib.hid hcell
  have HIn := Lib.hid hin
  have HTot := Lib.hid htot
  obtain ⟨S, hS⟩ : ∃ S, totL ss = S := ⟨_, rfl⟩
  have hS1 : (S : Int) ≤ 1000000 := by rw [← hS]; exact htot
  have HS := Lib.hid hS
  have HG := Lib.hid (grow_any S (by omega) w)
  clear hP hlen hb hcell hin htot hrb hS
  go_enter Tryd.func107, Tryd.ntmps107
  go_wp2_with fail
  go_loopw [3, 11] (fun z i wr => ∃ j t : Nat, i = .int .i64 (j : Int) ∧ z = .int .i64 (t : Int) ∧ j ≤ k ∧ (t : Int) ≤ 1000000 ∧ Hid (t = totL (ss.take j)) ∧ w = wr) (fun _ i _ => k - (intOf i).toNat)
  case atStart => exact ⟨0, 0, rfl, rfl, by omega, by omega, Lib.hid rfl, rfl⟩
  case round =>
    obtain ⟨j, t, rfl, rfl, hj, ht, HT, rfl⟩ := hrel
    by_cases hlt : j < k
    · have hd : decide (j < k) = true := by simp; omega
      have hjl : j < ss.length := by rw [HLen.out]; exact hlt
      have c0 := HCell.out j hjl
      have hsc := totL_succ hjl
      have hle := totL_le (ss := ss) (j + 1)
      rw [HS.out] at hle
      obtain ⟨sg, hsg⟩ : ∃ sg, ss[j] = sg := ⟨_, rfl⟩
      rw [hsg] at c0 hsc
      obtain ⟨sa, sn, sc, sl⟩ := sg
      simp only at c0 hsc
      have hneg : decide ((t : Int) + (sn : Int) < 0) = false := decide_eq_false (by omega)
      have hts : (t : Int) + (sn : Int) ≤ 1000000 := by have := HT.out; omega
      have HT' : Hid (t + sn = totL (ss.take (j + 1))) := Lib.hid (by rw [hsc, ← HT.out])
      have hsn : (sn : Int) ≤ 1000000 := by omega
      clear hsc hle hsg
      go_wp2_with fail
      go_roundw
      case rel => exact ⟨j + 1, t + sn, by go_num, by go_num, by omega, by omega, HT', by first | rfl | trivial⟩
      case measure => simp [intOf]; omega
    · obtain rfl : j = k := by omega
      have hd : decide ((j : Int) < (j : Int)) = false := by simp
      have hfin : ss.take j = ss := List.take_of_length_le (Nat.le_of_eq HLen.out)
      have htS : t = S := by rw [HT.out, hfin, HS.out]
      subst htS
      clear hfin
      go_wp2_with (go_at_call 120; refine HG.out.mono ?_; rintro e w1 ⟨v1, rfl, hO1, hb1⟩)
      go_loopw [6, 27] (fun v i wr => ∃ q : Nat, i = .int .i64 (q : Int) ∧ q ≤ j ∧ Hid (OwnC .i32 105 rb v (catL (ss.take q)) wr ∧ Below rb w wr)) (fun _ i _ => j - (intOf i).toNat)
      case atStart => exact ⟨0, rfl, by omega, Lib.hid ⟨by rw [← HRb.out]; exact hO1, by rw [← HRb.out]; exact hb1⟩⟩
      case round =>
        obtain ⟨q, rfl, hq, HF⟩ := hrel
        by_cases hlq : q < j
        · have hdq : decide (q < j) = true := by simp; omega
          have hql : q < ss.length := by rw [HLen.out]; exact hlq
          have c0 := (HF.out.2.cell (p := ⟨b, q, none⟩) (by show b < rb; rw [← HRb.out]; exact HB.out)).trans (HCell.out q hql)
          obtain ⟨hi, hni⟩ := HIn.out q hql
          have hcs := catL_succ hql
          have hcl : (catL (ss.take q)).length = totL (ss.take q) := catL_length (fun s hs => by
            obtain ⟨i, hi', rfl⟩ := List.mem_iff_getElem.1 hs
            have := (HIn.out i (by rw [List.length_take] at hi'; omega)).1.len
            rw [List.getElem_take]
            exact this)
          have hle := totL_le (ss := ss) q
          have hle2 := totL_le (ss := ss) (q + 1)
          rw [totL_succ hql] at hle2
          obtain ⟨sg, hsg⟩ : ∃ sg, ss[q] = sg := ⟨_, rfl⟩
          rw [hsg] at c0 hi hni hcs hle2
          obtain ⟨sa, sn, sc, sl⟩ := sg
          simp only at c0 hi hni hcs hle2
          have HL1 : Hid (((catL (ss.take q)).length : Int) ≤ 1000000) := Lib.hid (by rw [hcl]; have := HTot.out; omega)
          have HL2 : Hid ((sl.length : Int) ≤ 1000000) := Lib.hid (by rw [← hi.len]; have := HTot.out; omega)
          have HI : Hid (CelsIn .i32 sa sn sl wr) := Lib.hid (hi.belowAll (by rw [HRb.out]; exact HF.out.2))
          have HNi := Lib.hid hni
          have HCs := Lib.hid hcs
          have HSz : Hid (rb ≤ wr.heap.size) := Lib.hid (by have := HF.out.2.size; have := HRb.out; omega)
          have HO := Lib.hid HF.out.1
          clear hi hni hcs hcl hle hle2 hsg
          go_wp2_with (at_builtin; refine wpList_append_cells rowT rfl _ _ rfl rfl rb _ (catL (ss.take q)) sa sn sc sl rfl rfl HO.out HI.out HNi.out HL1.out HL2.out HSz.out ?_)
          intro v' w' hown hg
          have HF' : Hid (OwnC .i32 105 rb v' (catL (ss.take (q + 1))) w' ∧ Below rb w w') := Lib.hid ⟨by rw [HCs.out]; exact hown, HF.out.2.grown hg.grown HSz.out (fun p hp => (HF.out.1.ownBlock p hp).1)⟩
          clear hown hg
          go_wp2
          go_roundw
          case rel => exact ⟨q + 1, by go_num, by omega, HF'⟩
          case measure => simp [intOf]; omega
        · obtain rfl : q = j := by omega
          have hdq : decide ((q : Int) < (q : Int)) = false := by simp
          have hfin : ss.take q = ss := List.take_of_length_le (Nat.le_of_eq HLen.out)
          have HE := Lib.hid hfin
          clear hfin
          go_wp2_with fail
          rw [← HP.out]
          have h := HF.out
          rw [HE.out] at h
          exact ⟨_, rfl, by rw [HRb.out]; exact h.1, by rw [HRb.out]; exact h.2⟩
end Go.Proofs.YtkggmcnocpgnbaaDoor.K

/- The contract of the program's some; slices of cells, as they are put together. -/
namespace Go.Proofs.YtkggmcnocpgnbaaDoor.K
open Go.RowKit

def someS (n : Nat) (at_ k : Int) : Nat × Nat := if at_ < 0 ∨ (n : Int) ≤ at_ then (0, 0) else (at_.toNat, (nearS k (n - at_)).toNat)
theorem someS_le (n : Nat) (at_ k : Int) : (someS n at_ k).1 + (someS n at_ k).2 ≤ n := by
  unfold someS nearS
  split
  · simp
  · simp only; omega
set_option maxRecDepth 100000 in
set_option maxHeartbeats 4000000 in
theorem some_any (a : Option Addr) (n c : Nat) (wr0 : Bool) (at_ k : Int) (w : World) (hn : (n : Int) ≤ 1000000) :
    Calls Tryd.prog 118 #[.agg #[.slice a n c, .bool wr0], .int .i64 at_, .int .i64 k] w fun e w' => e = .returned (.tuple #[.int .i64 ((someS n at_ k).1 : Int), .int .i64 ((someS n at_ k).2 : Int)]) ∧ Below w.heap.size w w' := by
  obtain ⟨rb, hrb⟩ : ∃ rb, w.heap.size = rb := ⟨_, rfl⟩
  rw [hrb]
  obtain ⟨w1, hw1⟩ : ∃ w1, w.alloc (.cells #[.slice a n c, .bool wr0] 27) = w1 := ⟨_, rfl⟩
  have hb1 : Below rb w w1 := by rw [← hw1, ← hrb]; exact (Below.refl _ _).alloc (Nat.le_refl _) _
  have hr1 : RoB 27 rb (.slice a n c) wr0 w1 := by rw [← hw1, ← hrb]; exact RoB.new _ _ _ _
  have c0 := hr1.c0
  have HB1 := Lib.hid hb1
  have HW1 := Lib.hid hw1
  have HRb := Lib.hid hrb
  clear hb1 hr1 hw1 hrb
  by_cases h1 : at_ < 0
  · have hS : someS n at_ k = (0, 0) := by unfold someS; rw [if_pos (.inl h1)]
    rw [hS]
    have d1 : decide (at_ < 0) = true := decide_eq_true h1
    clear h1 hS
    go_enter Tryd.func118, Tryd.ntmps118
    go_upto_region 1 with fail
    rw [HW1.out, HRb.out]
    go_wp2_with fail
    exact bodyPost_ret (results_tmp2 rfl _ _ _) rfl ⟨rfl, HB1.out⟩
  · have d1 : decide (at_ < 0) = false := decide_eq_false h1
    by_cases h2 : (n : Int) ≤ at_
    · have hS : someS n at_ k = (0, 0) := by unfold someS; rw [if_pos (.inr h2)]
      rw [hS]
      have d2 : decide ((n : Int) ≤ at_) = true := decide_eq_true h2
      clear h1 h2 hS
      go_enter Tryd.func118, Tryd.ntmps118
      go_upto_region 1 with fail
      rw [HW1.out, HRb.out]
      go_wp2_with fail
      exact bodyPost_ret (results_tmp2 rfl _ _ _) rfl ⟨rfl, HB1.out⟩
    · obtain ⟨A, rfl⟩ : ∃ A : Nat, at_ = (A : Int) := ⟨at_.toNat, by omega⟩
      have d2 : decide (n ≤ A) = false := decide_eq_false (by omega)
      obtain ⟨M, hM⟩ : ∃ M : Nat, (n : Int) - (A : Int) = (M : Int) := ⟨n - A, by omega⟩
      obtain ⟨q, hq, hqM⟩ := nearS_nat k M
      have hS : someS n A k = (A, q) := by
        unfold someS
        rw [if_neg (by omega), hM, hq]
        rfl
      rw [hS]
      have HNe := Lib.hid (fun (v : World) => nearest_any k M v)
      rw [hq] at HNe
      clear h1 h2 hS hq
      go_enter Tryd.func118, Tryd.ntmps118
      go_upto_region 1 with fail
      rw [HW1.out, HRb.out]
      go_wp2_with (go_at_call 49; refine (HNe.out _).mono ?_; rintro e w' ⟨rfl, rfl⟩)
      exact bodyPost_ret (results_tmp2 rfl _ _ _) rfl ⟨rfl, HB1.out⟩
/-- a slice of these cells -/
def SegAt (v : Value) (l : List Cel) (w : World) : Prop := ∃ x n c, v = .slice x n c ∧ CelsIn .i32 x n l w ∧ (x = none → c = 0) ∧ n ≤ c
theorem SegAt.belowAll {v : Value} {l : List Cel} {w w' : World} (h : SegAt v l w) (hb : Below w.heap.size w w') : SegAt v l w' := by
  obtain ⟨x, n, c, rfl, h1, h2, h3⟩ := h
  exact ⟨x, n, c, rfl, h1.belowAll hb, h2, h3⟩
theorem OwnC.seg {T : TypeId} {base : Nat} {v : Value} {l : List Cel} {w : World} (h : OwnC .i32 T base v l w) : SegAt v l w := by
  obtain ⟨a, c, rfl, h1, _, h2, h3, _⟩ := h.shape
  exact ⟨a, _, c, rfl, h1, h2, h3⟩
theorem CelsIn.dropOf {rk : IntKind} {a : Option Addr} {n : Nat} {l : List Cel} {w : World} (h : CelsIn rk a n l w) {k : Nat} (hk : k ≤ n) (c : Nat) (hc : n ≤ c) : CelsIn rk (if c = k then a else a.map (fun x => x.add (k * 3))) (n - k) (l.drop k) w := by
  have hl := h.len
  rcases h.at_ with e | ⟨b, off, ha, hb, hi⟩
  · refine ⟨by rw [List.length_drop]; omega, .inl (by rw [e]; simp)⟩
  · by_cases hck : c = k
    · rw [if_pos hck]
      refine ⟨by rw [List.length_drop]; omega, .inl (List.eq_nil_of_length_eq_zero (by rw [List.length_drop]; omega))⟩
    · rw [if_neg hck, ha]
      have hadd : ((⟨b, off, none⟩ : Addr).add (k * 3)) = ⟨b, off + k * 3, none⟩ := by unfold Addr.add; split <;> simp_all
      show CelsIn rk (some ((⟨b, off, none⟩ : Addr).add (k * 3))) _ _ _
      rw [hadd]
      rw [ha] at h
      exact CelsIn.drop h hk
theorem SegAt.cut {a : Option Addr} {n c : Nat} {l : List Cel} {w : World} (h : CelsIn .i32 a n l w) (h0 : a = none → c = 0) (hc : n ≤ c) {lo hi : Nat} (h1 : lo ≤ hi) (h2 : hi ≤ n) : SegAt (.slice (if c = lo then a else a.map (fun x => x.add (lo * 3))) (hi - lo) (c - lo)) ((l.take hi).drop lo) w := by
  refine ⟨_, _, _, rfl, (h.take h2).dropOf h1 c (by omega), fun e => ?_, by omega⟩
  split at e
  · omega
  · cases a with
    | none => have := h0 rfl; omega
    | some x => cases e
theorem SegAt.front {a : Option Addr} {n c : Nat} {l : List Cel} {w : World} (h : CelsIn .i32 a n l w) (h0 : a = none → c = 0) (hc : n ≤ c) {hi : Nat} (h2 : hi ≤ n) : SegAt (.slice a hi c) (l.take hi) w := ⟨_, _, _, rfl, h.take h2, h0, by omega⟩
theorem SegAt.back {a : Option Addr} {n c : Nat} {l : List Cel} {w : World} (h : CelsIn .i32 a n l w) (h0 : a = none → c = 0) (hc : n ≤ c) {lo : Nat} (h1 : lo ≤ n) : SegAt (.slice (if c = lo then a else a.map (fun x => x.add (lo * 3))) (n - lo) (c - lo)) (l.drop lo) w := by
  have := SegAt.cut h h0 hc h1 (Nat.le_refl n)
  rw [List.take_of_length_le (Nat.le_of_eq h.len.symm)] at this
  exact this
/-- put together out of a new slice of slices -/
theorem concat3 (v1 v2 v3 : Value) (l1 l2 l3 : List Cel) (w : World) (T : TypeId) (h1 : SegAt v1 l1 w) (h2 : SegAt v2 l2 w) (h3 : SegAt v3 l3 w) (hn : ((l1.length + l2.length + l3.length : Nat) : Int) ≤ 1000000) :
    Calls Tryd.prog 107 #[.slice (some ⟨w.heap.size, 0, none⟩) 3 3] (w.alloc (.cells #[v1, v2, v3] T)) (CelPost 105 (w.heap.size + 1) (l1 ++ l2 ++ l3) (w.alloc (.cells #[v1, v2, v3] T))) := by
  have hb : Below w.heap.size w (w.alloc (.cells #[v1, v2, v3] T)) := (Below.refl _ _).alloc (Nat.le_refl _) _
  obtain ⟨x1, n1, c1, rfl, i1, z1, -⟩ := h1.belowAll hb
  obtain ⟨x2, n2, c2, rfl, i2, z2, -⟩ := h2.belowAll hb
  obtain ⟨x3, n3, c3, rfl, i3, z3, -⟩ := h3.belowAll hb
  have h := concat_any w.heap.size 3 3 [⟨x1, n1, c1, l1⟩, ⟨x2, n2, c2, l2⟩, ⟨x3, n3, c3, l3⟩] (w.alloc (.cells #[.slice x1 n1 c1, .slice x2 n2 c2, .slice x3 n3 c3] T)) rfl (by rw [World.size_alloc]; exact Nat.lt_succ_self _)
    (fun i hi => by
      rw [World.cell?_alloc_new]
      match i, hi with
      | 0, _ => rfl
      | 1, _ => rfl
      | 2, _ => rfl)
    (fun i hi => by
      match i, hi with
      | 0, _ => exact ⟨i1, z1⟩
      | 1, _ => exact ⟨i2, z2⟩
      | 2, _ => exact ⟨i3, z3⟩)
    (by unfold totL; simp; have := i1.len; have := i2.len; have := i3.len; omega) (by decide) (Nat.le_refl _)
  rw [World.size_alloc] at h
  have e : catL [⟨x1, n1, c1, l1⟩, ⟨x2, n2, c2, l2⟩, ⟨x3, n3, c3, l3⟩] = l1 ++ l2 ++ l3 := by unfold catL; simp
  rw [e] at h
  exact h
theorem concat2 (v1 v2 : Value) (l1 l2 : List Cel) (w : World) (T : TypeId) (h1 : SegAt v1 l1 w) (h2 : SegAt v2 l2 w) (hn : ((l1.length + l2.length : Nat) : Int) ≤ 1000000) :
    Calls Tryd.prog 107 #[.slice (some ⟨w.heap.size, 0, none⟩) 2 2] (w.alloc (.cells #[v1, v2] T)) (CelPost 105 (w.heap.size + 1) (l1 ++ l2) (w.alloc (.cells #[v1, v2] T))) := by
  have hb : Below w.heap.size w (w.alloc (.cells #[v1, v2] T)) := (Below.refl _ _).alloc (Nat.le_refl _) _
  obtain ⟨x1, n1, c1, rfl, i1, z1, -⟩ := h1.belowAll hb
  obtain ⟨x2, n2, c2, rfl, i2, z2, -⟩ := h2.belowAll hb
  have h := concat_any w.heap.size 2 2 [⟨x1, n1, c1, l1⟩, ⟨x2, n2, c2, l2⟩] (w.alloc (.cells #[.slice x1 n1 c1, .slice x2 n2 c2] T)) rfl (by rw [World.size_alloc]; exact Nat.lt_succ_self _)
    (fun i hi => by
      rw [World.cell?_alloc_new]
      match i, hi with
      | 0, _ => rfl
      | 1, _ => rfl)
    (fun i hi => by
      match i, hi with
      | 0, _ => exact ⟨i1, z1⟩
      | 1, _ => exact ⟨i2, z2⟩)
    (by unfold totL; simp; have := i1.len; have := i2.len; omega) (by decide) (Nat.le_refl _)
  rw [World.size_alloc] at h
  have e : catL [⟨x1, n1, c1, l1⟩, ⟨x2, n2, c2, l2⟩] = l1 ++ l2 := by unfold catL; simp
  rw [e] at h
  exact h
end Go.Proofs.YtkggmcnocpgnbaaDoor.K
