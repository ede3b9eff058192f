/- The contract of the program's Erase. -/
import Derived.Test.YtmdnnpcofbhceaaDoorVPut
namespace Go.Proofs.YtmdnnpcofbhceaaDoor.K
open Go.RowKit

theorem eraseJ_skip (l : List Cel) (a b s : Int) (j : Nat) : ∀ (d : Nat), j + d ≤ l.length → (∀ i, j ≤ i → i < j + d → ¬ (a ≤ (i : Int) ∧ (i : Int) < b)) → eraseJ l a b s (j + d) = eraseJ l a b s j
  | 0, _, _ => rfl
  | d + 1, h, hn => by
    rw [← Nat.add_assoc, eraseJ_out l a b s (j + d) (by omega) (hn _ (by omega) (by omega))]
    exact eraseJ_skip l a b s j d (by omega) (fun i h1 h2 => hn i h1 (by omega))
theorem eraseJ_from (l : List Cel) (a b s : Int) (A : Nat) (hA : nearS a l.length = (A : Int)) : eraseJ l a b s A = l := by
  have h := eraseJ_skip l a b s 0 A (by unfold nearS at hA; omega) (fun i _ hi h => by unfold nearS at hA; omega)
  rw [Nat.zero_add, eraseJ_zero] at h
  exact h
theorem eraseJ_to (l : List Cel) (a b s : Int) (A B j : Nat) (hA : nearS a l.length = (A : Int)) (hB : nearS b l.length = (B : Int)) (h1 : A ≤ j) (h2 : B ≤ j) (h3 : j ≤ l.length) : mend (eraseJ l a b s j) = eraseS l a b s := by
  have h := eraseJ_skip l a b s j (l.length - j) (by omega) (fun i h4 h5 h => by unfold nearS at hA hB; omega)
  rw [show j + (l.length - j) = l.length by omega] at h
  rw [← h, eraseJ_all]
theorem near_in {a b : Int} {n A B j : Nat} (hA : nearS a n = (A : Int)) (hB : nearS b n = (B : Int)) (h1 : A ≤ j) (h2 : j < B) : a ≤ (j : Int) ∧ (j : Int) < b := by
  unfold nearS at hA hB; omega

set_option maxRecDepth 100000 in
set_option maxHeartbeats 8000000 in
theorem rowErase_any (a : Option Addr) (n c : Nat) (wr0 : Bool) (l : List Cel) (fr ut s : Int) (w : World) (hI : CelsIn .i32 a n l w) (hnil : a = none → c = 0) (hn : (n : Int) ≤ 1000000) :
    Calls Tryd.prog 21 #[.agg #[.slice a n c, .bool wr0], .int .i64 fr, .int .i64 ut, .int .i64 s] w (RowPost .i32 82 w.heap.size (eraseS l fr ut s) false w) := by
  obtain ⟨rb, hrb⟩ : ∃ rb, w.heap.size = rb := ⟨_, rfl⟩
  rw [hrb]
  obtain ⟨P, hP⟩ : ∃ P, RowPost .i32 82 rb (eraseS l fr ut s) false w = P := ⟨_, rfl⟩
  rw [hP]
  have HP := Lib.hid hP
  have hln := hI.len
  obtain ⟨A, hA, hAn⟩ := nearS_nat fr n
  obtain ⟨B, hB, hBn⟩ := nearS_nat ut n
  have HNa := Lib.hid (fun (v : World) => nearest_any fr n v)
  have HNb := Lib.hid (fun (v : World) => nearest_any ut n v)
  rw [hA] at HNa
  rw [hB] at HNb
  have hst := St0.start 26 26 w (.slice a n c) wr0
  obtain ⟨w2, hw2⟩ : ∃ w2, (w.alloc (.cells #[.slice a n c, .bool wr0] 26)).alloc (.cells #[.slice none 0 0, .bool false] 26) = w2 := ⟨_, rfl⟩
  rw [hw2, hrb] at hst
  have c0 := hst.r.c0
  have hsz2 : rb + 2 ≤ w2.heap.size := hst.size
  have hrb2 : rb < w2.heap.size := by omega
  have HSt := Lib.hid hst
  have hI2 : CelsIn .i32 a n l w2 := hI.belowAll (by rw [hrb]; exact hst.below)
  have HCl := Lib.hid (clone_any a n c l w2 hI2 hnil hn)
  have HW2 := Lib.hid hw2
  have HRb := Lib.hid hrb
  have HLn := Lib.hid hln
  have HA := Lib.hid hA
  have HB := Lib.hid hB
  clear hP hst hI hI2 hnil hw2 hrb hln hA hB
  go_enter Tryd.func21, Tryd.ntmps21
  go_upto_region 1 with fail
  rw [HW2.out, HRb.out]
  go_upto_region 2 with (go_at_call 55; refine HCl.out.mono ?_; rintro e w3 ⟨v3, rfl, hO3, hb3⟩)
  obtain ⟨a3, c3, rfl, hin3, hblk3, -, -, hmx3⟩ := hO3.shape
  have HSt3 := Lib.hid (HSt.out.more (hb3.mono hsz2))
  rw [← HLn.out] at hin3 ⊢
  have HO3 : Hid (OwnC .i32 82 (rb + 2) (.slice a3 n c3) (eraseJ l fr ut s A) w3) := Lib.hid (by
    have h := hO3.weaken hsz2
    rw [← HLn.out] at h
    rw [eraseJ_from l fr ut s A (by rw [← HLn.out]; exact HA.out)]
    exact h)
  have HBk : Hid (∀ b off, a3 = some ⟨b, off, none⟩ → rb + 2 ≤ b ∧ off = 0) := Lib.hid (fun b off e => by have := hblk3 b off e; exact ⟨Nat.le_trans hsz2 this.1, this.2.2⟩)
  have HIn3 := Lib.hid hin3
  clear hO3 hb3 hin3 hblk3 HCl c0
  go_wp2_with (go_at_call 45; refine (HNa.out _).mono ?_; rintro e w' ⟨rfl, rfl⟩)
  go_loopw [10] (fun i wr => ∃ j : Nat, i = .int .i64 (j : Int) ∧ j ≤ n ∧ A ≤ j ∧ Hid (St0 26 26 rb (.slice a n c) wr0 w wr ∧ OwnC .i32 82 (rb + 2) (.slice a3 n c3) (eraseJ l fr ut s j) wr)) (fun i _ => n - (intOf i).toNat)
  case atStart => exact ⟨A, rfl, hAn, Nat.le_refl _, Lib.hid ⟨HSt3.out, HO3.out⟩⟩
  case round =>
    obtain ⟨j, rfl, hj, hAj, HF⟩ := hrel
    by_cases hlt : j < B
    · have hd : decide (j < B) = true := by simp; omega
      have hjn : j < n := by omega
      have hjl : j < l.length := by rw [← HLn.out]; omega
      obtain ⟨b3, o3, rfl, hb3, -⟩ := HIn3.out.at_.resolve_left (by intro e; rw [e] at hjl; simp at hjl)
      obtain ⟨hbb, rfl⟩ := HBk.out b3 o3 rfl
      have HE := Lib.hid (eraseJ_in l fr ut s j hjl (near_in HA.out HB.out hAj hlt))
      have HJl : Hid ((eraseJ l fr ut s j).length = n) := Lib.hid (by rw [eraseJ_length, ← HLn.out])
      have HO := Lib.hid HF.out.2
      clear hb3
      go_wp2_with (first | (go_at_call 45; refine (HNb.out _).mono ?_; rintro e w' ⟨rfl, rfl⟩) | (go_at_call 56; refine (blank_any s _).mono ?_; rintro e w4 ⟨rfl, hb4⟩) | (refine wpList_store_cel rowT rfl rfl _ _ rfl (rb + 2) b3 n c3 (eraseJ l fr ut s j) j (blk s) rfl rfl (HO.out.belowAll hb4) hjn HJl.out ?_))
      intro w5 h5 hg5
      have HF5 : Hid (St0 26 26 rb (.slice a n c) wr0 w w5 ∧ OwnC .i32 82 (rb + 2) (.slice (some ⟨b3, 0, none⟩) n c3) (eraseJ l fr ut s (j + 1)) w5) := Lib.hid (by
        have h4 := HF.out.1.more (hb4.mono HF.out.1.size)
        exact ⟨h4.more ((Below.refl _ _).grown hg5 h4.size (fun q hq => by cases hq; exact hbb)), by rw [HE.out]; exact h5⟩)
      clear h5 hg5 hb4
      go_wp2
      go_roundw
      case rel => exact ⟨j + 1, by go_num, by omega, by omega, HF5⟩
      case measure => simp [intOf]; omega
    · have hd : decide (j < B) = false := by simp; omega
      obtain ⟨a4, c4, he4, -⟩ := HF.out.2.shape
      have hm := mended_any (rb + 2) (.slice a3 n c3) (eraseJ l fr ut s j) wr HF.out.2 HF.out.1.size (by rw [eraseJ_length, ← HLn.out]; exact hn)
      have hme : mend (eraseJ l fr ut s j) = eraseS l fr ut s := eraseJ_to l fr ut s A B j (by rw [← HLn.out]; exact HA.out) (by rw [← HLn.out]; exact HB.out) hAj (by omega) (by rw [← HLn.out]; exact hj)
      rw [hme] at hm
      have HM := Lib.hid hm
      clear hm hme he4
      go_wp2_with (first | (go_at_call 45; refine (HNb.out _).mono ?_; rintro e w' ⟨rfl, rfl⟩))
      refine HM.out.mono ?_
      rintro e w5 ⟨v5, rfl, hO5, hb5⟩
      have HSt5 := Lib.hid (HF.out.1.more hb5)
      obtain ⟨a5, c5, he5, -⟩ := hO5.shape
      obtain ⟨n5, hn5⟩ : ∃ n5, (eraseS l fr ut s).length = n5 := ⟨_, rfl⟩
      rw [hn5] at he5
      subst he5
      have HO5 := Lib.hid hO5
      have x0 := HSt5.out.q.c0
      have x1 := HSt5.out.q.c1
      have f0 := HSt5.out.q.fr 0
      have f1 := HSt5.out.q.fr 1
      clear hO5 hb5 hn5 HM
      go_wp2_with fail
      refine bodyPost_ret (v := .agg #[.slice a5 n5 c5, .bool false]) (by rw [results_cell (fn := Tryd.f21) rfl]; go_simp <;> rfl) rfl ?_
      rw [← HP.out]
      exact ⟨_, rfl, (HO5.out.set2 (Nat.lt_succ_self (rb + 1)) _ _).weaken (by omega), below_set2 HSt5.out.below (by omega)⟩
end Go.Proofs.YtmdnnpcofbhceaaDoor.K
