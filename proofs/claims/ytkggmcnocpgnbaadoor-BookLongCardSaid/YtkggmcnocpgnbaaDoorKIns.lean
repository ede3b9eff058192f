/- The contracts of the document's Insert, Delete, Fill and Resize. -/
import Derived.Test.YtkggmcnocpgnbaaDoorMerged4
namespace Go.Proofs.YtkggmcnocpgnbaaDoor.K
open Go.RowKit

theorem bad_ways {at_ k : Int} {n : Nat} (h : at_ < 0 ∨ (n : Int) ≤ at_ ∨ k ≤ 0) : decide (at_ < 0) = true ∨ (decide (at_ < 0) = false ∧ decide ((n : Int) ≤ at_) = true) ∨ (decide (at_ < 0) = false ∧ decide ((n : Int) ≤ at_) = false ∧ decide (k ≤ 0) = true) := by
  by_cases h1 : at_ < 0
  · left; simp [h1]
  · by_cases h2 : (n : Int) ≤ at_
    · right; left; simp [h1, h2]
    · right; right
      have : k ≤ 0 := by omega
      simp [h1, h2, this]
theorem run_field_row (w : World) (v : Value) (b : Bool) : (Instr.field 38 (.agg #[v, .bool b]) 0).run Tryd.prog w = .ok v w := by kernel_rfl

set_option maxRecDepth 100000 in
set_option maxHeartbeats 8000000 in
theorem refInsert_any (a : Option Addr) (n c : Nat) (wr0 : Bool) (l : List Cel) (at_ k s : Int) (w : World) (hI : CelsIn .i64 a n l w) (hnil : a = none → c = 0) (hcap : n ≤ c) (hmax : (c : Int) ≤ 9223372036854775807) (hn : (n : Int) ≤ 1000) : Calls Tryd.prog 98 #[.agg #[.slice a n c, .bool wr0], .int .i64 at_, .int .i64 k, .int .i64 s] w (RowPost .i64 107 w.heap.size (insertS l at_ k s) false w) := by
  obtain ⟨rb, hrb⟩ : ∃ rb, w.heap.size = rb := ⟨_, rfl⟩
  rw [hrb]
  obtain ⟨P, hP⟩ : ∃ P, RowPost .i64 107 rb (insertS l at_ k s) false w = P := ⟨_, rfl⟩
  rw [hP]
  have HP := Lib.hid hP
  have hln := hI.len
  have hst := St0.start 38 38 w (.slice a n c) wr0
  obtain ⟨w2, hw2⟩ : ∃ w2, (w.alloc (.cells #[.slice a n c, .bool wr0] 38)).alloc (.cells #[.slice none 0 0, .bool false] 38) = w2 := ⟨_, rfl⟩
  rw [hw2, hrb] at hst
  have c0 := hst.r.c0
  have c1 := hst.r.c1
  have q0 := hst.q.c0
  have q1 := hst.q.c1
  have q2 := hst.q.fr 0
  have q3 := hst.q.fr 1
  have hsz2 : rb + 2 ≤ w2.heap.size := hst.size
  have hrb2 : rb < w2.heap.size := by omega
  have hrb3 : rb + 1 < w2.heap.size := by omega
  have HSt := Lib.hid hst
  have HO2 := Lib.hid (OwnC.lit .i64 107 w2 (rb + 2) hst.size)
  have hI2 : CelsIn .i64 a n l w2 := hI.belowAll (by rw [hrb]; exact hst.below)
  have HI2 := Lib.hid hI2
  have HNil := Lib.hid hnil
  have HW2 := Lib.hid hw2
  have HRb := Lib.hid hrb
  have HLn := Lib.hid hln
  have HI0 := Lib.hid hI
  clear hP hst hI hI2 hnil hw2 hrb hln
  go_enter Tryd.func98, Tryd.ntmps98
  go_upto_region 1 with fail
  rw [HW2.out, HRb.out]
  by_cases hb0 : at_ < 0 ∨ (n : Int) ≤ at_ ∨ k ≤ 0
  · have hbad := bad_ways hb0
    have hS : insertS l at_ k s = mend l := by unfold insertS; rw [if_pos (by rw [← HLn.out]; exact hb0)]
    rw [hS] at HP
    clear hb0 hS
    have HM := Lib.hid (refMend_any a n c l w2 HI2.out (by omega))
    rcases hbad with hb | ⟨hb, hb2⟩ | ⟨hb, hb2, hb3⟩
    all_goals
      go_wp2_with fail
      refine HM.out.mono ?_
      rintro e w9 ⟨v9, rfl, hO9, hb9⟩
      have HSt9 := Lib.hid (HSt.out.more (hb9.mono HSt.out.size))
      obtain ⟨a9, c9, he9, -⟩ := hO9.shape
      obtain ⟨n9, hn9⟩ : ∃ n9, (mend l).length = n9 := ⟨_, rfl⟩
      rw [hn9] at he9
      subst he9
      have HO9 : Hid (OwnC .i64 107 (rb + 2) (.slice a9 n9 c9) (mend l) w9) := Lib.hid (hO9.weaken HSt.out.size)
      have x0 := HSt9.out.q.c0
      have x1 := HSt9.out.q.c1
      have f0 := HSt9.out.q.fr 0
      have f1 := HSt9.out.q.fr 1
      clear hO9 hb9 hn9 HM
      go_wp2_with fail
      refine bodyPost_ret (v := .agg #[.slice a9 n9 c9, .bool false]) (by rw [results_cell (fn := Tryd.f98) rfl]; go_simp <;> rfl) rfl ?_
      rw [← HP.out]
      exact ⟨_, rfl, (HO9.out.set2 (Nat.lt_succ_self (rb + 1)) _ _).weaken (by omega), below_set2 HSt9.out.below (by omega)⟩
  · obtain ⟨A, rfl⟩ : ∃ A : Nat, at_ = (A : Int) := ⟨at_.toNat, by omega⟩
    have hA : A < n := by omega
    have d1 : decide ((A : Int) < 0) = false := decide_eq_false (by omega)
    have d2 : decide (n ≤ A) = false := decide_eq_false (by omega)
    have d3 : decide (k ≤ 0) = false := decide_eq_false (by omega)
    obtain ⟨K, hK⟩ : ∃ K : Nat, min k ((n : Int) - (A : Int)) = (K : Int) := ⟨(min k ((n : Int) - (A : Int))).toNat, by omega⟩
    have hK1 : A + K ≤ n := by omega
    obtain ⟨b, off, rfl, hbl, -⟩ := HI2.out.at_.resolve_left (by intro e; have := HLn.out; rw [e] at this; simp at this; omega)
    have hS : insertS l (A : Int) k s = mend (l.take A ++ blanks K s ++ (l.take (n - K)).drop A) := by
      unfold insertS
      rw [if_neg (by rw [← HLn.out]; omega)]
      simp only [Int.toNat_natCast, ← HLn.out]
      rw [show min k.toNat (n - A) = K by omega]
    obtain ⟨Q, hQ⟩ : ∃ Q, l.take A ++ blanks K s ++ (l.take (n - K)).drop A = Q := ⟨_, rfl⟩
    rw [hS, hQ] at HP
    have HQ := Lib.hid hQ
    have hnk : (n : Int) - K = ((n - K : Nat) : Int) := by omega
    have hle1 : (A : Int) ≤ c := by omega
    have hle2 : (A : Int) ≤ ((n - K : Nat) : Int) := by omega
    have hle3 : ((n - K : Nat) : Int) ≤ c := by omega
    have hac : ¬ c = A := by omega
    clear hb0 hS hQ
    have HI3 := Lib.hid (CelsIn.belowAll (w' := w2.alloc (.cells #[] 107)) (HI2.out.take (Nat.le_of_lt hA)) ((Below.refl _ _).alloc (Nat.le_refl _) _))
    go_wp2_with (at_builtin; refine wpList_append_cells refT rfl _ _ rfl rfl (rb + 2) _ [] (some ⟨b, off, none⟩) A c (l.take A) rfl rfl HO2.out HI3.out (fun e => by cases e) (by simp) (by rw [List.length_take]; omega) (by simp; omega) ?_)
    intro v3 w3 hown hgr
    have hb3 : Below (rb + 2) w2 w3 := below_grew ((Below.refl _ _).alloc HSt.out.size _) hgr (fun q hq => by have := (HO2.out.ownBlock q hq).1; omega) (by simp; omega)
    have HSt3 := Lib.hid (HSt.out.more hb3)
    have HO3 := Lib.hid hown
    clear hown hgr hb3
    have hnear : nearN (K : Int) = K := by unfold nearN; omega
    have HBl := Lib.hid (refBlank_any (K : Int) s w3)
    rw [hnear] at HBl
    have hsz3 : rb + 2 ≤ w3.heap.size := HSt3.out.size
    clear hnear
    go_wp2_with fail
    refine HBl.out.mono ?_
    rintro e w4 ⟨v4, rfl, hO4, hb4⟩
    obtain ⟨a4, c4, he4, hin4, -, hnil4, -, hmx4⟩ := hO4.shape
    rw [blanks_length] at he4 hin4
    subst he4
    have HSt4 := Lib.hid (HSt3.out.more (hb4.mono HSt3.out.size))
    have HO4 := Lib.hid (HO3.out.belowAll hb4)
    have HIn4 := Lib.hid hin4
    have HNil4 := Lib.hid hnil4
    clear hO4 hb4 hin4 hnil4 HBl
    have hfld := run_field_row w4 (.slice a4 K c4) false
    go_wp2_with (at_builtin; refine wpList_append_cells refT rfl _ _ rfl rfl (rb + 2) _ (l.take A) a4 K c4 (blanks K s) rfl rfl HO4.out HIn4.out HNil4.out (by rw [List.length_take]; omega) (by rw [blanks_length]; omega) HSt4.out.size ?_)
    intro v5 w5 hown hgr
    have HSt5 := Lib.hid (HSt4.out.more (below_grew (Below.refl _ _) hgr (fun q hq => (HO4.out.ownBlock q hq).1) HSt4.out.size))
    have HO5 := Lib.hid hown
    have HI5 : Hid (CelsIn .i64 (some ⟨b, off + A * 3, none⟩) (n - K - A) ((l.take (n - K)).drop A) w5) := Lib.hid (((HI0.out.belowAll (by rw [HRb.out]; exact HSt5.out.below)).take (Nat.sub_le n K)).drop (by omega))
    have s0 := HSt5.out.r.c0
    have s1 := HSt5.out.r.c1
    have s2 := HSt5.out.r.fr 0
    have s3 := HSt5.out.r.fr 1
    have p0 := HSt5.out.q.c0
    have p1 := HSt5.out.q.c1
    have p2 := HSt5.out.q.fr 0
    have p3 := HSt5.out.q.fr 1
    clear hown hgr hfld
    go_wp2_with (at_builtin; go_loud (refine wpList_append_cells refT rfl _ _ rfl rfl (rb + 2) _ (l.take A ++ blanks K s) (some ⟨b, off + A * 3, none⟩) (n - K - A) (c - A) ((l.take (n - K)).drop A) rfl rfl HO5.out HI5.out (fun e => by cases e) (by rw [List.length_append, List.length_take, blanks_length]; omega) (by rw [List.length_drop, List.length_take]; omega) HSt5.out.size ?_))
    intro v6 w6 hown hgr
    rw [← List.append_assoc, HQ.out] at hown
    have HSt6 := Lib.hid (HSt5.out.more (below_grew (Below.refl _ _) hgr (fun q hq => (HO5.out.ownBlock q hq).1) HSt5.out.size))
    have HO6 := Lib.hid hown
    have hQl : Q.length = n := by rw [← HQ.out, List.length_append, List.length_append, List.length_take, blanks_length, List.length_drop, List.length_take, ← HLn.out]; omega
    obtain ⟨a6, c6, he6, hin6, -, hnil6, hcap6, hmx6⟩ := hown.shape
    rw [hQl] at he6 hin6 hcap6
    subst he6
    have z0 := HSt6.out.q.c0
    have z1 := HSt6.out.q.c1
    have z2 := HSt6.out.q.fr 0
    have z3 := HSt6.out.q.fr 1
    have HM := Lib.hid (refMend_any a6 n c6 Q w6 hin6 (by omega))
    clear hown hgr hin6
    go_wp2_with fail
    refine HM.out.mono ?_
    rintro e w9 ⟨v9, rfl, hO9, hb9⟩
    have HSt9 := Lib.hid (HSt6.out.more (hb9.mono HSt6.out.size))
    obtain ⟨a9, c9, he9, -⟩ := hO9.shape
    obtain ⟨n9, hn9⟩ : ∃ n9, (mend Q).length = n9 := ⟨_, rfl⟩
    rw [hn9] at he9
    subst he9
    have HO9 : Hid (OwnC .i64 107 (rb + 2) (.slice a9 n9 c9) (mend Q) w9) := Lib.hid (hO9.weaken HSt6.out.size)
    have x0 := HSt9.out.q.c0
    have x1 := HSt9.out.q.c1
    have f0 := HSt9.out.q.fr 0
    have f1 := HSt9.out.q.fr 1
    clear hO9 hb9 hn9 HM
    go_wp2_with fail
    refine bodyPost_ret (v := .agg #[.slice a9 n9 c9, .bool false]) (by rw [results_cell (fn := Tryd.f98) rfl]; go_simp <;> rfl) rfl ?_
    rw [← HP.out]
    exact ⟨_, rfl, (HO9.out.set2 (Nat.lt_succ_self (rb + 1)) _ _).weaken (by omega), below_set2 HSt9.out.below (by omega)⟩
set_option maxRecDepth 100000 in
set_option maxHeartbeats 8000000 in
theorem refDelete_any (a : Option Addr) (n c : Nat) (wr0 : Bool) (l : List Cel) (at_ k s : Int) (w : World) (hI : CelsIn .i64 a n l w) (hnil : a = none → c = 0) (hcap : n ≤ c) (hmax : (c : Int) ≤ 9223372036854775807) (hn : (n : Int) ≤ 1000) : Calls Tryd.prog 100 #[.agg #[.slice a n c, .bool wr0], .int .i64 at_, .int .i64 k, .int .i64 s] w (RowPost .i64 107 w.heap.size (deleteS l at_ k s) false w) := by
  obtain ⟨rb, hrb⟩ : ∃ rb, w.heap.size = rb := ⟨_, rfl⟩
  rw [hrb]
  obtain ⟨P, hP⟩ : ∃ P, RowPost .i64 107 rb (deleteS l at_ k s) false w = P := ⟨_, rfl⟩
  rw [hP]
  have HP := Lib.hid hP
  have hln := hI.len
  have hst := St0.start 38 38 w (.slice a n c) wr0
  obtain ⟨w2, hw2⟩ : ∃ w2, (w.alloc (.cells #[.slice a n c, .bool wr0] 38)).alloc (.cells #[.slice none 0 0, .bool false] 38) = w2 := ⟨_, rfl⟩
  rw [hw2, hrb] at hst
  have c0 := hst.r.c0
  have c1 := hst.r.c1
  have q0 := hst.q.c0
  have q1 := hst.q.c1
  have q2 := hst.q.fr 0
  have q3 := hst.q.fr 1
  have hsz2 : rb + 2 ≤ w2.heap.size := hst.size
  have hrb2 : rb < w2.heap.size := by omega
  have hrb3 : rb + 1 < w2.heap.size := by omega
  have HSt := Lib.hid hst
  have HO2 := Lib.hid (OwnC.lit .i64 107 w2 (rb + 2) hst.size)
  have hI2 : CelsIn .i64 a n l w2 := hI.belowAll (by rw [hrb]; exact hst.below)
  have HI2 := Lib.hid hI2
  have HNil := Lib.hid hnil
  have HW2 := Lib.hid hw2
  have HRb := Lib.hid hrb
  have HLn := Lib.hid hln
  have HI0 := Lib.hid hI
  clear hP hst hI hI2 hnil hw2 hrb hln
  go_enter Tryd.func100, Tryd.ntmps100
  go_upto_region 1 with fail
  rw [HW2.out, HRb.out]
  by_cases hb0 : at_ < 0 ∨ (n : Int) ≤ at_ ∨ k ≤ 0
  · have hbad := bad_ways hb0
    have hS : deleteS l at_ k s = mend l := by unfold deleteS; rw [if_pos (by rw [← HLn.out]; exact hb0)]
    rw [hS] at HP
    clear hb0 hS
    have HM := Lib.hid (refMend_any a n c l w2 HI2.out (by omega))
    rcases hbad with hb | ⟨hb, hb2⟩ | ⟨hb, hb2, hb3⟩
    all_goals
      go_wp2_with fail
      refine HM.out.mono ?_
      rintro e w9 ⟨v9, rfl, hO9, hb9⟩
      have HSt9 := Lib.hid (HSt.out.more (hb9.mono HSt.out.size))
      obtain ⟨a9, c9, he9, -⟩ := hO9.shape
      obtain ⟨n9, hn9⟩ : ∃ n9, (mend l).length = n9 := ⟨_, rfl⟩
      rw [hn9] at he9
      subst he9
      have HO9 : Hid (OwnC .i64 107 (rb + 2) (.slice a9 n9 c9) (mend l) w9) := Lib.hid (hO9.weaken HSt.out.size)
      have x0 := HSt9.out.q.c0
      have x1 := HSt9.out.q.c1
      have f0 := HSt9.out.q.fr 0
      have f1 := HSt9.out.q.fr 1
      clear hO9 hb9 hn9 HM
      go_wp2_with fail
      refine bodyPost_ret (v := .agg #[.slice a9 n9 c9, .bool false]) (by rw [results_cell (fn := Tryd.f100) rfl]; go_simp <;> rfl) rfl ?_
      rw [← HP.out]
      exact ⟨_, rfl, (HO9.out.set2 (Nat.lt_succ_self (rb + 1)) _ _).weaken (by omega), below_set2 HSt9.out.below (by omega)⟩
  · obtain ⟨A, rfl⟩ : ∃ A : Nat, at_ = (A : Int) := ⟨at_.toNat, by omega⟩
    have hA : A < n := by omega
    have d1 : decide ((A : Int) < 0) = false := decide_eq_false (by omega)
    have d2 : decide (n ≤ A) = false := decide_eq_false (by omega)
    have d3 : decide (k ≤ 0) = false := decide_eq_false (by omega)
    obtain ⟨K, hK⟩ : ∃ K : Nat, min k ((n : Int) - (A : Int)) = (K : Int) := ⟨(min k ((n : Int) - (A : Int))).toNat, by omega⟩
    have hK1 : A + K ≤ n := by omega
    obtain ⟨b, off, rfl, hbl, -⟩ := HI2.out.at_.resolve_left (by intro e; have := HLn.out; rw [e] at this; simp at this; omega)
    have hS : deleteS l (A : Int) k s = mend (l.take A ++ l.drop (A + K) ++ blanks K s) := by
      unfold deleteS
      rw [if_neg (by rw [← HLn.out]; omega)]
      simp only [Int.toNat_natCast, ← HLn.out]
      rw [show min k.toNat (n - A) = K by omega]
    obtain ⟨Q, hQ⟩ : ∃ Q, l.take A ++ l.drop (A + K) ++ blanks K s = Q := ⟨_, rfl⟩
    rw [hS, hQ] at HP
    have HQ := Lib.hid hQ
    have hle1 : (A : Int) ≤ c := by omega
    have hle3 : (A : Int) + K ≤ n := by omega
    have hle4 : (n : Int) ≤ c := by omega
    have hac : ¬ c = A := by omega
    clear hb0 hS hQ
    have HI3 := Lib.hid (CelsIn.belowAll (w' := w2.alloc (.cells #[] 107)) (HI2.out.take (Nat.le_of_lt hA)) ((Below.refl _ _).alloc (Nat.le_refl _) _))
    go_wp2_with (at_builtin; refine wpList_append_cells refT rfl _ _ rfl rfl (rb + 2) _ [] (some ⟨b, off, none⟩) A c (l.take A) rfl rfl HO2.out HI3.out (fun e => by cases e) (by simp) (by rw [List.length_take]; omega) (by simp; omega) ?_)
    intro v3 w3 hown hgr
    have hb3 : Below (rb + 2) w2 w3 := below_grew ((Below.refl _ _).alloc HSt.out.size _) hgr (fun q hq => by have := (HO2.out.ownBlock q hq).1; omega) (by simp; omega)
    have HSt3 := Lib.hid (HSt.out.more hb3)
    have HO3 := Lib.hid hown
    have s0 := HSt3.out.r.c0
    have s1 := HSt3.out.r.c1
    have s2 := HSt3.out.r.fr 0
    have s3 := HSt3.out.r.fr 1
    have p0 := HSt3.out.q.c0
    have p1 := HSt3.out.q.c1
    have p2 := HSt3.out.q.fr 0
    have p3 := HSt3.out.q.fr 1
    have hsz3 : rb + 2 ≤ w3.heap.size := HSt3.out.size
    have HI4 := Lib.hid ((HI0.out.belowAll (by rw [HRb.out]; exact HSt3.out.below)).drop hK1)
    clear hown hgr hb3
    by_cases hem : c = A + K
    · subst hem
      have HI4 : Hid (CelsIn .i64 (some ⟨b, off, none⟩) (n - (A + K)) (l.drop (A + K)) w3) := Lib.hid (by rw [show n - (A + K) = 0 by omega, List.drop_eq_nil_of_le (by rw [← HLn.out]; omega)]; exact CelsIn.empty _ _ _)
      go_wp2_with (at_builtin; go_loud (refine wpList_append_cells refT rfl _ _ rfl rfl (rb + 2) _ (l.take A) (some ⟨b, off, none⟩) (n - (A + K)) (A + K - (A + K)) (l.drop (A + K)) rfl rfl HO3.out HI4.out (fun e => by cases e) (by rw [List.length_take]; omega) (by simp [← HLn.out]; try omega) HSt3.out.size ?_))
      intro v4 w4 hown hgr
      have HSt4 := Lib.hid (HSt3.out.more (below_grew (Below.refl _ _) hgr (fun q hq => (HO3.out.ownBlock q hq).1) HSt3.out.size))
      have HO4 : Hid (OwnC .i64 107 (rb + 2) v4 (l.take A ++ l.drop (A + K)) w4) := Lib.hid (by simpa using hown)
      clear hown hgr
      have hnear : nearN (K : Int) = K := by unfold nearN; omega
      have HBl := Lib.hid (refBlank_any (K : Int) s w4)
      rw [hnear] at HBl
      have hsz4 : rb + 2 ≤ w4.heap.size := HSt4.out.size
      clear hnear
      go_wp2_with fail
      refine HBl.out.mono ?_
      rintro e w5 ⟨v5, rfl, hO5, hb5⟩
      obtain ⟨a5, c5, he5, hin5, -, hnil5, -, hmx5⟩ := hO5.shape
      rw [blanks_length] at he5 hin5
      subst he5
      have HSt5 := Lib.hid (HSt4.out.more (hb5.mono HSt4.out.size))
      have HO5 := Lib.hid (HO4.out.belowAll hb5)
      have HIn5 := Lib.hid hin5
      have HNil5 := Lib.hid hnil5
      have hfld := run_field_row w5 (.slice a5 K c5) false
      clear hO5 hb5 hin5 hnil5 HBl
      go_wp2_with (at_builtin; go_loud (refine wpList_append_cells refT rfl _ _ rfl rfl (rb + 2) _ (l.take A ++ l.drop (A + K)) a5 K c5 (blanks K s) rfl rfl HO5.out HIn5.out HNil5.out (by simp [← HLn.out]; try omega) (by rw [blanks_length]; omega) HSt5.out.size ?_))
      intro v6 w6 hown hgr
      have HSt6 := Lib.hid (HSt5.out.more (below_grew (Below.refl _ _) hgr (fun q hq => (HO5.out.ownBlock q hq).1) HSt5.out.size))
      have hown : OwnC .i64 107 (rb + 2) v6 Q w6 := by rw [← HQ.out]; simpa using hown
      have HO6 := Lib.hid hown
      have hQl : Q.length = n := by rw [← HQ.out, List.length_append, List.length_append, List.length_take, blanks_length, List.length_drop, ← HLn.out]; omega
      obtain ⟨a6, c6, he6, hin6, -, hnil6, hcap6, hmx6⟩ := hown.shape
      rw [hQl] at he6 hin6 hcap6
      subst he6
      have z0 := HSt6.out.q.c0
      have z1 := HSt6.out.q.c1
      have z2 := HSt6.out.q.fr 0
      have z3 := HSt6.out.q.fr 1
      have HM := Lib.hid (refMend_any a6 n c6 Q w6 hin6 (by omega))
      clear hown hgr hin6 hfld
      go_wp2_with fail
      refine HM.out.mono ?_
      rintro e w9 ⟨v9, rfl, hO9, hb9⟩
      have HSt9 := Lib.hid (HSt6.out.more (hb9.mono HSt6.out.size))
      obtain ⟨a9, c9, he9, -⟩ := hO9.shape
      obtain ⟨n9, hn9⟩ : ∃ n9, (mend Q).length = n9 := ⟨_, rfl⟩
      rw [hn9] at he9
      subst he9
      have HO9 : Hid (OwnC .i64 107 (rb + 2) (.slice a9 n9 c9) (mend Q) w9) := Lib.hid (hO9.weaken HSt6.out.size)
      have x0 := HSt9.out.q.c0
      have x1 := HSt9.out.q.c1
      have f0 := HSt9.out.q.fr 0
      have f1 := HSt9.out.q.fr 1
      clear hO9 hb9 hn9 HM
      go_wp2_with fail
      refine bodyPost_ret (v := .agg #[.slice a9 n9 c9, .bool false]) (by rw [results_cell (fn := Tryd.f100) rfl]; go_simp <;> rfl) rfl ?_
      rw [← HP.out]
      exact ⟨_, rfl, (HO9.out.set2 (Nat.lt_succ_self (rb + 1)) _ _).weaken (by omega), below_set2 HSt9.out.below (by omega)⟩
    · go_wp2_with (at_builtin; go_loud (refine wpList_append_cells refT rfl _ _ rfl rfl (rb + 2) _ (l.take A) (some ⟨b, off + (A + K) * 3, none⟩) (n - (A + K)) (c - (A + K)) (l.drop (A + K)) rfl rfl HO3.out HI4.out (fun e => by cases e) (by rw [List.length_take]; omega) (by simp [← HLn.out]; try omega) HSt3.out.size ?_))
      intro v4 w4 hown hgr
      have HSt4 := Lib.hid (HSt3.out.more (below_grew (Below.refl _ _) hgr (fun q hq => (HO3.out.ownBlock q hq).1) HSt3.out.size))
      have HO4 : Hid (OwnC .i64 107 (rb + 2) v4 (l.take A ++ l.drop (A + K)) w4) := Lib.hid (by simpa using hown)
      clear hown hgr
      have hnear : nearN (K : Int) = K := by unfold nearN; omega
      have HBl := Lib.hid (refBlank_any (K : Int) s w4)
      rw [hnear] at HBl
      have hsz4 : rb + 2 ≤ w4.heap.size := HSt4.out.size
      clear hnear
      go_wp2_with fail
      refine HBl.out.mono ?_
      rintro e w5 ⟨v5, rfl, hO5, hb5⟩
      obtain ⟨a5, c5, he5, hin5, -, hnil5, -, hmx5⟩ := hO5.shape
      rw [blanks_length] at he5 hin5
      subst he5
      have HSt5 := Lib.hid (HSt4.out.more (hb5.mono HSt4.out.size))
      have HO5 := Lib.hid (HO4.out.belowAll hb5)
      have HIn5 := Lib.hid hin5
      have HNil5 := Lib.hid hnil5
      have hfld := run_field_row w5 (.slice a5 K c5) false
      clear hO5 hb5 hin5 hnil5 HBl
      go_wp2_with (at_builtin; go_loud (refine wpList_append_cells refT rfl _ _ rfl rfl (rb + 2) _ (l.take A ++ l.drop (A + K)) a5 K c5 (blanks K s) rfl rfl HO5.out HIn5.out HNil5.out (by simp [← HLn.out]; try omega) (by rw [blanks_length]; omega) HSt5.out.size ?_))
      intro v6 w6 hown hgr
      have HSt6 := Lib.hid (HSt5.out.more (below_grew (Below.refl _ _) hgr (fun q hq => (HO5.out.ownBlock q hq).1) HSt5.out.size))
      have hown : OwnC .i64 107 (rb + 2) v6 Q w6 := by rw [← HQ.out]; simpa using hown
      have HO6 := Lib.hid hown
      have hQl : Q.length = n := by rw [← HQ.out, List.length_append, List.length_append, List.length_take, blanks_length, List.length_drop, ← HLn.out]; omega
      obtain ⟨a6, c6, he6, hin6, -, hnil6, hcap6, hmx6⟩ := hown.shape
      rw [hQl] at he6 hin6 hcap6
      subst he6
      have z0 := HSt6.out.q.c0
      have z1 := HSt6.out.q.c1
      have z2 := HSt6.out.q.fr 0
      have z3 := HSt6.out.q.fr 1
      have HM := Lib.hid (refMend_any a6 n c6 Q w6 hin6 (by omega))
      clear hown hgr hin6 hfld
      go_wp2_with fail
      refine HM.out.mono ?_
      rintro e w9 ⟨v9, rfl, hO9, hb9⟩
      have HSt9 := Lib.hid (HSt6.out.more (hb9.mono HSt6.out.size))
      obtain ⟨a9, c9, he9, -⟩ := hO9.shape
      obtain ⟨n9, hn9⟩ : ∃ n9, (mend Q).length = n9 := ⟨_, rfl⟩
      rw [hn9] at he9
      subst he9
      have HO9 : Hid (OwnC .i64 107 (rb + 2) (.slice a9 n9 c9) (mend Q) w9) := Lib.hid (hO9.weaken HSt6.out.size)
      have x0 := HSt9.out.q.c0
      have x1 := HSt9.out.q.c1
      have f0 := HSt9.out.q.fr 0
      have f1 := HSt9.out.q.fr 1
      clear hO9 hb9 hn9 HM
      go_wp2_with fail
      refine bodyPost_ret (v := .agg #[.slice a9 n9 c9, .bool false]) (by rw [results_cell (fn := Tryd.f100) rfl]; go_simp <;> rfl) rfl ?_
      rw [← HP.out]
      exact ⟨_, rfl, (HO9.out.set2 (Nat.lt_succ_self (rb + 1)) _ _).weaken (by omega), below_set2 HSt9.out.below (by omega)⟩

end Go.Proofs.YtkggmcnocpgnbaaDoor.K
