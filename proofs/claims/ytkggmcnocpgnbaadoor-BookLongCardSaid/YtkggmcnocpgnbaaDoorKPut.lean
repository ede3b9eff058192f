/- The contract of the document's Put. -/
import Derived.Test.YtkggmcnocpgnbaaDoorMerged4
import Derived.Test.YtkggmcnocpgnbaaDoorMerged8
namespace Go.Proofs.YtkggmcnocpgnbaaDoor.K
open Go.RowKit

theorem wpList_store_cl {rk : IntKind} {t T : TypeId} {bytes : Nat} (hI : CelT rk t T bytes) {ops : Array Oper} {rest : List Oper} {o : Oper} {z : Act} {w : World} {Q : Exit → Act → World → Prop} (hgd : o.guard = none) (hd : o.dst = none) (pa pv : Operand) (ho : o.op = .store T pa pv)
    (base g n cap : Nat) (l : List Cel) (i : Nat) (c : Cel) (hpa : z.eval pa = .pointer (some ⟨g, i * 3, none⟩)) (hpv : z.eval pv = .agg (cArr rk c)) (hown : OwnC rk T base (.slice (some ⟨g, 0, none⟩) n cap) l w) (hi : i < n) (hl : l.length = n)
    (hK : ∀ w', OwnC rk T base (.slice (some ⟨g, 0, none⟩) n cap) (l.set i c) w' → w.grownBy w' (some g) → wpList Tryd.prog ops Q rest z w') : wpList Tryd.prog ops Q (o :: rest) z w := by
  subst hl
  exact wpList_store_cell hI hgd hd pa pv ho base g cap l i c hpa hpv hown hi hK
theorem below_grown' {base g : Nat} {w0 w w' : World} (h : Below base w0 w) (hg : w.grownBy w' (some g)) (hb : base ≤ g) (hs : base ≤ w.heap.size) : Below base w0 w' :=
  ⟨hg.os.trans h.os, hg.tape.trans h.tape, hg.output.trans h.output, Nat.le_trans h.size hg.size, fun k hk => (hg.block k (Nat.lt_of_lt_of_le hk hs) (fun e => by have := Option.some.inj e; omega)).trans (h.block k hk)⟩
theorem refOf_le (x : Int) : W.refOf x ≤ 2 := by
  unfold W.refOf
  split
  · omega
  · split
    · omega
    · split
      · omega
      · split <;> omega
theorem putS_out {k : Nat} {l : List Cel} {at_ x s : Int} (h : k = 0 ∨ at_ < 0 ∨ (l.length : Int) - k < at_) : putS k l at_ x s = mend l := by unfold putS; rw [if_pos h]
theorem putS_one {l : List Cel} {A : Nat} {x s : Int} (h : A < l.length) : putS 1 l A x s = mend (l.set A ⟨x, s, 0⟩) := by
  unfold putS
  rw [if_neg (by omega), if_neg (by omega)]
  rfl
theorem putS_two {l : List Cel} {A : Nat} {x s : Int} (h : A + 1 < l.length) (hb : ¬ (0 < A ∧ (l.getD (A - 1) (blk 0)).part = 1)) : putS 2 l A x s = mend (((l.set A ⟨x, s, 0⟩).set A ⟨x, s, 1⟩).set (A + 1) ⟨x, s, 2⟩) := by
  unfold putS
  rw [if_neg (by omega), if_pos rfl, List.set_set]
  simp only [Int.toNat_natCast]
  rw [if_neg hb]
theorem putS_half {l : List Cel} {A : Nat} {x s : Int} (h : A + 2 < l.length) (hb : (l.getD A (blk 0)).part = 1) : putS 2 l ((A + 1 : Nat) : Int) x s = mend ((((l.set (A + 1) ⟨x, s, 0⟩).set (A + 1) ⟨x, s, 1⟩).set (A + 1 + 1) ⟨x, s, 2⟩).set A (blk (l.getD A (blk 0)).style)) := by
  unfold putS
  rw [if_neg (by omega), if_pos rfl, List.set_set]
  simp only [Int.toNat_natCast, Nat.add_sub_cancel]
  rw [if_pos ⟨Nat.succ_pos _, hb⟩]

set_option maxRecDepth 100000 in
set_option maxHeartbeats 8000000 in
theorem refPut_any (a : Option Addr) (n c : Nat) (wr0 : Bool) (l : List Cel) (at_ x s : Int) (w : World) (hI : CelsIn .i64 a n l w) (hnil : a = none → c = 0) (hn : (n : Int) ≤ 1000000) :
    Calls Tryd.prog 94 #[.agg #[.slice a n c, .bool wr0], .int .i64 at_, .int .i64 x, .int .i64 s] w (RowPost .i64 107 w.heap.size (putS (W.refOf x) l at_ x s) false w) := by
  obtain ⟨rb, hrb⟩ : ∃ rb, w.heap.size = rb := ⟨_, rfl⟩
  rw [hrb]
  have hk2 := refOf_le x
  have HOf := Lib.hid (fun (v : World) => W.refOf_any x v)
  obtain ⟨k, hk⟩ : ∃ k, W.refOf x = k := ⟨_, rfl⟩
  rw [hk] at hk2 HOf ⊢
  obtain ⟨P, hP⟩ : ∃ P, RowPost .i64 107 rb (putS k l at_ x s) false w = P := ⟨_, rfl⟩
  rw [hP]
  have HP := Lib.hid hP
  have hln := hI.len
  have hst := St0.start 38 38 w (.slice a n c) wr0
  obtain ⟨w2, hw2⟩ : ∃ w2, (w.alloc (.cells #[.slice a n c, .bool wr0] 38)).alloc (.cells #[.slice none 0 0, .bool false] 38) = w2 := ⟨_, rfl⟩
  rw [hw2, hrb] at hst
  have HSt := Lib.hid hst
  have HI2 : Hid (CelsIn .i64 a n l w2) := Lib.hid (hI.belowAll (by rw [hrb]; exact hst.below))
  have HNil := Lib.hid hnil
  have HW2 := Lib.hid hw2
  have HRb := Lib.hid hrb
  have HLn := Lib.hid hln
  have HLz : Hid ((l.length : Int) ≤ 1000000) := Lib.hid (by rw [← hln]; exact hn)
  clear hP hst hI hnil hw2 hrb hln hk
  go_enter Tryd.func94, Tryd.ntmps94
  go_upto_region 1 with fail
  rw [HW2.out, HRb.out]
  go_upto_region 2 with (go_at_call 116; refine (HOf.out _).mono ?_; rintro e w3 ⟨rfl, hb3⟩)
  have HSt3 := Lib.hid (HSt.out.more (hb3.mono HSt.out.size))
  have HI3 := Lib.hid (HI2.out.belowAll hb3)
  have hsz3 := HSt3.out.size
  have hrb3 : rb < w3.heap.size := by omega
  have c0 := HSt3.out.r.c0
  clear hb3 HI2 HSt HOf
  by_cases hbad : k = 0 ∨ at_ < 0 ∨ (l.length : Int) - k < at_
  · rw [putS_out hbad] at HP
    have HM := Lib.hid (refMend_any a n c l w3 HI3.out hn)
    rw [← HLn.out] at hbad
    have hway : k = 0 ∨ (((k : Int) == 0) = false ∧ decide (at_ < 0) = true) ∨ (((k : Int) == 0) = false ∧ decide (at_ < 0) = false ∧ decide (at_ > (n : Int) - (k : Int)) = true) := by
      by_cases h0 : k = 0
      · left; exact h0
      · right
        have h1 : ((k : Int) == 0) = false := by rw [beq_eq_false_iff_ne]; omega
        by_cases h2 : at_ < 0
        · left; exact ⟨h1, by simp; omega⟩
        · right; exact ⟨h1, by simp; omega, by simp; omega⟩
    clear hbad
    rcases hway with rfl | ⟨q1, q2⟩ | ⟨q1, q2, q3⟩
    all_goals
      go_wp2_with fail
      refine HM.out.mono ?_
      rintro e w9 ⟨v9, rfl, hO9, hb9⟩
      have HSt9 := Lib.hid (HSt3.out.more (hb9.mono HSt3.out.size))
      obtain ⟨a9, c9, he9, -⟩ := hO9.shape
      obtain ⟨n9, hn9⟩ : ∃ n9, (mend l).length = n9 := ⟨_, rfl⟩
      rw [hn9] at he9
      subst he9
      have HO9 : Hid (OwnC .i64 107 (rb + 2) (.slice a9 n9 c9) (mend l) w9) := Lib.hid (hO9.weaken HSt3.out.size)
      have x0 := HSt9.out.q.c0
      have x1 := HSt9.out.q.c1
      have f0 := HSt9.out.q.fr 0
      have f1 := HSt9.out.q.fr 1
      clear hO9 hb9 hn9 HM
      go_wp2_with fail
      refine bodyPost_ret (v := .agg #[.slice a9 n9 c9, .bool false]) (by rw [results_cell (fn := Tryd.f94) rfl]; go_simp <;> rfl) rfl ?_
      rw [← HP.out]
      exact ⟨_, rfl, (HO9.out.set2 (Nat.lt_succ_self (rb + 1)) _ _).weaken (by omega), below_set2 HSt9.out.below (by omega)⟩
  · obtain ⟨A, rfl⟩ : ∃ A : Nat, at_ = (A : Int) := ⟨at_.toNat, by omega⟩
    rw [← HLn.out] at hbad
    have hA : A + k ≤ n := by omega
    have hk1 : 1 ≤ k := by omega
    have q1 : ((k : Int) == 0) = false := by rw [beq_eq_false_iff_ne]; omega
    have q2 : decide ((A : Int) < 0) = false := decide_eq_false (by omega)
    have q3 : decide ((A : Int) > (n : Int) - (k : Int)) = false := decide_eq_false (by omega)
    have q3' : decide ((n : Int) - (k : Int) < (A : Int)) = false := decide_eq_false (by omega)
    have hAn : (A : Int) < n := by omega
    have HO4 := Lib.hid (OwnC.lit .i64 107 w3 (rb + 2) hsz3)
    have HI4 : Hid (CelsIn .i64 a n l (w3.alloc (.cells #[] 107))) := Lib.hid (HI3.out.belowAll ((Below.refl _ _).alloc (Nat.le_refl _) _))
    clear hbad
    go_wp2_with (at_builtin; refine wpList_append_cells refT rfl _ _ rfl rfl (rb + 2) _ [] a n c l rfl rfl HO4.out HI4.out HNil.out (by simp) HLz.out (by simp; omega) ?_)
    intro v5 w5 hown hgr
    have hb5 : Below (rb + 2) w3 w5 := below_grew ((Below.refl _ _).alloc HSt3.out.size _) hgr (fun q hq => by have := (HO4.out.ownBlock q hq).1; omega) (by simp; omega)
    obtain ⟨a5, c5, he5, hin5, hblk5, -, hle5, hmx5⟩ := hown.shape
    rw [← HLn.out] at he5 hin5 hle5
    subst he5
    have HSt5 := Lib.hid (HSt3.out.more hb5)
    have hln : 0 < l.length := by rw [← HLn.out]; omega
    obtain ⟨b5, o5, rfl, hbb5, hAt5⟩ := hin5.at_.resolve_left (by intro e; rw [e] at hln; simp at hln)
    obtain ⟨hbl5, -, rfl⟩ := hblk5 b5 o5 rfl
    have HO5 := Lib.hid hown
    have hAn' : A < n := by omega
    clear hown hgr hb5 hin5 hblk5 hln c0 HO4 HI4 hle5
    have HL0 : Hid (l.length = n) := Lib.hid HLn.out.symm
    have hw5 := HSt5.out.size
    rcases (by omega : k = 1 ∨ k = 2) with rfl | rfl
    case' inl =>
      go_upto_region 6 with (refine wpList_store_cl refT rfl rfl _ _ rfl (rb + 2) b5 n c5 l A ⟨x, s, 0⟩ rfl rfl HO5.out hAn' HL0.out ?_; intro w6 h6 hg6)
      have HG : Hid (∃ m, OwnC .i64 107 (rb + 2) (.slice (some ⟨b5, 0, none⟩) n c5) m w6 ∧ mend m = putS 1 l A x s ∧ m.length = n ∧ Below (rb + 2) w5 w6) := Lib.hid ⟨_, h6, (putS_one (by rw [HL0.out]; exact hAn')).symm, by rw [List.length_set]; exact HL0.out, below_grown' (Below.refl _ _) hg6 hbl5 hw5⟩
      clear h6 hg6
      go_upto_region 11 with fail
    case' inr =>
      have hA2 : A + 1 < n := by omega
      have hA2' : (A : Int) + 1 < n := by omega
      have HL1 : Hid ((l.set A ⟨x, s, 0⟩).length = n) := Lib.hid (by rw [List.length_set]; exact HL0.out)
      have HL2 : Hid (((l.set A ⟨x, s, 0⟩).set A ⟨x, s, 1⟩).length = n) := Lib.hid (by rw [List.length_set]; exact HL1.out)
      go_upto_region 6 with (refine wpList_store_cl refT rfl rfl _ _ rfl (rb + 2) b5 n c5 l A ⟨x, s, 0⟩ rfl rfl HO5.out hAn' HL0.out ?_; intro w6 h6 hg6)
      have HO6 := Lib.hid h6
      have HB6 := Lib.hid (below_grown' (Below.refl _ _) hg6 hbl5 hw5)
      clear h6 hg6
      go_upto_region 8 with (refine wpList_store_cl refT rfl rfl _ _ rfl (rb + 2) b5 n c5 _ A ⟨x, s, 1⟩ rfl rfl HO6.out hAn' HL1.out ?_; intro w7 h7 hg7)
      have HO7 := Lib.hid h7
      have HB7 := Lib.hid (below_grown' HB6.out hg7 hbl5 (Nat.le_trans hw5 HB6.out.size))
      clear h7 hg7
      go_upto_region 9 with (refine wpList_store_cl refT rfl rfl _ _ rfl (rb + 2) b5 n c5 _ (A + 1) ⟨x, s, 2⟩ rfl rfl HO7.out hA2 HL2.out ?_; intro w8 h8 hg8)
      obtain ⟨m8, hm8⟩ : ∃ m8, ((l.set A ⟨x, s, 0⟩).set A ⟨x, s, 1⟩).set (A + 1) ⟨x, s, 2⟩ = m8 := ⟨_, rfl⟩
      rw [hm8] at h8
      have HB8 := Lib.hid (below_grown' HB7.out hg8 hbl5 (Nat.le_trans hw5 HB7.out.size))
      have HM8 := Lib.hid hm8
      have HL8 : Hid (m8.length = n) := Lib.hid (by rw [← hm8, List.length_set]; exact HL2.out)
      have HO8 := Lib.hid h8
      clear h8 hg8 hm8 HO6 HO7 HB6 HB7
      refine Or.elim (Nat.eq_zero_or_pos A) (fun hA0 => ?zero) (fun hA0 => ?more)
    case' zero =>
      subst hA0
      have HG : Hid (∃ m, OwnC .i64 107 (rb + 2) (.slice (some ⟨b5, 0, none⟩) n c5) m w8 ∧ mend m = putS 2 l (0 : Nat) x s ∧ m.length = n ∧ Below (rb + 2) w5 w8) := Lib.hid ⟨_, HO8.out, by rw [putS_two (by rw [HL0.out]; exact hA2) (fun h => by omega), HM8.out], HL8.out, HB8.out⟩
      have q4 : decide (((0 : Nat) : Int) > 0) = false := by simp
      go_upto_region 11 with fail
    case' more =>
      obtain ⟨B, rfl⟩ : ∃ B, A = B + 1 := ⟨A - 1, by omega⟩
      have hBl : B < l.length := by rw [HL0.out]; omega
      have hgd : l.getD B (blk 0) = l[B] := by simp [List.getD_eq_getElem?_getD, List.getElem?_eq_getElem hBl]
      obtain ⟨a8, c8, he8, hin8, -⟩ := HO8.out.shape
      rw [HL8.out] at he8 hin8
      have hB8 : B < m8.length := by rw [HL8.out]; omega
      obtain ⟨b8, o8, rfl, -, hAt8⟩ := hin8.at_.resolve_left (by intro e; rw [e] at hB8; simp at hB8)
      obtain ⟨rfl, rfl⟩ : b5 = b8 ∧ 0 = o8 := by injection he8 with h1 h2 h3; injection h1 with h1; injection h1 with h1 h2; exact ⟨h1, h2⟩
      have hg8 : m8[B]? = some l[B] := by
        rw [← HM8.out, List.getElem?_set_ne (by omega), List.getElem?_set_ne (by omega), List.getElem?_set_ne (by omega), List.getElem?_eq_getElem hBl]
      have hat := hAt8 B l[B] hg8
      obtain ⟨S, hS⟩ : ∃ S, l[B].style = S := ⟨_, rfl⟩
      obtain ⟨T, hT⟩ : ∃ T, l[B].part = T := ⟨_, rfl⟩
      have y1 := hat.c1
      have y2 := hat.c2
      rw [hS] at y1
      rw [hT] at y2
      rw [Nat.zero_add] at y1 y2
      have hB1 : ((B + 1 : Nat) : Int) - 1 = (B : Int) := by omega
      have hBn : (B : Int) < n := by omega
      have q4 : decide (((B + 1 : Nat) : Int) > 0) = true := decide_eq_true (by omega)
      have HS := Lib.hid hS
      have HT := Lib.hid hT
      have HGd := Lib.hid hgd
      clear hin8 hat hg8 hAt8 hgd hS hT he8 hB8 hA0
      refine Or.elim (Decidable.em (T = 1)) (fun hT1 => ?half) (fun hT1 => ?whole)
    case' whole =>
      have q5 : (T == 1) = false := by rw [beq_eq_false_iff_ne]; exact hT1
      have HG : Hid (∃ m, OwnC .i64 107 (rb + 2) (.slice (some ⟨b5, 0, none⟩) n c5) m w8 ∧ mend m = putS 2 l (B + 1 : Nat) x s ∧ m.length = n ∧ Below (rb + 2) w5 w8) := Lib.hid ⟨_, HO8.out, by rw [putS_two (by rw [HL0.out]; exact hA2) (by rw [Nat.add_sub_cancel, HGd.out, HT.out]; exact fun h => hT1 h.2), HM8.out], HL8.out, HB8.out⟩
      clear hT1
      go_upto_region 11 with fail
    case' half =>
      subst hT1
      have hBn' : B < n := by omega
      go_upto_region 11 with (refine wpList_store_cl refT rfl rfl _ _ rfl (rb + 2) b5 n c5 m8 B (blk S) rfl rfl HO8.out hBn' HL8.out ?_; intro w9 h9 hg9)
      have HG : Hid (∃ m, OwnC .i64 107 (rb + 2) (.slice (some ⟨b5, 0, none⟩) n c5) m w9 ∧ mend m = putS 2 l (B + 1 : Nat) x s ∧ m.length = n ∧ Below (rb + 2) w5 w9) := Lib.hid ⟨_, h9, by rw [putS_half (by rw [HL0.out]; exact hA2) (by rw [HGd.out]; exact HT.out), HM8.out, HGd.out, HS.out], by rw [List.length_set]; exact HL8.out, below_grown' HB8.out hg9 hbl5 (Nat.le_trans hw5 HB8.out.size)⟩
      clear h9 hg9
    all_goals
      obtain ⟨m, hOm, hmm, hml, hbm⟩ := HG.out
      have HStm := Lib.hid (HSt5.out.more hbm)
      obtain ⟨am, cm, hem, hinm, -⟩ := hOm.shape
      rw [hml] at hem hinm
      obtain ⟨rfl, rfl⟩ : some ⟨b5, 0, none⟩ = am ∧ c5 = cm := by injection hem with h1 h2 h3; exact ⟨h1, h3⟩
      have hMm := refMend_any (some ⟨b5, 0, none⟩) n c5 m _ hinm hn
      rw [hmm] at hMm
      have HMm := Lib.hid hMm
      clear hOm hmm hml hbm hem hinm hMm
      go_wp2_with fail
      refine HMm.out.mono ?_
      rintro e w19 ⟨v19, rfl, hO9, hb9⟩
      have HSt9 := Lib.hid (HStm.out.more (hb9.mono HStm.out.size))
      obtain ⟨a9, c9, he9, -⟩ := hO9.shape
      generalize hn9 : (putS _ l _ x s).length = n9 at he9
      subst he9
      have HO9 := Lib.hid (hO9.weaken HStm.out.size)
      have x0 := HSt9.out.q.c0
      have x1 := HSt9.out.q.c1
      have f0 := HSt9.out.q.fr 0
      have f1 := HSt9.out.q.fr 1
      clear hO9 hb9 hn9 HMm
      go_wp2_with fail
      refine bodyPost_ret (v := .agg #[.slice a9 n9 c9, .bool false]) (by rw [results_cell (fn := Tryd.f94) rfl]; go_simp <;> rfl) rfl ?_
      rw [← HP.out]
      exact ⟨_, rfl, (HO9.out.set2 (Nat.lt_succ_self (rb + 1)) _ _).weaken (by omega), below_set2 HSt9.out.below (by omega)⟩
end Go.Proofs.YtkggmcnocpgnbaaDoor.K
