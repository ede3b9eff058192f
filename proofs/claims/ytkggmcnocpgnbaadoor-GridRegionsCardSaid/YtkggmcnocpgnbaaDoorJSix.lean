/- The program's grid: Down. -/
import Derived.Test.YtkggmcnocpgnbaaDoorJFive
namespace Go.Proofs.YtkggmcnocpgnbaaDoor.K
open Go.RowKit

theorem RvsIn.at {q n cap m k C T off len c' : Nat} {us : List Rv} {w : World} (h : RvsIn (some ⟨q, 0, none⟩) n cap us w) (hm : T + m ≤ n) (hk : k ≤ m) (hC : cap - T = C) (ho : k ≠ 0 → off = (T + (m - k)) * 2) (hl : len = k) (hc : c' = C - (m - k)) : RvsIn (some ⟨q, off, none⟩) len c' ((us.take (T + m)).drop (T + (m - k))) w := by
  subst hl hc
  have hn := h.len
  have hf := h.fit
  have h1 := h.sub (T + (m - len)) len (by omega)
  have e1 : T + (m - len) + len = T + m := by omega
  have e2 : cap - (T + (m - len)) = C - (m - len) := by omega
  rw [e1, e2] at h1
  by_cases h0 : len = 0
  · exact ⟨h1.len, h1.fit, h1.top, .inl (List.eq_nil_of_length_eq_zero (by rw [← h1.len]; exact h0))⟩
  · rw [ho h0]; exact h1
set_option maxRecDepth 100000 in
set_option maxHeartbeats 8000000 in
theorem gdown_any {g q : Nat} {L : List Nat} {x : Gd} (top bot n s : Int) (w : World) (h : Gr g q x w) (hL : ∀ p ∈ L, p < w.heap.size) :
    Calls Tryd.prog 43 #[.pointer (some ⟨g, 0, none⟩), .int .i64 top, .int .i64 bot, .int .i64 n, .int .i64 s] w (MovPost g q L (downG x top bot n s) w) := by
  obtain ⟨us, cap, h⟩ := h
  have hok := downG_ok h.ok top bot n s
  have HR := Lib.hid (region_any top bot n w h)
  have hf := h.few
  have hfit := h.fit
  have hT := plN_lt (by have := h.few; omega : 0 < us.length) top
  have hB := plN_lt (by have := h.few; omega : 0 < us.length) bot
  have hL' : ∀ p ∈ q :: L, p < w.heap.size := fun p hp => by
    rcases List.mem_cons.1 hp with rfl | hp
    · exact h.lt.2
    · exact hL p hp
  have hll : ∀ r ∈ x.rs, r.l.length ≤ 1000 := fun r hr => by rw [h.ok.len r hr]; exact h.ok.w2
  unfold regV regK at HR
  unfold downG at hok ⊢
  rw [← h.ulen] at hok ⊢
  simp only at hok ⊢
  obtain ⟨T, hTe⟩ : ∃ T, plN us.length top = T := ⟨_, rfl⟩
  obtain ⟨B, hBe⟩ : ∃ B, plN us.length bot = B := ⟨_, rfl⟩
  rw [hTe, hBe] at HR hok ⊢
  rw [hTe] at hT
  rw [hBe] at hB
  have HG := Lib.hid h
  have HLl := Lib.hid hL'
  by_cases hc : B < T
  · rw [if_pos hc, if_pos hc] at HR
    rw [if_pos hc] at hok ⊢
    have HC := Lib.hid (copyUp_any (L := q :: L) w (rvs_none w) (RowsV.nil .i32 w) (fun _ hr => by cases hr) (by decide) hL')
    rw [List.reverse_nil] at HC
    clear hc h hok hfit hT hB hTe hBe hL' hll hL
    go_enter Tryd.func43, Tryd.ntmps43
    go_wp2_with (go_at_call 74; refine HR.out.mono ?_; rintro e w' ⟨rfl, rfl⟩)
    refine (up_any _ _ _ w).mono ?_
    rintro e w' ⟨rfl, rfl⟩
    go_wp2_with fail
    refine HC.out.mono ?_
    rintro e w1 ⟨a, m, c, us', rfl, hRL, -, -, hb1⟩
    have HRL := Lib.hid hRL
    have HB1 := Lib.hid hb1
    have h1 := HG.out.below hb1
    have HE := Lib.hid (empty_any (c' := 0) (a := none) 0 0 s w1 h1.c0 h1.ok.w2 h1.own rfl (fun e => absurd rfl e) (by omega) (by rw [h1.ulen]; exact h1.ok.h2))
    have HG1 := Lib.hid h1
    clear hRL hb1 h1
    go_wp2_with (refine U.wpList_copy_zero rfl _ _ _ _ rfl 27 2 Tryd.underlying66 (by kernel_rfl) none none 0 0 0 0 rfl rfl rfl ?_)
    go_wp2_with fail
    refine HE.out.mono ?_
    rintro e w2 ⟨⟨v, rfl⟩, u, ho, hu, ht, hk⟩
    rw [emp_zero] at ho
    obtain ⟨cs, hq⟩ := HG1.out.qb
    have hne := fun v (hv : TyC 0 v w1) => hv.keptB hk (fun p hp _ => by rw [List.mem_singleton.1 hp]; exact ⟨cs, _, hq, by decide⟩)
    have hgq := HG.out.gq
    have hG2 : GridAt g q x us cap w2 := ⟨HG.out.ok, (hk.block g HG1.out.lt.1 (fun e => hgq (by simpa using e))).trans HG1.out.gb, ho, HG1.out.rv.moved hk.size (fun v hv => (hne v (HG1.out.ty v hv)).1), fun v hv => (hne v (HG1.out.ty v hv)).2⟩
    have HF : Hid (MovPost g q L (x, []) w (.returned (.slice a m c)) w2) := Lib.hid ⟨a, m, c, rfl, (HRL.out.keptB (hk.mono (fun i hi => by rw [List.mem_singleton.1 hi]; simp))).sub (fun p hp => List.mem_cons_of_mem _ hp), ⟨us, cap, hG2⟩, (KeepB.of_below HB1.out).trans (hk.mono (fun i hi => by rw [List.mem_singleton.1 hi]; simp))⟩
    clear ho hu ht hk hq hne hG2
    go_wp2_with fail
    go_ret
    exact HF.out
  · rw [if_neg hc, if_neg hc] at HR
    rw [if_neg hc] at hok ⊢
    obtain ⟨m, hm⟩ : ∃ m, B + 1 - T = m := ⟨_, rfl⟩
    rw [hm] at HR hok ⊢
    have hkm := cntN_le n m
    obtain ⟨k, hk⟩ : ∃ k, cntN n m = k := ⟨_, rfl⟩
    rw [hk] at HR hok hkm ⊢
    have hTm : T + m = B + 1 := by omega
    have hrg : (regR x.rs T B).drop (m - k) = (x.rs.take (T + m)).drop (T + (m - k)) := by unfold regR; rw [List.drop_drop, hTm]
    rw [hrg]
    have hTB : T + m ≤ us.length := by omega
    have hm1 : 1 ≤ m := by omega
    have hup : ∀ u, _ := fun u => down_list (us := us) (t := T) (m := m) (n := k) u hkm hm1 hTB
    rw [show T + m - 1 = B by omega] at hup
    obtain ⟨C, hC⟩ : ∃ C, cap - T = C := ⟨_, rfl⟩
    rw [hC] at HR
    clear hm hk
    have hnc : cap - T = C := hC
    have hmC : m ≤ C := by omega
    have hCx : (C : Int) ≤ 9223372036854775807 := by omega
    have hmI : (m : Int) ≤ 1000 := by omega
    by_cases hkm' : k = m
    · subst hkm'
      rw [Nat.sub_self] at hup hrg ⊢
      have hkk : k ≤ C := hmC
      have hmk : k - 0 = k := rfl
      rcases Decidable.em (C = k) with hc1 | hc1
      · subst hc1
        have hc2 : ¬ C = 0 := by omega
        have hcd := copyUp_any (L := q :: L) w ((by have h' := h.rin.sub T C (by omega); rw [hC] at h'; exact h' : RvsIn (some ⟨q, T * 2, none⟩) C C ((us.take (T + C)).drop (T + 0)) w)) ((h.rv.take (T + C)).drop (T + (0))) (fun r hr => hll r (List.mem_of_mem_take (List.mem_of_mem_drop hr))) (by rw [List.length_drop, List.length_take]; omega) hL'
        have HC := Lib.hid hcd
        have HOk := Lib.hid hok
        have HUp := Lib.hid hup
        have hmin : Nat.min C 0 = 0 := Nat.min_eq_right (by omega)
        have hTk : T + (0) ≤ us.length := by omega
        have hTk2 : T + C + (0) ≤ us.length := by omega
        have hTk3 : T + C ≤ us.length := by omega
        clear hcd hok hup hc h hfit hT hB hTe hBe hL' hll hL hTm hTB hrg hnc
        go_enter Tryd.func43, Tryd.ntmps43
        go_wp2_with (go_at_call 74; refine HR.out.mono ?_; rintro e w' ⟨rfl, rfl⟩)
        try rw [hmk]
        refine (up_any _ _ _ w).mono ?_
        rintro e w' ⟨rfl, rfl⟩
        go_wp2_with fail
        refine HC.out.mono ?_
        rintro e w1 ⟨a, ma, c, us', rfl, hRL, -, -, hb1⟩
        have HRL := Lib.hid hRL
        have HB1 := Lib.hid hb1
        have HG1 := Lib.hid (HG.out.below hb1)
        clear hRL hb1
        go_wp2_with (refine wpList_copy_rows rfl _ _ rfl 0 q us.length cap us HG1.out.own rfl (T + C) T (0) _ _ _ _ _ _ rfl rfl hmin (fun h0 => by first | exact absurd rfl h0 | rfl | (congr 2; omega)) (fun _ => rfl) hTk2 hTk ?_)
        intro w2 ho2 hk2
        have HO2 := Lib.hid ho2
        have HK2 := Lib.hid hk2
        have hgq := HG.out.gq
        have hgW : w2.cell? ⟨g, 0, none⟩ = some (.int .i64 (x.W : Int)) := by
          rw [World.cell?_of_block (a := ⟨g, 0, none⟩) (hk2.block g HG1.out.lt.1 (fun e => hgq (by simpa using e)))]
          exact HG1.out.c0
        have HE := Lib.hid (fun (a : Option Addr) (c' : Nat) (ha : C ≠ 0 → a = some ⟨q, T * 2, none⟩) => empty_any (c' := c') (a := a) T C s w2 hgW HG.out.ok.w2 ho2 (by rw [upd_length hTk2 hTk]) ha hTk3 (by rw [HG.out.ulen]; exact HG.out.ok.h2))
        clear ho2 hk2 hgW
        go_wp2_with fail
        refine (HE.out _ _ (fun h0 => rfl)).mono ?_
        rintro e w3 ⟨⟨v, rfl⟩, u, ho, hu, ht, hk⟩
        rw [HUp.out] at ho
        have hlen : (D.inL us T B fun R => D.downR R C u).length = us.length := by rw [← HUp.out, emp_length _ (by rw [upd_length hTk2 hTk]; exact hTk3), upd_length hTk2 hTk]
        have hG3 := HG.out.moved HB1.out HK2.out hk (rs' := D.inL x.rs T B fun R => D.downR R C (blankR x.W s)) HOk.out ho hlen hu ht (fun V hV hU => hV.inL T B (fun _ _ hh => hh.downR hU C)) (fun v hv => by
          rw [← HUp.out] at hv
          rcases mem_emp hv with hv | hv
          · exact .inl (mem_upd hv)
          · exact .inr hv)
        have HF : Hid (MovPost g q L (⟨x.W, D.inL x.rs T B fun R => D.downR R C (blankR x.W s)⟩, ((x.rs.take (T + C)).drop (T + (0))).reverse) w (.returned (.slice a ma c)) w3) := Lib.hid ⟨a, ma, c, rfl, ((HRL.out.keptB (HK2.out.mono (fun i hi => by rw [List.mem_singleton.1 hi]; simp))).keptB (hk.mono (fun i hi => by rw [List.mem_singleton.1 hi]; simp))).sub (fun p hp => List.mem_cons_of_mem _ hp), ⟨_, cap, hG3.1⟩, hG3.2⟩
        clear ho hu ht hk hlen hG3
        go_wp2_with fail
        go_ret
        exact HF.out
      · have hc2 : ¬ C = 0 := by omega
        have hcd := copyUp_any (L := q :: L) w ((by have h' := h.rin.sub T k (by omega); rw [hC] at h'; exact h' : RvsIn (some ⟨q, T * 2, none⟩) k C ((us.take (T + k)).drop (T + 0)) w)) ((h.rv.take (T + k)).drop (T + (0))) (fun r hr => hll r (List.mem_of_mem_take (List.mem_of_mem_drop hr))) (by rw [List.length_drop, List.length_take]; omega) hL'
        have HC := Lib.hid hcd
        have HOk := Lib.hid hok
        have HUp := Lib.hid hup
        have hmin : Nat.min k 0 = 0 := Nat.min_eq_right (by omega)
        have hTk : T + (0) ≤ us.length := by omega
        have hTk2 : T + k + (0) ≤ us.length := by omega
        have hTk3 : T + k ≤ us.length := by omega
        clear hcd hok hup hc h hfit hT hB hTe hBe hL' hll hL hTm hTB hrg hnc
        go_enter Tryd.func43, Tryd.ntmps43
        go_wp2_with (go_at_call 74; refine HR.out.mono ?_; rintro e w' ⟨rfl, rfl⟩)
        try rw [hmk]
        refine (up_any _ _ _ w).mono ?_
        rintro e w' ⟨rfl, rfl⟩
        go_wp2_with fail
        refine HC.out.mono ?_
        rintro e w1 ⟨a, ma, c, us', rfl, hRL, -, -, hb1⟩
        have HRL := Lib.hid hRL
        have HB1 := Lib.hid hb1
        have HG1 := Lib.hid (HG.out.below hb1)
        clear hRL hb1
        go_wp2_with (refine wpList_copy_rows rfl _ _ rfl 0 q us.length cap us HG1.out.own rfl (T + k) T (0) _ _ _ _ _ _ rfl rfl hmin (fun h0 => by first | exact absurd rfl h0 | rfl | (congr 2; omega)) (fun _ => rfl) hTk2 hTk ?_)
        intro w2 ho2 hk2
        have HO2 := Lib.hid ho2
        have HK2 := Lib.hid hk2
        have hgq := HG.out.gq
        have hgW : w2.cell? ⟨g, 0, none⟩ = some (.int .i64 (x.W : Int)) := by
          rw [World.cell?_of_block (a := ⟨g, 0, none⟩) (hk2.block g HG1.out.lt.1 (fun e => hgq (by simpa using e)))]
          exact HG1.out.c0
        have HE := Lib.hid (fun (a : Option Addr) (c' : Nat) (ha : k ≠ 0 → a = some ⟨q, T * 2, none⟩) => empty_any (c' := c') (a := a) T k s w2 hgW HG.out.ok.w2 ho2 (by rw [upd_length hTk2 hTk]) ha hTk3 (by rw [HG.out.ulen]; exact HG.out.ok.h2))
        clear ho2 hk2 hgW
        go_wp2_with fail
        refine (HE.out _ _ (fun h0 => rfl)).mono ?_
        rintro e w3 ⟨⟨v, rfl⟩, u, ho, hu, ht, hk⟩
        rw [HUp.out] at ho
        have hlen : (D.inL us T B fun R => D.downR R k u).length = us.length := by rw [← HUp.out, emp_length _ (by rw [upd_length hTk2 hTk]; exact hTk3), upd_length hTk2 hTk]
        have hG3 := HG.out.moved HB1.out HK2.out hk (rs' := D.inL x.rs T B fun R => D.downR R k (blankR x.W s)) HOk.out ho hlen hu ht (fun V hV hU => hV.inL T B (fun _ _ hh => hh.downR hU k)) (fun v hv => by
          rw [← HUp.out] at hv
          rcases mem_emp hv with hv | hv
          · exact .inl (mem_upd hv)
          · exact .inr hv)
        have HF : Hid (MovPost g q L (⟨x.W, D.inL x.rs T B fun R => D.downR R k (blankR x.W s)⟩, ((x.rs.take (T + k)).drop (T + (0))).reverse) w (.returned (.slice a ma c)) w3) := Lib.hid ⟨a, ma, c, rfl, ((HRL.out.keptB (HK2.out.mono (fun i hi => by rw [List.mem_singleton.1 hi]; simp))).keptB (hk.mono (fun i hi => by rw [List.mem_singleton.1 hi]; simp))).sub (fun p hp => List.mem_cons_of_mem _ hp), ⟨_, cap, hG3.1⟩, hG3.2⟩
        clear ho hu ht hk hlen hG3
        go_wp2_with fail
        go_ret
        exact HF.out
    · have hkm2 : k < m := by omega
      have hkI : (k : Int) ≤ m := by omega
      have hkC : k ≤ C := by omega
      have hc1 : ¬ C = k := by omega
      by_cases hk0 : k = 0
      · subst hk0
        rw [Nat.sub_zero] at hup hrg ⊢
        rw [Nat.add_zero] at hup
        have hmk : m - m = 0 := Nat.sub_self m
        rcases Decidable.em (C = m) with hc2 | hc2
        · subst hc2
          have hcd := copyUp_any (L := q :: L) w ((RvsIn.at (m := C) (k := 0) (C := C) (off := T * 2) (len := 0) (c' := 0) h.rin hTB hkm hC (fun e => absurd rfl e) rfl (by omega) : RvsIn (some ⟨q, T * 2, none⟩) 0 0 ((us.take (T + C)).drop (T + C)) w)) ((h.rv.take (T + C)).drop (T + (C))) (fun r hr => hll r (List.mem_of_mem_take (List.mem_of_mem_drop hr))) (by rw [List.length_drop, List.length_take]; omega) hL'
          have HC := Lib.hid hcd
          have HOk := Lib.hid hok
          have HUp := Lib.hid hup
          have hmin : Nat.min C C = C := Nat.min_eq_right (by omega)
          have hTk : T + (C) ≤ us.length := by omega
          have hTk2 : T + (C) ≤ us.length := by omega
          have hTk3 : T + 0 ≤ us.length := by omega
          clear hcd hok hup hc h hfit hT hB hTe hBe hL' hll hL hTm hTB hrg hnc
          go_enter Tryd.func43, Tryd.ntmps43
          go_wp2_with (go_at_call 74; refine HR.out.mono ?_; rintro e w' ⟨rfl, rfl⟩)
          try rw [hmk]
          refine (up_any _ _ _ w).mono ?_
          rintro e w' ⟨rfl, rfl⟩
          go_wp2_with fail
          refine HC.out.mono ?_
          rintro e w1 ⟨a, ma, c, us', rfl, hRL, -, -, hb1⟩
          have HRL := Lib.hid hRL
          have HB1 := Lib.hid hb1
          have HG1 := Lib.hid (HG.out.below hb1)
          clear hRL hb1
          go_wp2_with (refine wpList_copy_rows rfl _ _ rfl 0 q us.length cap us HG1.out.own rfl (T) T (C) _ _ _ _ _ _ rfl rfl hmin (fun h0 => by first | exact absurd rfl h0 | rfl | (congr 2; omega)) (fun _ => rfl) hTk2 hTk ?_)
          intro w2 ho2 hk2
          have HO2 := Lib.hid ho2
          have HK2 := Lib.hid hk2
          have hgq := HG.out.gq
          have hgW : w2.cell? ⟨g, 0, none⟩ = some (.int .i64 (x.W : Int)) := by
            rw [World.cell?_of_block (a := ⟨g, 0, none⟩) (hk2.block g HG1.out.lt.1 (fun e => hgq (by simpa using e)))]
            exact HG1.out.c0
          have HE := Lib.hid (fun (a : Option Addr) (c' : Nat) (ha : 0 ≠ 0 → a = some ⟨q, T * 2, none⟩) => empty_any (c' := c') (a := a) T 0 s w2 hgW HG.out.ok.w2 ho2 (by rw [upd_length hTk2 hTk]) ha hTk3 (by rw [HG.out.ulen]; exact HG.out.ok.h2))
          clear ho2 hk2 hgW
          go_wp2_with fail
          refine (HE.out _ _ (fun h0 => rfl)).mono ?_
          rintro e w3 ⟨⟨v, rfl⟩, u, ho, hu, ht, hk⟩
          rw [HUp.out] at ho
          have hlen : (D.inL us T B fun R => D.downR R 0 u).length = us.length := by rw [← HUp.out, emp_length _ (by rw [upd_length hTk2 hTk]; exact hTk3), upd_length hTk2 hTk]
          have hG3 := HG.out.moved HB1.out HK2.out hk (rs' := D.inL x.rs T B fun R => D.downR R 0 (blankR x.W s)) HOk.out ho hlen hu ht (fun V hV hU => hV.inL T B (fun _ _ hh => hh.downR hU 0)) (fun v hv => by
            rw [← HUp.out] at hv
            rcases mem_emp hv with hv | hv
            · exact .inl (mem_upd hv)
            · exact .inr hv)
          have HF : Hid (MovPost g q L (⟨x.W, D.inL x.rs T B fun R => D.downR R 0 (blankR x.W s)⟩, ((x.rs.take (T + C)).drop (T + (C))).reverse) w (.returned (.slice a ma c)) w3) := Lib.hid ⟨a, ma, c, rfl, ((HRL.out.keptB (HK2.out.mono (fun i hi => by rw [List.mem_singleton.1 hi]; simp))).keptB (hk.mono (fun i hi => by rw [List.mem_singleton.1 hi]; simp))).sub (fun p hp => List.mem_cons_of_mem _ hp), ⟨_, cap, hG3.1⟩, hG3.2⟩
          clear ho hu ht hk hlen hG3
          go_wp2_with fail
          go_ret
          exact HF.out
        · have hmm : m ≤ C := hmC
          have hcd := copyUp_any (L := q :: L) w ((RvsIn.at (m := m) (k := 0) (C := C) (off := T * 2 + m * 2) (len := 0) (c' := C - m) h.rin hTB hkm hC (fun e => absurd rfl e) rfl rfl : RvsIn (some ⟨q, T * 2 + m * 2, none⟩) 0 (C - m) ((us.take (T + m)).drop (T + m)) w)) ((h.rv.take (T + m)).drop (T + (m))) (fun r hr => hll r (List.mem_of_mem_take (List.mem_of_mem_drop hr))) (by rw [List.length_drop, List.length_take]; omega) hL'
          have HC := Lib.hid hcd
          have HOk := Lib.hid hok
          have HUp := Lib.hid hup
          have hmin : Nat.min m m = m := Nat.min_eq_right (by omega)
          have hTk : T + (m) ≤ us.length := by omega
          have hTk2 : T + (m) ≤ us.length := by omega
          have hTk3 : T + 0 ≤ us.length := by omega
          clear hcd hok hup hc h hfit hT hB hTe hBe hL' hll hL hTm hTB hrg hnc
          go_enter Tryd.func43, Tryd.ntmps43
          go_wp2_with (go_at_call 74; refine HR.out.mono ?_; rintro e w' ⟨rfl, rfl⟩)
          try rw [hmk]
          refine (up_any _ _ _ w).mono ?_
          rintro e w' ⟨rfl, rfl⟩
          go_wp2_with fail
          refine HC.out.mono ?_
          rintro e w1 ⟨a, ma, c, us', rfl, hRL, -, -, hb1⟩
          have HRL := Lib.hid hRL
          have HB1 := Lib.hid hb1
          have HG1 := Lib.hid (HG.out.below hb1)
          clear hRL hb1
          go_wp2_with (refine wpList_copy_rows rfl _ _ rfl 0 q us.length cap us HG1.out.own rfl (T) T (m) _ _ _ _ _ _ rfl rfl hmin (fun h0 => by first | exact absurd rfl h0 | rfl | (congr 2; omega)) (fun _ => rfl) hTk2 hTk ?_)
          intro w2 ho2 hk2
          have HO2 := Lib.hid ho2
          have HK2 := Lib.hid hk2
          have hgq := HG.out.gq
          have hgW : w2.cell? ⟨g, 0, none⟩ = some (.int .i64 (x.W : Int)) := by
            rw [World.cell?_of_block (a := ⟨g, 0, none⟩) (hk2.block g HG1.out.lt.1 (fun e => hgq (by simpa using e)))]
            exact HG1.out.c0
          have HE := Lib.hid (fun (a : Option Addr) (c' : Nat) (ha : 0 ≠ 0 → a = some ⟨q, T * 2, none⟩) => empty_any (c' := c') (a := a) T 0 s w2 hgW HG.out.ok.w2 ho2 (by rw [upd_length hTk2 hTk]) ha hTk3 (by rw [HG.out.ulen]; exact HG.out.ok.h2))
          clear ho2 hk2 hgW
          go_wp2_with fail
          refine (HE.out _ _ (fun h0 => rfl)).mono ?_
          rintro e w3 ⟨⟨v, rfl⟩, u, ho, hu, ht, hk⟩
          rw [HUp.out] at ho
          have hlen : (D.inL us T B fun R => D.downR R 0 u).length = us.length := by rw [← HUp.out, emp_length _ (by rw [upd_length hTk2 hTk]; exact hTk3), upd_length hTk2 hTk]
          have hG3 := HG.out.moved HB1.out HK2.out hk (rs' := D.inL x.rs T B fun R => D.downR R 0 (blankR x.W s)) HOk.out ho hlen hu ht (fun V hV hU => hV.inL T B (fun _ _ hh => hh.downR hU 0)) (fun v hv => by
            rw [← HUp.out] at hv
            rcases mem_emp hv with hv | hv
            · exact .inl (mem_upd hv)
            · exact .inr hv)
          have HF : Hid (MovPost g q L (⟨x.W, D.inL x.rs T B fun R => D.downR R 0 (blankR x.W s)⟩, ((x.rs.take (T + m)).drop (T + (m))).reverse) w (.returned (.slice a ma c)) w3) := Lib.hid ⟨a, ma, c, rfl, ((HRL.out.keptB (HK2.out.mono (fun i hi => by rw [List.mem_singleton.1 hi]; simp))).keptB (hk.mono (fun i hi => by rw [List.mem_singleton.1 hi]; simp))).sub (fun p hp => List.mem_cons_of_mem _ hp), ⟨_, cap, hG3.1⟩, hG3.2⟩
          clear ho hu ht hk hlen hG3
          go_wp2_with fail
          go_ret
          exact HF.out
      · have hc2 : ¬ C = m - k := by omega
        have hsC : m - k ≤ C := by omega
        have hs1 : m - k ≤ m := by omega
        have hsub : (m : Int) - (k : Int) = ((m - k : Nat) : Int) := by omega
        have hmk : m - (m - k) = k := by omega
        have hcd := copyUp_any (L := q :: L) w ((RvsIn.at (m := m) (k := k) (C := C) (off := T * 2 + (m - k) * 2) (len := k) (c' := C - (m - k)) h.rin hTB hkm hC (fun _ => by omega) rfl rfl : RvsIn (some ⟨q, T * 2 + (m - k) * 2, none⟩) k (C - (m - k)) ((us.take (T + m)).drop (T + (m - k))) w)) ((h.rv.take (T + m)).drop (T + (m - k))) (fun r hr => hll r (List.mem_of_mem_take (List.mem_of_mem_drop hr))) (by rw [List.length_drop, List.length_take]; omega) hL'
        have HC := Lib.hid hcd
        have HOk := Lib.hid hok
        have HUp := Lib.hid hup
        have hmin : Nat.min m (m - k) = m - k := Nat.min_eq_right (by omega)
        have hTk : T + (m - k) ≤ us.length := by omega
        have hTk2 : T + k + (m - k) ≤ us.length := by omega
        have hTk3 : T + k ≤ us.length := by omega
        clear hcd hok hup hc h hfit hT hB hTe hBe hL' hll hL hTm hTB hrg hnc
        go_enter Tryd.func43, Tryd.ntmps43
        go_wp2_with (go_at_call 74; refine HR.out.mono ?_; rintro e w' ⟨rfl, rfl⟩)
        try rw [hmk]
        refine (up_any _ _ _ w).mono ?_
        rintro e w' ⟨rfl, rfl⟩
        go_wp2_with fail
        refine HC.out.mono ?_
        rintro e w1 ⟨a, ma, c, us', rfl, hRL, -, -, hb1⟩
        have HRL := Lib.hid hRL
        have HB1 := Lib.hid hb1
        have HG1 := Lib.hid (HG.out.below hb1)
        clear hRL hb1
        go_wp2_with (refine wpList_copy_rows rfl _ _ rfl 0 q us.length cap us HG1.out.own rfl (T + k) T (m - k) _ _ _ _ _ _ rfl rfl hmin (fun h0 => by first | exact absurd rfl h0 | rfl | (congr 2; omega)) (fun _ => rfl) hTk2 hTk ?_)
        intro w2 ho2 hk2
        have HO2 := Lib.hid ho2
        have HK2 := Lib.hid hk2
        have hgq := HG.out.gq
        have hgW : w2.cell? ⟨g, 0, none⟩ = some (.int .i64 (x.W : Int)) := by
          rw [World.cell?_of_block (a := ⟨g, 0, none⟩) (hk2.block g HG1.out.lt.1 (fun e => hgq (by simpa using e)))]
          exact HG1.out.c0
        have HE := Lib.hid (fun (a : Option Addr) (c' : Nat) (ha : k ≠ 0 → a = some ⟨q, T * 2, none⟩) => empty_any (c' := c') (a := a) T k s w2 hgW HG.out.ok.w2 ho2 (by rw [upd_length hTk2 hTk]) ha hTk3 (by rw [HG.out.ulen]; exact HG.out.ok.h2))
        clear ho2 hk2 hgW
        go_wp2_with fail
        refine (HE.out _ _ (fun h0 => rfl)).mono ?_
        rintro e w3 ⟨⟨v, rfl⟩, u, ho, hu, ht, hk⟩
        rw [HUp.out] at ho
        have hlen : (D.inL us T B fun R => D.downR R k u).length = us.length := by rw [← HUp.out, emp_length _ (by rw [upd_length hTk2 hTk]; exact hTk3), upd_length hTk2 hTk]
        have hG3 := HG.out.moved HB1.out HK2.out hk (rs' := D.inL x.rs T B fun R => D.downR R k (blankR x.W s)) HOk.out ho hlen hu ht (fun V hV hU => hV.inL T B (fun _ _ hh => hh.downR hU k)) (fun v hv => by
          rw [← HUp.out] at hv
          rcases mem_emp hv with hv | hv
          · exact .inl (mem_upd hv)
          · exact .inr hv)
        have HF : Hid (MovPost g q L (⟨x.W, D.inL x.rs T B fun R => D.downR R k (blankR x.W s)⟩, ((x.rs.take (T + m)).drop (T + (m - k))).reverse) w (.returned (.slice a ma c)) w3) := Lib.hid ⟨a, ma, c, rfl, ((HRL.out.keptB (HK2.out.mono (fun i hi => by rw [List.mem_singleton.1 hi]; simp))).keptB (hk.mono (fun i hi => by rw [List.mem_singleton.1 hi]; simp))).sub (fun p hp => List.mem_cons_of_mem _ hp), ⟨_, cap, hG3.1⟩, hG3.2⟩
        clear ho hu ht hk hlen hG3
        go_wp2_with fail
        go_ret
        exact HF.out
end Go.Proofs.YtkggmcnocpgnbaaDoor.K
