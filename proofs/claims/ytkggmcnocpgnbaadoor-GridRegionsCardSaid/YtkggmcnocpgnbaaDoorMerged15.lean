/- The program's grid: rows that are answered; New. -/
import Derived.Test.YtkggmcnocpgnbaaDoorMerged14
import Derived.Test.YtkggmcnocpgnbaaDoorMerged5
import Derived.Test.YtkggmcnocpgnbaaDoorMerged7
namespace Go.Proofs.YtkggmcnocpgnbaaDoor.K
open Go.RowKit

/-- rows that are answered: a slice of them, in memory of its own -/
def RowsA (L : List Nat) (rs : List Ro) (w : World) (e : Ending) (w' : World) : Prop := ∃ a n c us, e = .returned (.slice a n c) ∧ RowsL .i32 L a n c rs w' ∧ OwnV 27 w.heap.size (.slice a n c) us w' ∧ RowsV .i32 us rs w' ∧ Below w.heap.size w w'
theorem rowsA_of {L : List Nat} {base : Nat} {rs : List Ro} {w w' : World} {v : Value} {us : List Rv} (hb : w.heap.size ≤ base) (hL : ∀ p ∈ L, p < w.heap.size) (ho : OwnV 27 base v us w') (hr : RowsV .i32 us rs w') (ht : ∀ u ∈ us, TyC base u w') (hB : Below w.heap.size w w') : RowsA L rs w (.returned v) w' := by
  obtain ⟨a, c, rfl, -⟩ := ho.shape
  exact ⟨a, _, c, us, rfl, (ho.weaken hb).rowsL hr (fun u hu => Off.fresh (m := base) (fun b off e => (ht u hu b off e).1) (fun p hp => by have := hL p hp; omega)) hL, ho.weaken hb, hr, hB⟩
theorem copyDown_any {L : List Nat} {a : Option Addr} {n c : Nat} {us : List Rv} {rs : List Ro} (w : World) (h : RvsIn a n c us w) (hr : RowsV .i32 us rs w) (hl : ∀ r ∈ rs, r.l.length ≤ 1000) (hn : us.length ≤ 1000) (hL : ∀ p ∈ L, p < w.heap.size) :
    Calls Tryd.prog 72 #[.func (.func 104) #[] #[.pointer (some ⟨w.heap.size, 0, none⟩)]] (w.alloc (.cells #[.slice a n c] 66)) (RowsA L rs w) := by
  obtain ⟨its, h1, h2⟩ := its_of hr hl
  have hb1 : Below w.heap.size w (w.alloc (.cells #[.slice a n c] 66)) := (Below.refl _ _).alloc (Nat.le_refl _) _
  have hlk := looksV_new h
  have hlen : its.length = us.length := by rw [← h1, List.length_map]
  refine (callsIn_wide (n := 10)).1 ((copied_in w 10 (by decide) _ _ (enters_of Tryd.func104 (by kernel_rfl) rfl) its (by omega) _ hb1 ?_).mono ?_)
  · refine down_own w 9 (by decide) _ w.heap.size a n c its (by omega) _ (by rw [h1]; exact hlk.below ((Below.refl _ _).alloc (Nat.le_refl _) _)) (fun b hb => ?_)
    have hall := hlk.all
    rw [← h1] at hall
    exact hall b (by
      unfold lookV at hb ⊢
      cases a <;> cases its <;> exact hb)
  · rintro e w' ⟨v, us', rfl, ho, hr', ht, hB⟩
    rw [h2] at hr'
    exact rowsA_of (by simp) hL ho hr' ht (hb1.trans (hB.mono (by simp)))
theorem copyUp_any {L : List Nat} {a : Option Addr} {n c : Nat} {us : List Rv} {rs : List Ro} (w : World) (h : RvsIn a n c us w) (hr : RowsV .i32 us rs w) (hl : ∀ r ∈ rs, r.l.length ≤ 1000) (hn : us.length ≤ 1000) (hL : ∀ p ∈ L, p < w.heap.size) :
    Calls Tryd.prog 72 #[.func (.func 105) #[] #[.pointer (some ⟨w.heap.size, 0, none⟩)]] (w.alloc (.cells #[.slice a n c] 66)) (RowsA L rs.reverse w) := by
  obtain ⟨its, h1, h2⟩ := its_of hr hl
  have hb1 : Below w.heap.size w (w.alloc (.cells #[.slice a n c] 66)) := (Below.refl _ _).alloc (Nat.le_refl _) _
  have hlk := looksV_new h
  have hlen : its.length = us.length := by rw [← h1, List.length_map]
  refine (callsIn_wide (n := 12)).1 ((copied_in w 12 (by decide) _ _ (enters_of Tryd.func105 (by kernel_rfl) rfl) its.reverse (by rw [List.length_reverse]; omega) _ hb1 ?_).mono ?_)
  · refine upw_own w 11 (by decide) _ w.heap.size a n c its (by omega) _ (by rw [h1]; exact hlk.below ((Below.refl _ _).alloc (Nat.le_refl _) _)) (fun b hb => ?_)
    have hall := hlk.all
    rw [← h1] at hall
    exact hall b (by
      unfold lookV at hb ⊢
      cases a <;> cases its <;> exact hb)
  · rintro e w' ⟨v, us', rfl, ho, hr', ht, hB⟩
    rw [List.map_reverse, h2] at hr'
    exact rowsA_of (by simp) hL ho hr' ht (hb1.trans (hB.mono (by simp)))

theorem RvsIn.sub {q n c : Nat} {us : List Rv} {w : World} (h : RvsIn (some ⟨q, 0, none⟩) n c us w) (t m : Nat) (hm : t + m ≤ n) : RvsIn (some ⟨q, t * 2, none⟩) m (c - t) ((us.take (t + m)).drop t) w := by
  have hl := h.len
  have hf := h.fit
  refine ⟨by rw [List.length_drop, List.length_take]; omega, by omega, by have := h.top; omega, ?_⟩
  rcases h.at_ with e | ⟨b, off, ha, hb, hi⟩
  · left; rw [e]; simp
  · cases ha
    refine .inr ⟨q, t * 2, rfl, hb, fun i u hu => ?_⟩
    rw [List.getElem?_drop, List.getElem?_take] at hu
    split at hu
    · have := hi (t + i) u hu
      rw [show t * 2 + i * 2 = 0 + (t + i) * 2 by omega]
      exact this
    · cases hu
set_option maxRecDepth 100000 in
set_option maxHeartbeats 4000000 in
theorem rows_any {L : List Nat} {g q : Nat} {x : Gd} {us : List Rv} {cap : Nat} (w : World) (h : GridAt g q x us cap w) (hL : ∀ p ∈ L, p < w.heap.size) :
    Calls Tryd.prog 38 #[.pointer (some ⟨g, 0, none⟩)] w (RowsA L x.rs w) := by
  have HC := Lib.hid (copyDown_any (L := L) w h.rin h.rv (fun r hr => by rw [h.ok.len r hr]; exact h.ok.w2) h.few.2 hL)
  have c1 := h.c1
  go_enter Tryd.func38, Tryd.ntmps38
  go_wp2_with fail
  refine (down_any _ _ _ w).mono ?_
  rintro e w' ⟨rfl, rfl⟩
  go_wp2_with fail
  refine HC.out.mono ?_
  rintro e w' ⟨a, n, c, us', rfl, h1, h2, h3, h4⟩
  have HF := Lib.hid (show RowsA L x.rs w (.returned (.slice a n c)) w' from ⟨a, n, c, us', rfl, h1, h2, h3, h4⟩)
  clear h1 h2 h3 h4 HC
  go_wp2_with fail
  go_ret
  exact HF.out
/-- the row at a place, or none -/
def rowAt (rs : List Ro) (y : Int) : Ro := if 0 ≤ y ∧ y < (rs.length : Int) then rs.getD y.toNat ⟨[], false⟩ else ⟨[], false⟩
theorem rowV_nil (rk : IntKind) (w : World) : RowV rk Rv.nil.val ⟨[], false⟩ w := ⟨none, 0, rfl, ⟨rfl, .inl rfl⟩, fun _ => rfl, Nat.le_refl _, by decide⟩
def RowA (r : Ro) (w : World) (e : Ending) (w' : World) : Prop := ∃ p : Rv, e = .returned p.val ∧ RowV .i32 p.val r w' ∧ Below w.heap.size w w'
set_option maxRecDepth 100000 in
set_option maxHeartbeats 4000000 in
theorem row_any {g q : Nat} {x : Gd} {us : List Rv} {cap : Nat} (y : Int) (w : World) (h : GridAt g q x us cap w) :
    Calls Tryd.prog 60 #[.pointer (some ⟨g, 0, none⟩), .int .i64 y] w (RowA (rowAt x.rs y) w) := by
  obtain ⟨rb, hrb⟩ : ∃ rb, w.heap.size = rb := ⟨_, rfl⟩
  obtain ⟨w1, hw1⟩ : ∃ w1, w.alloc (.cells #[.slice none 0 0, .bool false] 27) = w1 := ⟨_, rfl⟩
  have hb1 : Below w.heap.size w w1 := by rw [← hw1]; exact (Below.refl _ _).alloc (Nat.le_refl _) _
  have hR1 : RoB 27 rb (.slice none 0 0) false w1 := by rw [← hw1, ← hrb]; exact RoB.new _ _ _ _
  have h1 := h.below hb1
  have HH := Lib.hid (has_any y w1 h1)
  have hn := h.few
  have hfit := h.fit
  have HB1 := Lib.hid hb1
  have HR1 := Lib.hid hR1
  have HW1 := Lib.hid hw1
  have HRb := Lib.hid hrb
  have H1 := Lib.hid h1
  have c1 := h1.c1
  have hul := h.ulen
  clear hb1 hR1 hw1 h1
  obtain ⟨n, hne⟩ : ∃ n, us.length = n := ⟨_, rfl⟩
  rw [hne] at hn hfit HH c1 hul
  by_cases hy : 0 ≤ y ∧ y < (n : Int)
  · obtain ⟨k, rfl⟩ : ∃ k : Nat, y = (k : Int) := ⟨y.toNat, by omega⟩
    have hkn : k < n := by omega
    have hr : rowAt x.rs (k : Int) = x.rs.getD k ⟨[], false⟩ := by unfold rowAt; rw [if_pos (by rw [← hul]; exact hy)]; rfl
    rw [hr]
    have d0 : decide (0 ≤ (k : Int) ∧ (k : Int) < (n : Int)) = true := decide_eq_true hy
    rw [d0] at HH
    have hgk : x.rs[k]? = some (x.rs.getD k ⟨[], false⟩) := by rw [List.getD_eq_getElem?_getD, List.getElem?_eq_getElem (by omega)]; rfl
    obtain ⟨r, hre⟩ : ∃ r, x.rs.getD k ⟨[], false⟩ = r := ⟨_, rfl⟩
    rw [hre] at hgk ⊢
    have hsub := H1.out.rin.sub k 1 (by rw [hne]; omega)
    have hrs : (x.rs.take (k + 1)).drop k = [r] := by
      rw [List.take_add_one, hgk, List.drop_append_of_le_length (by rw [List.length_take]; omega), List.drop_of_length_le (by rw [List.length_take]; omega)]; rfl
    have hrv := (H1.out.rv.take (k + 1)).drop k
    rw [hrs] at hrv
    have HC := Lib.hid (copyDown_any (L := []) w1 hsub hrv (fun q' hq' => by rw [List.mem_singleton.1 hq', h.ok.len r (List.mem_of_getElem? hgk)]; exact h.ok.w2) (by rw [hrv.1]; simp) (fun _ hp => by cases hp))
    have hkc : (k : Int) + 1 ≤ cap := by omega
    have hkc2 : k + 1 ≤ cap := by omega
    have hck : ¬ cap = k := by omega
    have hk1 : k ≤ k + 1 := by omega
    have hks : k + 1 - k = 1 := by omega
    have hk3 : (k : Int) ≤ 1000 := by omega
    have hcm := hfit.2
    clear hy d0 hr hgk hre hsub hrs hrv hul hfit hne
    go_enter Tryd.func60, Tryd.ntmps60
    go_upto_region 1 with fail
    first | rw [HW1.out, HRb.out] | rw [HW1.out]
    go_wp2_with (go_at_call 78; refine HH.out.mono ?_; rintro e w' ⟨rfl, rfl⟩)
    refine (down_any _ _ _ w1).mono ?_
    rintro e w' ⟨rfl, rfl⟩
    go_wp2_with fail
    refine HC.out.mono ?_
    rintro e w2 ⟨a, m, c, us', rfl, -, ho, hv, hb2⟩
    obtain ⟨a', c', hae, hin, -, -⟩ := ho.shape
    cases hae
    have hl1 : us'.length = 1 := hv.1
    match us', hl1, hv, hin, ho with
    | [u], _, hv, hin, ho =>
      obtain ⟨b, off, rfl, hbl, hi⟩ := hin.at_.resolve_left (by simp)
      obtain ⟨hc0, hc1⟩ := hi 0 u rfl
      have hru := hv.2 0 u r rfl rfl
      rw [Nat.zero_mul, Nat.add_zero] at hc0 hc1
      have hR2 := HR1.out.below hb2 HR1.out.lt
      have s0 := hR2.c0
      have s1 := hR2.c1
      have f0 := hR2.fr 0
      have f1 := hR2.fr 1
      have hbr : b ≠ rb := by
        have := (ho.ownBlock b rfl).1
        have := HR1.out.lt
        omega
      have HRu := Lib.hid hru
      have HB2 := Lib.hid hb2
      have HR2 := Lib.hid hR2
      obtain ⟨ua, un, uc, ub⟩ := u
      simp only at hc0 hc1
      clear hv hin ho hi hl1 HC hru hb2 hR2
      go_wp2_with fail
      refine bodyPost_ret (v := .agg #[.slice ua un uc, .bool ub]) (by rw [results_cell (fn := Tryd.f60) rfl]; go_simp <;> rfl) rfl ?_
      exact ⟨⟨ua, un, uc, ub⟩, rfl, (HRu.out.setAt HR2.out _).setAt (HR2.out.set0 (v' := .slice ua un uc)) _, below_set2 (HB1.out.trans (HB2.out.mono HB1.out.size)) (by rw [HRb.out]; exact Nat.le_refl _)⟩
  · have hr : rowAt x.rs y = ⟨[], false⟩ := by unfold rowAt; rw [if_neg (by rw [← hul]; exact hy)]
    rw [hr]
    have d0 : decide (0 ≤ y ∧ y < (n : Int)) = false := decide_eq_false hy
    rw [d0] at HH
    have s0 := HR1.out.c0
    have s1 := HR1.out.c1
    have f0 := HR1.out.fr 0
    have f1 := HR1.out.fr 1
    clear hy d0 hr
    go_enter Tryd.func60, Tryd.ntmps60
    go_upto_region 1 with fail
    first | rw [HW1.out, HRb.out] | rw [HW1.out]
    go_wp2_with (go_at_call 78; refine HH.out.mono ?_; rintro e w' ⟨rfl, rfl⟩)
    refine bodyPost_ret (v := .agg #[.slice none 0 0, .bool false]) (by rw [results_cell (fn := Tryd.f60) rfl]; go_simp <;> rfl) rfl ?_
    refine ⟨Rv.nil, rfl, rowV_nil _ _, below_set2 HB1.out (by rw [HRb.out]; exact Nat.le_refl _)⟩
set_option maxRecDepth 100000 in
set_option maxHeartbeats 4000000 in
theorem gnew_any (W0 H0 : Int) (w : World) :
    Calls Tryd.prog 35 #[.int .i64 W0, .int .i64 H0] w fun e w' => ∃ g q, e = .returned (.pointer (some ⟨g, 0, none⟩)) ∧ w.heap.size ≤ g ∧ w.heap.size ≤ q ∧ Gr g q (newG W0 H0) w' ∧ Below w.heap.size w w' := by
  have hok := newG_ok W0 H0
  unfold newG at hok ⊢
  have H1 := Lib.hid (gsize_any W0 w)
  have H2 := Lib.hid (fun v => gsize_any H0 v)
  have hW1 := szN_pos W0
  have hW2 := szN_le W0
  have hH1 := szN_pos H0
  have hH2 := szN_le H0
  obtain ⟨W, hW⟩ : ∃ W, szN W0 = W := ⟨_, rfl⟩
  obtain ⟨H, hH⟩ : ∃ H, szN H0 = H := ⟨_, rfl⟩
  rw [hW] at H1 hok hW1 hW2 ⊢
  rw [hH] at H2 hok hH1 hH2 ⊢
  have hnW : nearN (W : Int) = W := by unfold nearN; omega
  have H3 := Lib.hid (rowBlank_any (W : Int) 0 w)
  rw [hnW] at H3
  have HOk := Lib.hid hok
  clear hok hW hH hnW
  go_enter Tryd.func35, Tryd.ntmps35
  go_upto_region 2 with (go_at_call 62; refine H1.out.mono ?_; rintro e w' ⟨rfl, rfl⟩)
  go_wp2_with fail
  refine H3.out.mono ?_
  rintro e w1 ⟨v1, rfl, hO1, hb1⟩
  obtain ⟨a1, c1, rfl, -⟩ := hO1.shape
  have hl1 : (blanks W 0).length = W := blanks_length _ _
  rw [hl1] at hO1 ⊢
  obtain ⟨p, hp⟩ : ∃ p, w1.heap.size = p := ⟨_, rfl⟩
  obtain ⟨w2, hw2⟩ : ∃ w2, w1.alloc (.cells #[.slice a1 W c1, .bool false] 27) = w2 := ⟨_, rfl⟩
  have hb2 : Below w1.heap.size w1 w2 := by rw [← hw2]; exact (Below.refl _ _).alloc (Nat.le_refl _) _
  have hs2 : w2.heap.size = p + 1 := by rw [← hw2, World.size_alloc, hp]
  have hc2 : ∀ j u, (vCells ⟨a1, W, c1, false⟩)[j]? = some u → w2.cell? ((⟨p, 0, none⟩ : Addr).add j) = some u := by
    intro j u hj
    have hadd : ((⟨p, 0, none⟩ : Addr).add j) = ⟨p, 0 + j, none⟩ := by unfold Addr.add; split <;> simp_all
    rw [hadd, Nat.zero_add, ← hw2, ← hp, World.cell?_alloc_new]
    simpa [vCells] using hj
  have H4 := Lib.hid (repeat_rows p 0 1 H (vCells ⟨a1, W, c1, false⟩) w2 rfl hc2 (by omega) (fun u hu => flatV_one [⟨a1, W, c1, false⟩] u (by simpa [flatV] using hu)) (by omega))
  rw [hs2] at H4
  have HO1 := Lib.hid hO1
  have HB1 := Lib.hid hb1
  have HB2 := Lib.hid hb2
  have HW2 := Lib.hid hw2
  have HPp := Lib.hid hp
  have hpw : w.heap.size ≤ p := by rw [← hp]; exact hb1.size
  clear hO1 hb1 hl1 hb2 hs2 hc2 hw2 hp H1 H3
  go_wp2_with fail
  first | rw [HW2.out, HPp.out] | rw [HW2.out]
  go_wp2_with (go_at_call 62; refine (H2.out _).mono ?_; rintro e w' ⟨rfl, rfl⟩)
  refine H4.out.mono ?_
  rintro e w3 ⟨rfl, hO3, hb3⟩
  have HO3 := Lib.hid hO3
  have HB3 := Lib.hid hb3
  have hs3 := hb3.size
  clear hO3 hb3 H4 H2
  go_wp2_with fail
  go_ret
  have hlen : (List.replicate H (blankR W 0)).length = H := List.length_replicate ..
  have hB13 : Below w.heap.size w w3 := (HB1.out.trans (HB2.out.mono HB1.out.size)).trans (HB3.out.mono (by omega))
  have hal : Below w3.heap.size w3 (w3.alloc (.cells #[.int .i64 (W : Int), .slice (some ⟨p + 1, 0, none⟩) H H] 130)) := (Below.refl _ _).alloc (Nat.le_refl _) _
  have hO1' := HO1.out.belowAll HB2.out
  have hb3' : Below w2.heap.size w2 w3 := HB3.out.mono (by have := HB3.out.size; have := HW2.out; have := HPp.out; rw [← HW2.out, World.size_alloc, HPp.out]; omega)
  have hO1'' := (hO1'.belowAll hb3').belowAll hal
  have hrv : RowV .i32 (Rv.val ⟨a1, W, c1, false⟩) (blankR W 0) (w3.alloc (.cells #[.int .i64 (W : Int), .slice (some ⟨p + 1, 0, none⟩) H H] 130)) := by
    have h := hO1''.rowV (r := blankR W 0)
    exact h
  have hty : TyC 0 ⟨a1, W, c1, false⟩ (w3.alloc (.cells #[.int .i64 (W : Int), .slice (some ⟨p + 1, 0, none⟩) H H] 130)) := (fun b off e => ⟨Nat.zero_le _, (TyC.of (b := false) hO1'' b off e).2⟩)
  refine ⟨w3.heap.size, p + 1, rfl, hB13.size, by omega, ⟨List.replicate H ⟨a1, W, c1, false⟩, H, HOk.out, ?_, ?_, RowsV.rep hrv H, fun u hu => ?_⟩, hB13.trans (hal.mono (by have := hB13.size; omega))⟩
  · rw [List.length_replicate]; exact World.alloc_heap_new _ _
  · have h := HO3.out
    unfold OwnV
    rw [List.length_replicate, flatV_rep]
    exact (U.weaken (U.belowAll h hal) (Nat.zero_le _))
  · rw [(List.mem_replicate.1 hu).2]; exact hty
end Go.Proofs.YtkggmcnocpgnbaaDoor.K

/- The program's grid: its size, another one like it, a row that is put. -/
namespace Go.Proofs.YtkggmcnocpgnbaaDoor.K
open Go.RowKit

/-! ## a row that is stored -/
theorem run_store_row {t T : TypeId} {bytes : Nat} (hI : RvT t T bytes) (base g cap : Nat) (l : List Rv) (i : Nat) (c : Rv) (w : World) (hown : OwnV T base (.slice (some ⟨g, 0, none⟩) l.length cap) l w) (hi : i < l.length) :
    ∃ w', (storeVar T ⟨g, i * 2, none⟩ (.agg (vArr c))).run Tryd.prog w = .ok () w' ∧ OwnV T base (.slice (some ⟨g, 0, none⟩) l.length cap) (l.set i c) w' ∧ w.grownBy w' (some g) := by
  obtain ⟨i0, hin, hz0, hz1, hz2⟩ := info_parts hI.info
  have hsz : ∀ w, (sizeOf T).run Tryd.prog w = .ok 2 w := fun w => by simp [sizeOf, typeInfo, hin, hz1]
  rcases hown.2 with ⟨h0, _⟩ | ⟨g', cap', cur, he, hbase, hg, hc, hm, hs, ht⟩
  · cases h0
  · obtain ⟨rfl, rfl⟩ : g = g' ∧ cap = cap' := by injection he with h1 h2 h3; injection h1 with h1; injection h1 with h1; exact ⟨h1, h3⟩
    have hcur : cur.toList.length = cap * 2 := by simpa using hs
    have hst := run_storeCells_at (P := Tryd.prog) g (i * 2) T (vCells c) 0 cur w hg (by simp [vCells, hs]; omega) (fun u hu => flatV_one [c] u (by simpa [flatV] using hu))
    simp only [Nat.add_zero] at hst
    have h3 : (vCells c).length = 2 := rfl
    rw [h3] at hst
    obtain ⟨C2, hC2⟩ : ∃ C2, (cur.toList.take (i * 2) ++ vCells c ++ cur.toList.drop (i * 2 + 2)) = C2 := ⟨_, rfl⟩
    rw [hC2] at hst
    refine ⟨w.setRow g C2.toArray, ?_, ⟨by rw [flatV_len, List.length_set], .inr ⟨g, cap, C2.toArray, by rw [List.length_set], hbase, setRow_heap w g cur C2.toArray T (0, 0) hg, by rw [List.length_set]; exact hc, hm, ?_, ?_⟩⟩, ⟨rfl, rfl, rfl, by simp [World.setRow], fun k _ hn => setRow_other w g k _ (fun e => hn (by rw [e]))⟩⟩
    · unfold storeVar
      simp only [Sem.run_bind, hsz, Result.andThen_ok, Value.cells, show (vArr c).size = 2 from rfl, ne_eq, not_true_eq_false, if_false, Sem.run_pure]
      exact hst
    · simp only [List.size_toArray]
      rw [← hC2]
      simp only [List.length_append, List.length_take, List.length_drop, hcur, h3]
      omega
    · show C2.take ((l.set i c).length * 2) = _
      rw [List.length_set, flatV_set l i c hi, ← hC2, ← ht]
      have ha : (cur.toList.take (i * 2)).length = i * 2 := by rw [List.length_take]; omega
      rw [List.take_append, List.take_append, List.length_append, ha, h3, List.take_of_length_le (l := cur.toList.take (i * 2)) (by rw [ha]; omega), List.take_of_length_le (l := vCells c) (by rw [h3]; omega), List.take_take, Nat.min_eq_left (by omega), List.drop_take]
theorem wpList_store_row {t T : TypeId} {bytes : Nat} (hI : RvT t T bytes) {ops : Array Oper} {rest : List Oper} {o : Oper} {z : Act} {w : World} {Q : Exit → Act → World → Prop} (hgd : o.guard = none) (hd : o.dst = none) (pa pv : Operand) (ho : o.op = .store T pa pv)
    (base g cap : Nat) (l : List Rv) (i : Nat) (c : Rv) (hpa : z.eval pa = .pointer (some ⟨g, i * 2, none⟩)) (hpv : z.eval pv = .agg (vArr c)) (hown : OwnV T base (.slice (some ⟨g, 0, none⟩) l.length cap) l w) (hi : i < l.length)
    (hK : ∀ w', OwnV T base (.slice (some ⟨g, 0, none⟩) l.length cap) (l.set i c) w' → w.grownBy w' (some g) → wpList Tryd.prog ops Q rest z w') : wpList Tryd.prog ops Q (o :: rest) z w :=
  wpList_plain hgd fun _ hK' => by
    obtain ⟨w', hr, h1, h2⟩ := run_store_row hI base g cap l i c w hown hi
    unfold Oper.wp execOp
    simp only [ho, hpa, hpv, Instr.storeAt, Instr.sureAddr, asAddr, Sem.run_bind, Sem.run_pure, Result.andThen_ok, hr]
    exact hK' _ _ (by rw [hd]; exact hK w' h1 h2)
/-! ## slices.Clone of rows -/
def SetOk (g q n cap W rb k : Nat) (ra : Option Addr) (rn rc : Nat) (rw0 bb : Bool) (l : List Cel) : Nat → Value → World → Prop
  | 0, u, _ => u = .pointer (some ⟨g, 0, none⟩)
  | 1, u, _ => u = .pointer (some ⟨g, 0, none⟩)
  | 2, u, _ => u = .pointer (some ⟨g, 1, none⟩)
  | 3, u, _ => u = .slice (some ⟨q, 0, none⟩) n cap
  | 4, u, _ => u = .int .i64 (k : Int)
  | 5, u, _ => u = .agg #[.slice ra rn rc, .bool rw0]
  | 6, u, _ => u = .pointer (some ⟨g, 0, none⟩)
  | 7, u, _ => u = .pointer (some ⟨g, 0, none⟩)
  | 8, u, _ => u = .pointer (some ⟨g, 0, none⟩)
  | 9, u, _ => u = .int .i64 (W : Int)
  | 10, u, w => ∃ x y, u = .agg #[.slice x W y, .bool bb] ∧ OwnC .i32 105 rb (.slice x W y) l w
  | 11, u, _ => u = .pointer (some ⟨q, k * 2, none⟩)
  | _, _, _ => True
theorem GridAt.set {g q : Nat} {x : Gd} {us : List Rv} {cap : Nat} {w w1 w2 : World} (h : GridAt g q x us cap w) (hb : Below w.heap.size w w1) {k : Nat} {u : Rv} {r : Ro} (hk : k < us.length) (hr : RowV .i32 u.val (resizeS r x.W) w1) (ht : TyC 0 u w1) (hrg : AllC Rng r.l)
    (ho : OwnV 27 0 (.slice (some ⟨q, 0, none⟩) us.length cap) (us.set k u) w2) (hg : w1.grownBy w2 (some q)) : GridAt g q (setG x k r) (us.set k u) cap w2 ∧ KeepB [g, q] w w2 := by
  have hkx : (k : Int) < x.rs.length := by rw [← h.ulen]; omega
  have hset : setG x k r = ⟨x.W, x.rs.set k (resizeS r x.W)⟩ := by unfold setG; rw [if_pos ⟨by omega, hkx⟩]; rfl
  have h1 := h.below hb
  obtain ⟨cs, hq⟩ := h1.qb
  have hne : ∀ v : Rv, TyC 0 v w1 → ∀ b off, v.a = some ⟨b, off, none⟩ → b < w1.heap.size → w2.heap[b]? = w1.heap[b]? := fun v hv b off e hl => hg.block b hl (fun e' => by
    cases e'
    exact hv.ne hq (by decide) _ off e rfl)
  have hgq := h.gq
  have hok := setG_ok h.ok k hrg
  rw [hset] at hok ⊢
  have hty : ∀ v ∈ us.set k u, TyC 0 v w1 := fun v hv => by
    rcases List.mem_or_eq_of_mem_set hv with hv | rfl
    · exact h1.ty v hv
    · exact ht
  refine ⟨⟨hok, ?_, by rw [List.length_set]; exact ho, (h1.rv.set hr k).moved hg.size (fun v hv => hne v (hty v hv)), fun v hv => (hty v hv).moved (hne v (hty v hv))⟩, (KeepB.of_below hb).trans ((KeepB.of_grown hg).mono (fun i hi => by rw [List.mem_singleton.1 hi]; simp))⟩
  rw [List.length_set]
  exact (hg.block g h1.lt.1 (fun e => hgq (by cases e; rfl))).trans h1.gb
set_option maxRecDepth 100000 in
set_option maxHeartbeats 4000000 in
theorem gset_any {g q : Nat} {x : Gd} (y : Int) {p : Rv} {r : Ro} (w : World) (h : Gr g q x w) (hp : RowV .i32 p.val r w) (hr : AllC Rng r.l) (hrn : r.l.length ≤ 1000) :
    Calls Tryd.prog 44 #[.pointer (some ⟨g, 0, none⟩), .int .i64 y, p.val] w fun e w' => e = .returned (.bool (decide (0 ≤ y ∧ y < (x.rs.length : Int)))) ∧ Gr g q (setG x y r) w' ∧ KeepB [g, q] w w' := by
  obtain ⟨us, cap, h⟩ := h
  rw [← h.ulen]
  obtain ⟨ra, rn, rc, rw0⟩ := p
  unfold Rv.val at hp ⊢
  simp only at hp ⊢
  obtain ⟨hrw, hri, hnil, hcp, hmx, hrl⟩ := hp.of
  obtain ⟨rb, hrb⟩ : ∃ rb, w.heap.size = rb := ⟨_, rfl⟩
  obtain ⟨w1, hw1⟩ : ∃ w1, w.alloc (.cells #[.slice ra rn rc, .bool rw0] 27) = w1 := ⟨_, rfl⟩
  have hb1 : Below w.heap.size w w1 := by rw [← hw1]; exact (Below.refl _ _).alloc (Nat.le_refl _) _
  have hR1 : RoB 27 rb (.slice ra rn rc) rw0 w1 := by rw [← hw1, ← hrb]; exact RoB.new _ _ _ _
  have h1 := h.below hb1
  have HH := Lib.hid (has_any y w1 h1)
  have HB1 := Lib.hid hb1
  have HW1 := Lib.hid hw1
  have HRb := Lib.hid hrb
  have HRo := Lib.hid hR1
  have HRl := Lib.hid hR1.lt
  have HG0 := Lib.hid h
  have HG1 := Lib.hid h1
  have HRi := Lib.hid (hri.belowAll hb1)
  have HNil := Lib.hid hnil
  have HCap := Lib.hid hcp
  have HMx := Lib.hid hmx
  have HRn : Hid (rn ≤ 1000) := Lib.hid (by omega)
  have HRw := Lib.hid hrw
  have HRg := Lib.hid hr
  have HC0 := Lib.hid h1.c0
  have HC1 := Lib.hid h1.c1
  have HGl := Lib.hid h1.lt.1
  have hn := h.few
  have hW := h.ok
  clear h h1 hb1 hw1 hrb hR1 hp hri hnil hcp hmx hrl hrn hr hrw
  by_cases hy : 0 ≤ y ∧ y < (us.length : Int)
  · have d0 : decide (0 ≤ y ∧ y < (us.length : Int)) = true := decide_eq_true hy
    rw [d0] at HH ⊢
    obtain ⟨k, rfl⟩ : ∃ k : Nat, y = (k : Int) := ⟨y.toNat, by omega⟩
    have hkn : k < us.length := by omega
    obtain ⟨n, hne⟩ : ∃ n, us.length = n := ⟨_, rfl⟩
    obtain ⟨W, hWe⟩ : ∃ W, x.W = W := ⟨_, rfl⟩
    rw [hne] at HC1 hkn hn
    rw [hWe] at HC0
    have HKn : Hid ((k : Int) < n) := Lib.hid (by omega)
    have HNe := Lib.hid hne
    have HWe := Lib.hid hWe
    obtain ⟨RL, hRL⟩ : ∃ RL, r.l = RL := ⟨_, rfl⟩
    rw [hRL] at HRi
    have hrr : (⟨RL, rw0⟩ : Ro) = r := by rw [← hRL, HRw.out]
    obtain ⟨L, hL⟩ : ∃ L, (resizeS r W).l = L := ⟨_, rfl⟩
    obtain ⟨bb, hbb⟩ : ∃ bb, (resizeS r W).wrapped = bb := ⟨_, rfl⟩
    have HRes : Hid ((resizeS ⟨RL, rw0⟩ (W : Int)).l = L) := Lib.hid (by rw [hrr]; exact hL)
    have HBb : Hid ((resizeS ⟨RL, rw0⟩ (W : Int)).wrapped = bb) := Lib.hid (by rw [hrr]; exact hbb)
    have HLen : Hid (L.length = W) := Lib.hid (by rw [← hL]; exact resize_len r W (by rw [← hWe]; exact hW.w2))
    have HLe := Lib.hid hL
    have HBe := Lib.hid hbb
    have HRs : Hid (rb ≤ w1.heap.size) := Lib.hid (by have := HRl.out; omega)
    clear hy d0 hne hWe hRL hrr hL hbb hW
    go_enter Tryd.func44, Tryd.ntmps44
    go_upto_region 1 with fail
    first | rw [HW1.out, HRb.out] | rw [HW1.out]
    go_upto_region 3 with (go_at_call 78; refine HH.out.mono ?_; rintro e w' ⟨rfl, rfl⟩)
    refine Go.Proofs.YtkggmcnocpgnbaaDoor.R.wp_region_tailT 12 (by kernel_rfl) (fun u => Below w1.heap.size w1 u) (fun u v => Below u.heap.size u v) (SetOk g q n cap W rb k ra rn rc rw0 bb L) (by rfl) (by kernel_rfl) (by decide) (by kernel_rfl) (by kernel_rfl) (by kernel_rfl) ?hC ?hOk ?hop ?hdone ((Below.refl _ _).drew)
    case hC => exact fun u v h1 h2 => h1.trans (h2.mono h1.size)
    case hOk =>
      intro i u w1 w2 h hr
      unfold SetOk at h ⊢
      split <;> first | exact True.intro | exact h | (obtain ⟨x, y, e, h1⟩ := h; exact ⟨x, y, e, h1.belowAll hr⟩) | (obtain ⟨x, y, c, e, h0, h1, h2⟩ := h; exact ⟨x, y, c, e, h0, (hr.block _ (Array.getElem?_eq_some_iff.1 h1).1).trans h1, h2.belowAll hr⟩)
    case hop =>
      refine ⟨?_, ?_, ?_, ?_, ?_, ?_, ?_, ?_, ?_, ?_, ?_, ?_, trivial⟩
      · intro z v hz hag hdep
        refine .inl ⟨rfl, fun K hK => ?_⟩
        have d0 : z.tmps.getD 0 undef = .pointer (some ⟨g, 0, none⟩) := hag.2.2 0 (by kernel_rfl)
        have e0 := d0
        rw [Array.getD_eq_getD_getElem?] at e0
        clear hdep hag 
        go_simp
        exact hK _ _ (Below.refl _ _) rfl
      · intro z v hz hag hdep
        refine .inl ⟨rfl, fun K hK => ?_⟩
        have d11 : z.tmps.getD 11 undef = .pointer (some ⟨g, 0, none⟩) := hdep { on := 0, ground := .data } (by simp) rfl _ _ rfl rfl
        have e11 := d11
        rw [Array.getD_eq_getD_getElem?] at e11
        clear hdep hag 
        go_simp
        exact hK _ _ (Below.refl _ _) rfl
      · intro z v hz hag hdep
        refine .inl ⟨rfl, fun K hK => ?_⟩
        have d12 : z.tmps.getD 12 undef = .pointer (some ⟨g, 0, none⟩) := hdep { on := 1, ground := .data } (by simp) rfl _ _ rfl rfl
        have e12 := d12
        rw [Array.getD_eq_getD_getElem?] at e12
        clear hdep hag 
        go_simp
        exact hK _ _ (Below.refl _ _) rfl
      · intro z v hz hag hdep
        refine .inl ⟨rfl, fun K hK => ?_⟩
        have d13 : z.tmps.getD 13 undef = .pointer (some ⟨g, 1, none⟩) := hdep { on := 2, ground := .data } (by simp) rfl _ _ rfl rfl
        have e13 := d13
        rw [Array.getD_eq_getD_getElem?] at e13
        have l0 := (hz.cell (p := ⟨g, 1, none⟩) HGl.out).trans HC1.out
        clear hz
        clear hdep hag 
        go_simp
        exact hK _ _ (Below.refl _ _) rfl
      · intro z v hz hag hdep
        refine .inl ⟨rfl, fun K hK => ?_⟩
        have d1 : z.tmps.getD 1 undef = .int .i64 (k : Int) := hag.2.2 1 (by kernel_rfl)
        have e1 := d1
        rw [Array.getD_eq_getD_getElem?] at e1
        clear hdep hag 
        go_simp
        exact hK _ _ (Below.refl _ _) rfl
      · intro z v hz hag hdep
        refine .inl ⟨rfl, fun K hK => ?_⟩
        have d5 : z.tmps.getD 5 undef = .pointer (some ⟨rb, 0, none⟩) := hag.2.2 5 (by kernel_rfl)
        have e5 := d5
        rw [Array.getD_eq_getD_getElem?] at e5
        have l0 := (hz.cell (p := ⟨rb, 0, none⟩) HRl.out).trans HRo.out.c0
        have l1 := (hz.cell (p := ⟨rb, 1, none⟩) HRl.out).trans HRo.out.c1
        clear hz
        clear hdep hag 
        go_simp
        exact hK _ _ (Below.refl _ _) rfl
      · intro z v hz hag hdep
        refine .inl ⟨rfl, fun K hK => ?_⟩
        have d0 : z.tmps.getD 0 undef = .pointer (some ⟨g, 0, none⟩) := hag.2.2 0 (by kernel_rfl)
        have e0 := d0
        rw [Array.getD_eq_getD_getElem?] at e0
        clear hdep hag 
        go_simp
        exact hK _ _ (Below.refl _ _) rfl
      · intro z v hz hag hdep
        refine .inl ⟨rfl, fun K hK => ?_⟩
        have d17 : z.tmps.getD 17 undef = .pointer (some ⟨g, 0, none⟩) := hdep { on := 6, ground := .data } (by simp) rfl _ _ rfl rfl
        have e17 := d17
        rw [Array.getD_eq_getD_getElem?] at e17
        clear hdep hag 
        go_simp
        exact hK _ _ (Below.refl _ _) rfl
      · intro z v hz hag hdep
        refine .inl ⟨rfl, fun K hK => ?_⟩
        have d18 : z.tmps.getD 18 undef = .pointer (some ⟨g, 0, none⟩) := hdep { on := 7, ground := .data } (by simp) rfl _ _ rfl rfl
        have e18 := d18
        rw [Array.getD_eq_getD_getElem?] at e18
        clear hdep hag 
        go_simp
        exact hK _ _ (Below.refl _ _) rfl
      · intro z v hz hag hdep
        refine .inl ⟨rfl, fun K hK => ?_⟩
        have d19 : z.tmps.getD 19 undef = .pointer (some ⟨g, 0, none⟩) := hdep { on := 8, ground := .data } (by simp) rfl _ _ rfl rfl
        have e19 := d19
        rw [Array.getD_eq_getD_getElem?] at e19
        have l0 := (hz.cell (p := ⟨g, 0, none⟩) HGl.out).trans HC0.out
        clear hz
        clear hdep hag 
        go_simp
        exact hK _ _ (Below.refl _ _) rfl
      · intro z v hz hag hdep
        refine .inl ⟨rfl, fun K hK => ?_⟩
        have d16 : z.tmps.getD 16 undef = .agg #[.slice ra rn rc, .bool rw0] := hdep { on := 5, ground := .data } (by simp) rfl _ _ rfl rfl
        have e16 := d16
        rw [Array.getD_eq_getD_getElem?] at e16
        have d20 : z.tmps.getD 20 undef = .int .i64 (W : Int) := hdep { on := 9, ground := .data } (by simp) rfl _ _ rfl rfl
        have e20 := d20
        rw [Array.getD_eq_getD_getElem?] at e20
        have HC := Lib.hid (rowResize_any ra rn rc rw0 RL (W : Int) v (HRi.out.belowAll hz) HNil.out HCap.out HMx.out (by have := HRn.out; omega))
        have HZs := Lib.hid hz.size
        clear hdep hag hz
        go_simp
        refine HC.out.mono ?_
        rintro e w' ⟨v', rfl, h1, h2⟩
        obtain ⟨x3, y3, rfl, -⟩ := h1.shape
        rw [HRes.out, HLen.out] at h1 ⊢
        try rw [HBb.out]
        exact hK _ _ h2 ⟨x3, y3, rfl, h1.weaken (Nat.le_trans HRs.out HZs.out)⟩
      · intro z v hz hag hdep
        refine .inl ⟨rfl, fun K hK => ?_⟩
        have d14 : z.tmps.getD 14 undef = .slice (some ⟨q, 0, none⟩) n cap := hdep { on := 3, ground := .data } (by simp) rfl _ _ rfl rfl
        have e14 := d14
        rw [Array.getD_eq_getD_getElem?] at e14
        have d15 : z.tmps.getD 15 undef = .int .i64 (k : Int) := hdep { on := 4, ground := .data } (by simp) rfl _ _ rfl rfl
        have e15 := d15
        rw [Array.getD_eq_getD_getElem?] at e15
        have hkn := HKn.out
        clear hz
        clear hdep hag 
        go_simp
        exact hK _ _ (Below.refl _ _) rfl
    case hdone =>
      intro z v hz hag hok hno
      clear hno
      obtain ⟨x3, y3, d21, hO⟩ : ∃ x3 y3, z.tmps.getD 21 undef = .agg #[.slice x3 W y3, .bool bb] ∧ OwnC .i32 105 rb (.slice x3 W y3) L v := hok 10 _ 21 (by decide) rfl rfl
      have d22 : z.tmps.getD 22 undef = .pointer (some ⟨q, k * 2, none⟩) := hok 11 _ 22 (by decide) rfl rfl
      obtain ⟨uu, hu, hzz⟩ := Go.Proofs.YtkggmcnocpgnbaaDoor.R.agree_frame [11, 12, 13, 14, 15, 16, 17, 18, 19, 20, 21, 22] rfl hag
      have e21 := (hu 21).trans d21
      have e22 := (hu 22).trans d22
      subst hzz
      have HZ := Lib.hid hz
      have HO := Lib.hid hO
      clear hz hO
      simp only [List.foldl_cons, List.foldl_nil]
      rw [e21, e22]
      clear e21 d21 e22 d22 hu hag hok
      try dsimp only [Exit.then]
      try dsimp only [List.drop]
      simp only [List.setIfInBounds_toArray, List.set_cons_succ, List.set_cons_zero]
      generalize uu 11 = u11', uu 12 = u12', uu 13 = u13', uu 14 = u14', uu 15 = u15', uu 16 = u16', uu 17 = u17', uu 18 = u18', uu 19 = u19', uu 20 = u20'
      clear uu

      have HOv : Hid (OwnV 27 0 (.slice (some ⟨q, 0, none⟩) us.length cap) us v) := Lib.hid (HG1.out.own.belowAll HZ.out)
      refine wpList_store_row rowsT rfl rfl _ _ rfl 0 q cap us k ⟨x3, W, y3, bb⟩ rfl rfl HOv.out (by rw [HNe.out]; exact hkn) ?_
      intro w2 ho2 hg2
      have hu : RowV .i32 (Rv.val ⟨x3, W, y3, bb⟩) (resizeS r x.W) v := by
        have h := HO.out
        rw [← HLe.out] at h
        have h' := h.rowV
        rw [HBe.out] at h'
        rw [HWe.out]
        exact h'
      have hty : TyC 0 ⟨x3, W, y3, bb⟩ v := fun b off e => ⟨Nat.zero_le _, (TyC.of (b := bb) HO.out b off e).2⟩
      have hfin := HG0.out.set (HB1.out.trans (HZ.out.mono HB1.out.size)) (k := k) (r := r) (by rw [HNe.out]; exact hkn) hu hty HRg.out ho2 hg2
      have HF := Lib.hid hfin
      clear ho2 hg2 hu hty hfin
      go_wp2_with fail
      go_ret
      exact ⟨rfl, ⟨_, _, HF.out.1⟩, HF.out.2⟩
  · have d0 : decide (0 ≤ y ∧ y < (us.length : Int)) = false := decide_eq_false hy
    rw [d0] at HH ⊢
    have hset : setG x y r = x := by unfold setG; rw [if_neg (by rw [← HG0.out.ulen]; exact hy)]
    rw [hset]
    clear hy d0 hset
    go_enter Tryd.func44, Tryd.ntmps44
    go_upto_region 1 with fail
    first | rw [HW1.out, HRb.out] | rw [HW1.out]
    go_wp2_with (go_at_call 78; refine HH.out.mono ?_; rintro e w' ⟨rfl, rfl⟩)
    go_ret
    exact ⟨rfl, ⟨_, _, HG1.out⟩, KeepB.of_below HB1.out⟩
end Go.Proofs.YtkggmcnocpgnbaaDoor.K
