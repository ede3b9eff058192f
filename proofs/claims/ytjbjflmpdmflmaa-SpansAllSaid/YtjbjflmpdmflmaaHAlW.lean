/- SpansAll: of a span's numbers each is either in a set, or missing. -/
import Derived.Test.YtjbjflmpdmflmaaHFit
import Derived.Test.YtjbjflmpdmflmaaRelP
namespace Go.Proofs.Ytjbjflmpdmflmaa.H
open Go.RowKit

theorem pair_oneR {g : Nat} {X1 X2 : Int} {w : World} (h : w.heap[g]? = some (.cells #[.int .i64 X1, .int .i64 X2] 24 (0, 0))) : PairsIn .i64 (some ⟨g, 0, none⟩) 1 1 [(X1, X2)] w :=
  ⟨rfl, Nat.le_refl _, by decide, .inr ⟨g, 0, rfl, (Array.getElem?_eq_some_iff.1 h).1, fun i u hi => by
    match i, hi with
    | 0, hi => cases hi; exact ⟨by rw [cell_block h]; rfl, by rw [cell_block h]; rfl⟩
    | i + 1, hi => simp at hi⟩⟩
theorem tot_take_pos : ∀ {l : List Sp} {k : Nat}, (∀ x ∈ l, x.1 ≤ x.2) → 0 ≤ tot (l.take k) ∧ tot (l.take k) ≤ tot l
  | [], k, _ => by simp [tot]
  | x :: l, 0, h => by
    have h1 := tot_take_pos (l := l) (k := l.length) (fun y hy => h y (List.mem_cons_of_mem _ hy))
    rw [List.take_length] at h1
    have := h x List.mem_cons_self
    simp only [List.take_zero, tot]; omega
  | x :: l, k + 1, h => by
    have h1 := tot_take_pos (l := l) (k := k) (fun y hy => h y (List.mem_cons_of_mem _ hy))
    have := h x List.mem_cons_self
    simp only [List.take_succ_cons, tot]; omega
theorem TwoV.got2 {b d : Nat} {l m L1 L2 : List Sp} {v1 v2 : Value} {W w w' : World} (h : Two b d l m W w) (h1 : OwnP .i64 38 w.heap.size v1 L1 w') (h2 : OwnP .i64 38 w.heap.size v2 L2 w') (hb : Below w.heap.size w w') : TwoV b d l m [(v1, L1), (v2, L2)] W w' := by
  obtain ⟨M, N, k1, k2, k3, k4, k5, k6⟩ := h
  have main : ∀ (v : Value) (L : List Sp), OwnP .i64 38 w.heap.size v L w' → OwnP .i64 38 0 v L w' ∧ ∀ q, v.ownBlock = some q → q ∉ M ∧ q ∉ N := fun v L hv => ⟨hv.weaken (Nat.zero_le _), fun q hq => ⟨fun hm => absurd (k1.lt q hm) (by have := (hv.ownBlock q hq).1; omega), fun hm => absurd (k2.lt q hm) (by have := (hv.ownBlock q hq).1; omega)⟩⟩
  refine ⟨M, N, k1.below hb, k2.below hb, k3, k4, k5, k6.trans (hb.mono k6.size), fun e he => ?_⟩
  simp only [List.mem_cons, List.not_mem_nil, or_false] at he
  rcases he with rfl | rfl
  · exact main _ _ h1
  · exact main _ _ h2
theorem one_nm {x : Sp} (h : (cnt x).1 < (cnt x).2) : Nm [cnt x] := ⟨⟨near_lo _, h, trivial⟩, fun y hy => by rw [List.mem_singleton.1 hy]; exact near_hi _⟩
theorem all_some {O : List Sp} (hO : Nm O) (x : Sp) (h : (cnt x).1 < (cnt x).2) : tot (inS O x ++ missS O x) = (cnt x).2 - (cnt x).1 ∧ addsS (addsS [] (inS O x)) (missS O x) = [cnt x] := by
  have hu : ∀ n, mem n [cnt x] ↔ mem n (inS O x) ∨ mem n (missS O x) := fun n => by
    rw [inS_mem n hO, missS_mem n hO]
    simp only [mem, or_false]
    by_cases hm : mem n O <;> simp [hm]
  constructor
  · rw [tot_append, tot_sum (hO.in_ x) (hO.miss x) (one_nm h) (fun n => by rw [inS_mem n hO, missS_mem n hO]; rintro ⟨⟨-, h1⟩, -, h2⟩; exact h2 h1) hu]
    simp [tot]
  · refine Nm.ext ((Nm.nil.adds _).adds _) (one_nm h) fun n => ?_
    rw [addsN_mem n (Nm.nil.adds _) (hO.miss x), addsN_mem n Nm.nil (hO.in_ x), hu]
    simp [mem]
theorem all_none {O : List Sp} (hO : Nm O) (x : Sp) (h : ¬ (cnt x).1 < (cnt x).2) : inS O x = [] ∧ missS O x = [] := by
  constructor
  · refine Nm.ext (hO.in_ x) Nm.nil fun n => ?_
    rw [inS_mem n hO]
    simp only [mem, iff_false]
    rintro ⟨⟨h1, h2⟩, -⟩
    omega
  · refine Nm.ext (hO.miss x) Nm.nil fun n => ?_
    rw [missS_mem n hO]
    simp only [mem, iff_false]
    rintro ⟨⟨h1, h2⟩, -⟩
    omega
theorem Nm.span {l : List Sp} (h : Nm l) {x : Sp} (hx : x ∈ l) : lo ≤ x.1 ∧ x.1 ≤ x.2 ∧ x.2 ≤ hi := by
  obtain ⟨i, hi⟩ := List.mem_iff_getElem?.1 hx
  exact ⟨h.1.begins x hx, Int.le_of_lt (h.1.full i x hi), h.2 x hx⟩
def AlOk8 (B s xb : Nat) (s1 t1 : Int) (I Ms : List Sp) : Nat → Value → World → Prop
  | 0, u, _ => u = .agg #[.int .i64 s1, .int .i64 t1]
  | 1, u, w => ∃ x, u = x ∧ OwnP .i64 38 B x I w
  | 2, u, _ => u = .agg #[.int .i64 s1, .int .i64 t1]
  | 3, u, w => ∃ x, u = x ∧ OwnP .i64 38 B x Ms w
  | 4, u, w => ∃ x, u = x ∧ OwnP .i64 38 B x I w
  | 5, u, w => ∃ x, u = x ∧ OwnP .i64 38 B x Ms w
  | _, _, _ => True
def AlOk20 (fb s : Nat) (X1 X2 : Int) : Nat → Value → World → Prop
  | 0, u, _ => u = .int .i64 (X2 - X1)
  | 1, u, _ => u = .pointer (some ⟨fb, 1, none⟩)
  | 2, u, _ => u = .int .i64 X2
  | 3, u, _ => u = .pointer (some ⟨fb, 0, none⟩)
  | 4, u, _ => u = .int .i64 X1
  | 5, u, _ => u = .int .i64 (X2 - X1)
  | 6, u, _ => u = .bool true
  | 7, u, _ => u = .bool true
  | 8, u, w => ∃ a c, u = .slice a 1 c ∧ PairsIn .i64 a 1 c [(X1, X2)] w
  | 9, u, _ => u = .agg #[.int .i64 X1, .int .i64 X2]
  | 10, u, w => ∃ gg, u = .slice (some ⟨gg, 0, none⟩) 1 1 ∧ PairsIn .i64 (some ⟨gg, 0, none⟩) 1 1 [(X1, X2)] w
  | 11, u, _ => u = .bool true
  | 12, u, _ => u = .bool true
  | 13, u, _ => u = .bool true
  | _, _, _ => True
set_option maxRecDepth 100000 in
set_option maxHeartbeats 16000000 in
theorem all_walk (a : Option Addr) (n c : Nat) (l : List Sp) (s1 t1 : Int) (W : World) (h : PairsIn .i64 a n c l W) :
    Calls Try.prog 4 #[.slice a n c, .agg #[.int .i64 s1, .int .i64 t1]] W (BPost true W) := by
  obtain ⟨P, hP⟩ : ∃ P, BPost true W = P := ⟨_, rfl⟩
  rw [hP]
  have HP := Lib.hid hP
  obtain ⟨N, hN⟩ : ∃ N, min n 20 = N := ⟨_, rfl⟩
  have hNn : N ≤ n := by omega
  have hN20 : N ≤ 20 := by omega
  have hnc := h.fit
  have htop := h.top
  obtain ⟨L, hL⟩ : ∃ L, l.take N = L := ⟨_, rfl⟩
  have hF := h.front hNn
  rw [hL] at hF
  have HF := Lib.hid hF
  have HLn : Hid (L.length = N) := Lib.hid hF.len.symm
  obtain ⟨xb, hxb⟩ : ∃ xb, xb = W.heap.size := ⟨_, rfl⟩
  obtain ⟨W0, hW0⟩ : ∃ W0, W0 = W.alloc (.cells #[.int .i64 s1, .int .i64 t1] 24) := ⟨_, rfl⟩
  have HXB : Hid (W0.heap[xb]? = some (.cells #[.int .i64 s1, .int .i64 t1] 24 (0, 0))) := Lib.hid (by rw [hW0, hxb]; exact heap_alloc_new _ _)
  have HB0 : Hid (Below W.heap.size W W0) := Lib.hid (by rw [hW0]; exact alloc_below _ _)
  have HA := Lib.hid (awake_any W0)
  have HXb := Lib.hid hxb
  have HW0 := Lib.hid hW0
  clear hP h hL hF hxb hW0
  go_enter Try.func4, Try.ntmps4
  go_wp2_with fail
  rw [← HW0.out, ← HXb.out]
  refine HA.out.mono ?_
  rintro e W1 ⟨rfl, hb1⟩
  obtain ⟨s, hs⟩ : ∃ s, s = W1.heap.size := ⟨_, rfl⟩
  obtain ⟨W2, hW2⟩ : ∃ W2, W2 = (W1.alloc (.cells #[.slice none 0 0] 28)).alloc (.cells #[.slice none 0 0] 28) := ⟨_, rfl⟩
  have h2 : Two s (s + 1) [] [] W1 W2 := by rw [hW2, hs]; exact Two.new W1 _ rfl
  have HX1 : Hid (W1.heap[xb]? = some (.cells #[.int .i64 s1, .int .i64 t1] 24 (0, 0))) := Lib.hid (heap_moved HXB.out hb1)
  have HT := Lib.hid h2
  have HS := Lib.hid hs
  have HW := Lib.hid hW2
  have HB1 : Hid (Below W.heap.size W W1) := Lib.hid (HB0.out.trans (hb1.mono HB0.out.size))
  clear h2 hs hW2 hb1 HA HXB HB0 HW0 HXb
  go_wp2_with fail
  rw [← HW.out, ← HS.out]
  go_loopw [7] (fun i wr => ∃ k : Nat, i = .int .i64 (k : Int) ∧ k ≤ N ∧ Hid (Two s (s + 1) (addsS [] (L.take k)) [] W1 wr)) (fun i _ => N - (intOf i).toNat)
  case atStart => exact ⟨0, rfl, by omega, HT⟩
  case round =>
    rename_i K hK
    obtain ⟨k, rfl, hk, HF2⟩ := hrel
    clear HT HW
    by_cases hlt : k < N
    · have hd : decide (k < n) = true := decide_eq_true (by omega)
      have hd2 : decide (k < 20) = true := decide_eq_true (by omega)
      have hkI : (k : Int) < n := by omega
      have hkI2 : (k : Int) < 20 := by omega
      have hkn : k < n := by omega
      have hb2 : Below W.heap.size W wr := HB1.out.trans (HF2.out.bel.mono HB1.out.size)
      obtain ⟨g, off, x, rfl, hg, hx, k0w, k1w⟩ := HF.out.one hlt
      have k0 := (hb2.cell (p := ⟨g, off + k * 2, none⟩) hg).trans k0w
      have k1 := (hb2.cell (p := ⟨g, off + k * 2 + 1, none⟩) hg).trans k1w
      obtain ⟨x1, x2⟩ := x
      simp only at k0 k1
      have HX2 := Lib.hid (addsS_take L k _ hx)
      have hl1 : (addsS [] (L.take k)).length < 100000 := by have := addsS_len [] (L.take k); simp at this; omega
      obtain ⟨s1', hs1⟩ : ∃ s1', wr.heap.size = s1' := ⟨_, rfl⟩
      have HC1 := Lib.hid (HF2.out.act fun M hM => add_one x1 x2 hM (Nm.nil.adds _) hl1 s1' hs1)
      have HS1 := Lib.hid hs1
      clear hb2 hx hl1 hs1 hg k0w k1w
      go_wp2_with fail
      rw [HS1.out]
      refine HC1.out.mono ?_
      rintro e w3 ⟨rfl, h3⟩
      rw [← HX2.out] at h3
      have H4 := Lib.hid h3
      clear h3 HC1 HS1 HX2
      go_wp2_with fail
      go_roundw
      case rel => exact ⟨k + 1, by go_num, by omega, H4⟩
      case measure => simp [intOf]; omega
    · obtain rfl : k = N := by omega
      have hor : k = n ∧ (decide (k < n) = false) ∨ k = 20 ∧ k < n ∧ decide (k < n) = true := by
        by_cases hkn : k < n
        · exact .inr ⟨by omega, hkn, decide_eq_true hkn⟩
        · exact .inl ⟨by omega, decide_eq_false hkn⟩
      have e1 : L.take k = L := List.take_of_length_le (by rw [HLn.out]; exact Nat.le_refl _)
      have hT := HF2.out
      rw [e1] at hT
      have hln : (addsS [] L).length ≤ 1000 := by have := addsS_len [] L; rw [HLn.out] at this; simp at this; omega
      have hNm : Nm (addsS [] L) := Nm.nil.adds _
      obtain ⟨O, hO⟩ : ∃ O, addsS [] L = O := ⟨_, rfl⟩
      rw [hO] at hT hNm hln
      have HNm := Lib.hid hNm
      have HT0 := Lib.hid hT
      have HLn2 := Lib.hid hln
      have HK := Lib.hid hK
      clear hT hNm hO e1 HF2 hlt HF HLn hN20 hk hN hln hnc htop hNn hK
      suffices hrest : ∀ (u2 u8 u9 u10 u11 u12 u13 u14 u15 u16 u17 u18 u19 u20 u21 u22 u23 u24 u25 u26 u27 u28 u29 u30 u31 u32 u33 u34 u35 u36 u37 u38 u39 u40 u41 u42 u43 u44 u45 u46 u47 u48 u49 u50 u51 u52 u53 u54 u55 u56 u57 u58 u59 u60 u61 u62 u63 u64 u65 u66 u67 u68 u69 u70 u71 u72 u73 u74 u75 u76 u77 u78 u79 u80 u81 u82 u83 : Value), K { tmps := #[.slice a n c, .agg #[.int .i64 s1, .int .i64 t1], u2, .pointer (some ⟨xb, 0, none⟩), .bool false, .pointer (some ⟨s, 0, none⟩), .pointer (some ⟨s + 1, 0, none⟩), .int .i64 (k : Int), u8, u9, u10, u11, u12, u13, u14, u15, u16, u17, u18, u19, u20, u21, u22, u23, u24, u25, u26, u27, u28, u29, u30, u31, u32, u33, u34, u35, u36, u37, u38, u39, u40, u41, u42, u43, u44, u45, u46, u47, u48, u49, u50, u51, u52, u53, u54, u55, u56, u57, u58, u59, u60, u61, u62, u63, u64, u65, u66, u67, u68, u69, u70, u71, u72, u73, u74, u75, u76, u77, u78, u79, u80, u81, u82, u83], defers := [] } wr by
        have HR := Lib.hid hrest
        clear hrest
        rcases hor with ⟨he, hd⟩ | ⟨he, hkn, hd⟩
        · subst he
          go_wp2_with fail
          exact HR.out _ _ _ _ _ _ _ _ _ _ _ _ _ _ _ _ _ _ _ _ _ _ _ _ _ _ _ _ _ _ _ _ _ _ _ _ _ _ _ _ _ _ _ _ _ _ _ _ _ _ _ _ _ _ _ _ _ _ _ _ _ _ _ _ _ _ _ _ _ _ _ _ _ _ _ _ _
        · subst he
          go_wp2_with fail
          exact HR.out _ _ _ _ _ _ _ _ _ _ _ _ _ _ _ _ _ _ _ _ _ _ _ _ _ _ _ _ _ _ _ _ _ _ _ _ _ _ _ _ _ _ _ _ _ _ _ _ _ _ _ _ _ _ _ _ _ _ _ _ _ _ _ _ _ _ _ _ _ _ _ _ _ _ _ _ _
      clear hor
      intro u2 u8 u9 u10 u11 u12 u13 u14 u15 u16 u17 u18 u19 u20 u21 u22 u23 u24 u25 u26 u27 u28 u29 u30 u31 u32 u33 u34 u35 u36 u37 u38 u39 u40 u41 u42 u43 u44 u45 u46 u47 u48 u49 u50 u51 u52 u53 u54 u55 u56 u57 u58 u59 u60 u61 u62 u63 u64 u65 u66 u67 u68 u69 u70 u71 u72 u73 u74 u75 u76 u77 u78 u79 u80 u81 u82 u83
      refine HK.out _ _ ?_
      clear HK
      obtain ⟨I, hI⟩ : ∃ I, inS O (s1, t1) = I := ⟨_, rfl⟩
      obtain ⟨Ms, hMs⟩ : ∃ Ms, missS O (s1, t1) = Ms := ⟨_, rfl⟩
      obtain ⟨B, hB⟩ : ∃ B, wr.heap.size = B := ⟨_, rfl⟩
      have HI := Lib.hid hI
      have HMs := Lib.hid hMs
      have HBs := Lib.hid hB
      clear hI hMs hB
      go_upto_region 8 with fail
      refine Go.Proofs.Ytjbjflmpdmflmaa.R.wp_region_prog [] (by kernel_rfl) (fun _ _ v => (Two s (s + 1) O [] W1 v ∧ Below wr.heap.size wr v)) (fun a b => Below a.heap.size a b) (AlOk8 B s xb s1 t1 I Ms) (by rfl) (by kernel_rfl) (by kernel_rfl) (by kernel_rfl) ?hcong ?hOk ?hop ?hdone ?h0
      case hcong => intro k f f2 u hs hst; exact hst
      case hOk => intro i u w1 w2 h hr; unfold AlOk8 at h ⊢; split at h <;> first | exact h | (obtain ⟨x, e, h1⟩ := h; exact ⟨x, e, h1.belowAll hr⟩) | (obtain ⟨x, y, e, h1⟩ := h; exact ⟨x, y, e, h1.belowAll hr⟩)
      case h0 => exact ⟨HT0.out.below ((Below.refl _ _).drew), (Below.refl _ _).drew⟩
      case hop =>
        refine ⟨?_, ?_, ?_, ?_, ?_, ?_, trivial⟩
        · intro k z v hst hag hdep
          refine .inl ⟨rfl, fun K hK => ?_⟩
          have d3 : z.tmps.getD 3 undef = .pointer (some ⟨xb, 0, none⟩) := hag.2.2 3 (by kernel_rfl)
          have e3 := d3
          rw [Array.getD_eq_getD_getElem?] at e3
          have hst : (Two s (s + 1) O [] W1 v ∧ Below wr.heap.size wr v) := hst
          have hxr := heap_moved HX1.out hst.1.bel
          have l0 : v.cell? ⟨xb, 0, none⟩ = some (.int .i64 s1) := by rw [cell_block hxr]; rfl
          have l1 : v.cell? ⟨xb, 1, none⟩ = some (.int .i64 t1) := by rw [cell_block hxr]; rfl
          clear hxr
          have HSt := Lib.hid hst
          clear hdep hag hst
          go_simp
          exact hK _ _ (Below.refl _ _) rfl HSt.out
        · intro k z v hst hag hdep
          refine .inl ⟨rfl, fun K hK => ?_⟩
          have d5 : z.tmps.getD 5 undef = .pointer (some ⟨s, 0, none⟩) := hag.2.2 5 (by kernel_rfl)
          have e5 := d5
          rw [Array.getD_eq_getD_getElem?] at e5
          have d32 : z.tmps.getD 32 undef = .agg #[.int .i64 s1, .int .i64 t1] := hdep { on := 0, ground := .data } (by simp) rfl _ _ rfl rfl
          have e32 := d32
          rw [Array.getD_eq_getD_getElem?] at e32
          have hst : (Two s (s + 1) O [] W1 v ∧ Below wr.heap.size wr v) := hst
          have HC := Lib.hid (hst.1.see fun M hM => stin_any hM HNm.out (by have := HLn2.out; omega) s1 t1)
          rw [HI.out] at HC
          have HSt := Lib.hid hst
          clear hdep hag hst
          go_simp
          refine HC.out.mono ?_
          rintro e w' ⟨x, rfl, ho, hb⟩
          exact hK _ _ hb ⟨x, rfl, ho.weaken (by rw [← HBs.out]; exact HSt.out.2.size)⟩ ⟨HSt.out.1.below hb, HSt.out.2.trans (hb.mono HSt.out.2.size)⟩
        · intro k z v hst hag hdep
          refine .inl ⟨rfl, fun K hK => ?_⟩
          have d3 : z.tmps.getD 3 undef = .pointer (some ⟨xb, 0, none⟩) := hag.2.2 3 (by kernel_rfl)
          have e3 := d3
          rw [Array.getD_eq_getD_getElem?] at e3
          have hst : (Two s (s + 1) O [] W1 v ∧ Below wr.heap.size wr v) := hst
          have hxr := heap_moved HX1.out hst.1.bel
          have l0 : v.cell? ⟨xb, 0, none⟩ = some (.int .i64 s1) := by rw [cell_block hxr]; rfl
          have l1 : v.cell? ⟨xb, 1, none⟩ = some (.int .i64 t1) := by rw [cell_block hxr]; rfl
          clear hxr
          have HSt := Lib.hid hst
          clear hdep hag hst
          go_simp
          exact hK _ _ (Below.refl _ _) rfl HSt.out
        · intro k z v hst hag hdep
          refine .inl ⟨rfl, fun K hK => ?_⟩
          have d5 : z.tmps.getD 5 undef = .pointer (some ⟨s, 0, none⟩) := hag.2.2 5 (by kernel_rfl)
          have e5 := d5
          rw [Array.getD_eq_getD_getElem?] at e5
          have d34 : z.tmps.getD 34 undef = .agg #[.int .i64 s1, .int .i64 t1] := hdep { on := 2, ground := .data } (by simp) rfl _ _ rfl rfl
          have e34 := d34
          rw [Array.getD_eq_getD_getElem?] at e34
          have hst : (Two s (s + 1) O [] W1 v ∧ Below wr.heap.size wr v) := hst
          have HC := Lib.hid (hst.1.see fun M hM => stmiss_any hM HNm.out (by have := HLn2.out; omega) s1 t1)
          rw [HMs.out] at HC
          have HSt := Lib.hid hst
          clear hdep hag hst
          go_simp
          refine HC.out.mono ?_
          rintro e w' ⟨x, rfl, ho, hb⟩
          exact hK _ _ hb ⟨x, rfl, ho.weaken (by rw [← HBs.out]; exact HSt.out.2.size)⟩ ⟨HSt.out.1.below hb, HSt.out.2.trans (hb.mono HSt.out.2.size)⟩
        · intro k z v hst hag hdep
          refine .inl ⟨rfl, fun K hK => ?_⟩
          have d33' : AlOk8 B s xb s1 t1 I Ms 1 (z.tmps.getD 33 undef) v := hdep { on := 1, ground := .data } (by simp) rfl _ _ rfl rfl
          simp only [AlOk8] at d33'
          obtain ⟨y33, d33, hy33⟩ := d33'
          have e33 := d33
          rw [Array.getD_eq_getD_getElem?] at e33
          have hst : (Two s (s + 1) O [] W1 v ∧ Below wr.heap.size wr v) := hst
          have HSt := Lib.hid hst
          clear hdep hag hst
          go_simp
          exact hK _ _ (Below.refl _ _) ⟨y33, rfl, hy33⟩ HSt.out
        · intro k z v hst hag hdep
          refine .inl ⟨rfl, fun K hK => ?_⟩
          have d35' : AlOk8 B s xb s1 t1 I Ms 3 (z.tmps.getD 35 undef) v := hdep { on := 3, ground := .data } (by simp) rfl _ _ rfl rfl
          simp only [AlOk8] at d35'
          obtain ⟨y35, d35, hy35⟩ := d35'
          have e35 := d35
          rw [Array.getD_eq_getD_getElem?] at e35
          have hst : (Two s (s + 1) O [] W1 v ∧ Below wr.heap.size wr v) := hst
          have HSt := Lib.hid hst
          clear hdep hag hst
          go_simp
          exact hK _ _ (Below.refl _ _) ⟨y35, rfl, hy35⟩ HSt.out
      case hdone =>
        intro z v hst hag hok
        have hst : (Two s (s + 1) O [] W1 v ∧ Below wr.heap.size wr v) := hst
        obtain ⟨v8, d8, ho8⟩ : ∃ x, z.tmps.getD 8 undef = x ∧ OwnP .i64 38 B x I v := hok 4 _ 8 rfl rfl
        obtain ⟨v9, d9, ho9⟩ : ∃ x, z.tmps.getD 9 undef = x ∧ OwnP .i64 38 B x Ms v := hok 5 _ 9 rfl rfl
        rw [← HBs.out] at ho8 ho9
        have hV := TwoV.got2 HT0.out ho8 ho9 hst.2
        obtain ⟨a8, c8, rfl, hI8, hA8, hn8⟩ := ho8.shape
        obtain ⟨a9, c9, rfl, hI9, hA9, hn9⟩ := ho9.shape
        obtain ⟨m8, hm8⟩ : ∃ m, I.length = m := ⟨_, rfl⟩
        obtain ⟨m9, hm9⟩ : ∃ m, Ms.length = m := ⟨_, rfl⟩
        rw [hm8] at d8 hI8 hV
        rw [hm9] at d9 hI9 hV
        have HI8 := Lib.hid (And.intro hI8 hn8)
        have HI9 := Lib.hid (And.intro hI9 hn9)
        have HV := Lib.hid hV
        have HM8 := Lib.hid hm8
        have HM9 := Lib.hid hm9
        clear hst ho8 ho9 hV hI8 hA8 hn8 hI9 hA9 hn9 hm8 hm9 HT0
        obtain ⟨uu, hu, hzz⟩ := Go.Proofs.Ytjbjflmpdmflmaa.R.agree_frame [32, 33, 34, 35, 8, 9] rfl hag
        have e8 := (hu 8).trans d8
        have e9 := (hu 9).trans d9
        subst hzz
        simp only [List.foldl_cons, List.foldl_nil]
        rw [e8, e9]
        clear e8 d8 e9 d9 hu hag hok
        try dsimp only [Exit.then]
        simp only [List.setIfInBounds_toArray, List.set_cons_succ, List.set_cons_zero]
        generalize uu 32 = u32', uu 33 = u33', uu 34 = u34', uu 35 = u35'
        clear uu
        rename_i K2 hK2
        refine hK2 _ _ ?_
        have hm8l : m8 ≤ 1002 := by have h1 := in_len O (s1, t1); have h2 := HLn2.out; rw [HI.out, HM8.out] at h1; omega
        have hm9l : m9 ≤ 1001 := by have h1 := miss_len O (s1, t1); have h2 := HLn2.out; rw [HMs.out, HM9.out] at h1; omega
        have HMl : Hid (m8 ≤ 1002 ∧ m9 ≤ 1001) := Lib.hid ⟨hm8l, hm9l⟩
        have HO1 := Lib.hid (OwnP.lit .i64 38 v v.heap.size (Nat.le_refl _))
        have HI8a := Lib.hid (HI8.out.1.belowAll (alloc_below v (.cells #[] 38)))
        have HS1 := Lib.hid (alloc_below v (.cells #[] 38)).size
        clear hm8l hm9l
        go_wp2_with (at_builtin; refine wpList_append_p spanT rfl _ _ rfl rfl v.heap.size _ [] a8 m8 c8 I rfl rfl HO1.out HI8a.out HI8.out.2 (by simp) (by rw [HM8.out]; have := HMl.out; omega) HS1.out ?_)
        intro va wa hga
        have hBa : Below v.heap.size v wa := (alloc_below v _).grown hga.grown HS1.out (fun q hq => by cases hq; exact Nat.le_refl _)
        try rw [List.nil_append] at hga
        have HI9a := Lib.hid (HI9.out.1.belowAll hBa)
        have HBa := Lib.hid hBa
        have HGa := Lib.hid hga.own
        clear hga hBa HO1 HS1 HI8a
        go_wp2_with (at_builtin; refine wpList_append_p spanT rfl _ _ rfl rfl v.heap.size _ I a9 m9 c9 Ms rfl rfl HGa.out HI9a.out HI9.out.2 (by rw [HM8.out]; have := HMl.out; omega) (by rw [HM9.out]; have := HMl.out; omega) HBa.out.size ?_)
        intro vb wb hgb
        have hBb : Below v.heap.size v wb := HBa.out.grown hgb.grown HBa.out.size (fun q hq => (HGa.out.ownBlock q hq).1)
        obtain ⟨J, hJ⟩ : ∃ J, I ++ Ms = J := ⟨_, rfl⟩
        obtain ⟨mj, hmj⟩ : ∃ mj, J.length = mj := ⟨_, rfl⟩
        have hmjl : mj ≤ 3000 := by have h1 := HMl.out; have h2 := HM8.out; have h3 := HM9.out; rw [← hmj, ← hJ, List.length_append]; omega
        have hspan : ∀ x ∈ J, lo ≤ x.1 ∧ x.1 ≤ x.2 ∧ x.2 ≤ hi := by
          intro x hx
          rw [← hJ, List.mem_append, ← HI.out, ← HMs.out] at hx
          rcases hx with h | h
          · exact (HNm.out.in_ _).span h
          · exact (HNm.out.miss _).span h
        have hown := hgb.own
        rw [hJ] at hown
        obtain ⟨aj, cj, rfl, hIj, hAj, -⟩ := hown.shape
        rw [hmj] at hIj ⊢
        have HIj := Lib.hid hIj
        have HSpan := Lib.hid hspan
        have HBb := Lib.hid hBb
        have HJ := Lib.hid hJ
        have HMj := Lib.hid hmj
        have hTj : tot J ≤ 2305843009213693952 := by
          rw [← hJ, ← HI.out, ← HMs.out]
          by_cases hc : (cnt (s1, t1)).1 < (cnt (s1, t1)).2
          · rw [(all_some HNm.out _ hc).1]
            have h1 := near_lo s1
            have h2 := near_hi t1
            unfold lo at h1
            unfold hi at h2
            unfold cnt
            simp only
            omega
          · rw [(all_none HNm.out _ hc).1, (all_none HNm.out _ hc).2]; decide
        have HTj := Lib.hid hTj
        have HAj : Hid (∀ b off, aj = some ⟨b, off, none⟩ → off = 0) := Lib.hid fun b off e => (hAj b off e).2.2
        clear hgb hown hIj hAj hspan hBb hJ hmj hTj HBa HGa HI9a HI8 HI9
        go_wp2_with fail
        go_loopw [10, 42] (fun nn i wr => ∃ k : Nat, k ≤ mj ∧ i = .int .i64 (k : Int) ∧ nn = .int .i64 (tot (J.take k)) ∧ Hid (Below wb.heap.size wb wr)) (fun _ i _ => mj - (intOf i).toNat)
        case atStart => exact ⟨0, by omega, rfl, rfl, Lib.hid (Below.refl _ _)⟩
        case round =>
          rename_i K3 hK3
          obtain ⟨k, hk, rfl, rfl, HB⟩ := hrel
          by_cases hlt : k < mj
          · obtain ⟨g, off, x, rfl, hg, hx, hx1, hx2⟩ := HIj.out.one hlt
            obtain rfl := HAj.out _ _ rfl
            have hx1 := (HB.out.cell (p := ⟨g, 0 + k * 2, none⟩) hg).trans hx1
            have hx2 := (HB.out.cell (p := ⟨g, 0 + k * 2 + 1, none⟩) hg).trans hx2
            rw [Nat.zero_add] at hx1 hx2
            have HT := Lib.hid (tot_take_succ J k x hx)
            have ht1 := (tot_take_pos (k := k) (fun y hy => (HSpan.out y hy).2.1))
            have ht2 := (tot_take_pos (k := k + 1) (fun y hy => (HSpan.out y hy).2.1))
            have ht3 := HTj.out
            have hsx := HSpan.out x (List.mem_of_getElem? hx)
            rw [HT.out] at ht2
            obtain ⟨T, hT⟩ : ∃ T, tot (J.take k) = T := ⟨_, rfl⟩
            obtain ⟨A, hA⟩ : ∃ A, x.1 = A := ⟨_, rfl⟩
            obtain ⟨C, hC⟩ : ∃ C, x.2 = C := ⟨_, rfl⟩
            have hHT := HT.out
            rw [hT, hA, hC] at hHT
            rw [hT, hA, hC] at ht2
            rw [hT] at ht1
            rw [hA, hC] at hsx
            rw [hA] at hx1
            rw [hC] at hx2
            rw [hT]
            have HT2 := Lib.hid hHT
            obtain ⟨Z, hZ⟩ : ∃ Z, tot J = Z := ⟨_, rfl⟩
            rw [hZ] at ht1 ht2 ht3
            unfold lo hi at hsx
            have b1 : 0 ≤ T := ht1.1
            have b2 : T ≤ 2305843009213693952 := by omega
            have b3 : 0 ≤ T + (C - A) := ht2.1
            have b4 : T + (C - A) ≤ 2305843009213693952 := by omega
            have b5 : C ≤ 1152921504606846976 := hsx.2.2
            have b7 : -1152921504606846976 ≤ A := hsx.1
            have b8 : A ≤ C := hsx.2.1
            have hkd : decide (k < mj) = true := decide_eq_true hlt
            clear hHT ht1 ht2 ht3 hZ hT hA hC hx hsx HT
            go_wp2
            have HB1 := Lib.hid (HB.out.alloc HB.out.size (.cells #[.int .i64 A, .int .i64 C] 38))
            go_roundw
            case rel => exact ⟨k + 1, by omega, by go_num, by rw [HT2.out], HB1⟩
            case measure => simp [intOf]; omega
          · obtain rfl : k = mj := by omega
            have hkd : decide (k < k) = false := decide_eq_false (by omega)
            have hE : J.take k = J := by rw [← HMj.out, List.take_length]
            rw [hE]
            have h6 := (HV.out.below HBb.out).below HB.out
            have hlI : I.length ≤ 1002 := by rw [HM8.out]; exact HMl.out.1
            have hlM : Ms.length ≤ 1001 := by rw [HM9.out]; exact HMl.out.2
            have hC := h6.swap.act fun M hM hv => add_own (L := I) hM Nm.nil (by simp; omega) (hv _ List.mem_cons_self).1 (hv _ List.mem_cons_self).2
            have HC := Lib.hid hC
            have HlI : Hid (I.length ≤ 1002 ∧ Ms.length ≤ 1001) := Lib.hid ⟨hlI, hlM⟩
            clear hlI hlM hC h6 hE hlt hk HIj HSpan HMj HV hmjl
            go_wp2_with fail
            refine HC.out.mono ?_
            rintro e w7 ⟨rfl, h7⟩
            have hC := h7.act fun M hM hv => add_own (L := Ms) hM (Nm.nil.adds I) (by have := addsS_len [] I; have := HlI.out; simp at *; omega) (hv _ (List.mem_cons_of_mem _ List.mem_cons_self)).1 (hv _ (List.mem_cons_of_mem _ List.mem_cons_self)).2
            obtain ⟨T, hT⟩ : ∃ T, addsS (addsS [] I) Ms = T := ⟨_, rfl⟩
            rw [hT] at hC
            have HT := Lib.hid hT
            have HC2 := Lib.hid hC
            clear h7 hC hT HC HB
            go_wp2_with fail
            refine HC2.out.mono ?_
            rintro e w8 ⟨rfl, h8⟩
            have hx8 := heap_moved HX1.out h8.two.bel
            have lx0 : w8.cell? ⟨xb, 0, none⟩ = some (.int .i64 s1) := by rw [cell_block hx8]; rfl
            have lx1 : w8.cell? ⟨xb, 1, none⟩ = some (.int .i64 t1) := by rw [cell_block hx8]; rfl
            have HFt := Lib.hid (fit_any s1 t1 w8)
            have HV8 := Lib.hid h8.two
            clear hx8 h8 HC2
            go_wp2_with fail
            refine HFt.out.mono ?_
            rintro e w8b ⟨rfl, hb8⟩
            obtain ⟨X1, hX1⟩ : ∃ X, near s1 = X := ⟨_, rfl⟩
            obtain ⟨X2, hX2⟩ : ∃ X, near t1 = X := ⟨_, rfl⟩
            have hnl := near_lo s1
            have hnl2 := near_lo t1
            have hnh2 := near_hi s1
            have hnh := near_hi t1
            rw [hX1] at hnl hnh2
            rw [hX2] at hnh hnl2
            unfold lo at hnl hnl2
            unfold hi at hnh hnh2
            have hall : ((cnt (s1, t1)).1 < (cnt (s1, t1)).2) = (X1 < X2) := by unfold cnt; simp only [hX1, hX2]
            have hsm := all_some HNm.out (s1, t1)
            have hnn := all_none HNm.out (s1, t1)
            rw [hall, HI.out, HMs.out, HJ.out, HT.out] at hsm
            rw [hall, HI.out, HMs.out] at hnn
            have hcn : cnt (s1, t1) = (X1, X2) := by unfold cnt; simp only [hX1, hX2]
            rw [hcn] at hsm
            simp only at hsm
            have HSm := Lib.hid hsm
            have HNn := Lib.hid hnn
            have h9 := HV8.out.below hb8
            obtain ⟨fb, hfb⟩ : ∃ fb, fb = w8b.heap.size := ⟨_, rfl⟩
            obtain ⟨w9, hw9⟩ : ∃ w9, w9 = w8b.alloc (.cells #[.int .i64 X1, .int .i64 X2] 24) := ⟨_, rfl⟩
            have HX9 : Hid (w9.heap[fb]? = some (.cells #[.int .i64 X1, .int .i64 X2] 24 (0, 0))) := Lib.hid (by rw [hw9, hfb]; exact heap_alloc_new _ _)
            have H9 : Hid (Two (s + 1) s T O W1 w9) := Lib.hid (by rw [hw9]; exact h9.below (alloc_below _ _))
            have HX1e := Lib.hid hX1
            have HX2e := Lib.hid hX2
            have HFb := Lib.hid hfb
            have HW9 := Lib.hid hw9
            simp only
            rw [hX1, hX2]
            clear hb8 hX1 hX2 hall hsm hnn hcn h9 hfb hw9 lx0 lx1 HFt HV8
            by_cases hlt : X1 < X2
            · obtain ⟨hj, hTT⟩ := HSm.out hlt
              have hdl : decide (X2 ≤ X1) = false := decide_eq_false (by omega)
              rw [hj]
              have HT1 := Lib.hid hTT
              have hwr : IntKind.i64.wrap (X2 - X1) = X2 - X1 := by rw [IntKind.wrap_i64]; omega
              clear hj hTT HSm HNn
              go_upto_region 20 with fail
              try rw [← HW9.out]
              try rw [← HFb.out]
              refine Go.Proofs.Ytjbjflmpdmflmaa.R.wp_region_prog [] (by kernel_rfl) (fun _ _ v => (Two (s + 1) s T O W1 v ∧ Below w9.heap.size w9 v)) (fun a b => Below a.heap.size a b) (AlOk20 fb s X1 X2) (by rfl) (by kernel_rfl) (by kernel_rfl) (by kernel_rfl) ?hcongB ?hOkB ?hopB ?hdoneB ?h0B
              case hcongB => intro k f f2 u hs hst; exact hst
              case hOkB => intro i u w1 w2 h hr; unfold AlOk20 at h ⊢; split at h <;> first | exact h | (obtain ⟨x, e, h1⟩ := h; exact ⟨x, e, h1.belowAll hr⟩) | (obtain ⟨x, y, e, h1⟩ := h; exact ⟨x, y, e, h1.belowAll hr⟩)
              case h0B => exact ⟨H9.out.below ((Below.refl _ _).drew), (Below.refl _ _).drew⟩
              case hopB =>
                refine ⟨?_, ?_, ?_, ?_, ?_, ?_, ?_, ?_, ?_, ?_, ?_, ?_, ?_, ?_, trivial⟩
                · intro k z v hst hag hdep
                  refine .inl ⟨rfl, fun K hK => ?_⟩
                  have d10 : z.tmps.getD 10 undef = .int .i64 (X2 - X1) := hag.2.2 10 (by kernel_rfl)
                  have e10 := d10
                  rw [Array.getD_eq_getD_getElem?] at e10
                  have HSt := Lib.hid hst
                  clear hdep hag hst
                  go_simp
                  exact hK _ _ (Below.refl _ _) rfl HSt.out
                · intro k z v hst hag hdep
                  refine .inl ⟨rfl, fun K hK => ?_⟩
                  have d13 : z.tmps.getD 13 undef = .pointer (some ⟨fb, 0, none⟩) := hag.2.2 13 (by kernel_rfl)
                  have e13 := d13
                  rw [Array.getD_eq_getD_getElem?] at e13
                  have HSt := Lib.hid hst
                  clear hdep hag hst
                  go_simp
                  exact hK _ _ (Below.refl _ _) rfl HSt.out
                · intro k z v hst hag hdep
                  refine .inl ⟨rfl, fun K hK => ?_⟩
                  have d72 : z.tmps.getD 72 undef = .pointer (some ⟨fb, 1, none⟩) := hdep { on := 1, ground := .data } (by simp) rfl _ _ rfl rfl
                  have e72 := d72
                  rw [Array.getD_eq_getD_getElem?] at e72
                  have hst : (Two (s + 1) s T O W1 v ∧ Below w9.heap.size w9 v) := hst
                  have hxr := heap_moved HX9.out hst.2
                  have l0 : v.cell? ⟨fb, 0, none⟩ = some (.int .i64 X1) := by rw [cell_block hxr]; rfl
                  have l1 : v.cell? ⟨fb, 1, none⟩ = some (.int .i64 X2) := by rw [cell_block hxr]; rfl
                  clear hxr
                  have HSt := Lib.hid hst
                  clear hdep hag hst
                  go_simp
                  exact hK _ _ (Below.refl _ _) rfl HSt.out
                · intro k z v hst hag hdep
                  refine .inl ⟨rfl, fun K hK => ?_⟩
                  have d13 : z.tmps.getD 13 undef = .pointer (some ⟨fb, 0, none⟩) := hag.2.2 13 (by kernel_rfl)
                  have e13 := d13
                  rw [Array.getD_eq_getD_getElem?] at e13
                  have HSt := Lib.hid hst
                  clear hdep hag hst
                  go_simp
                  exact hK _ _ (Below.refl _ _) rfl HSt.out
                · intro k z v hst hag hdep
                  refine .inl ⟨rfl, fun K hK => ?_⟩
                  have d74 : z.tmps.getD 74 undef = .pointer (some ⟨fb, 0, none⟩) := hdep { on := 3, ground := .data } (by simp) rfl _ _ rfl rfl
                  have e74 := d74
                  rw [Array.getD_eq_getD_getElem?] at e74
                  have hst : (Two (s + 1) s T O W1 v ∧ Below w9.heap.size w9 v) := hst
                  have hxr := heap_moved HX9.out hst.2
                  have l0 : v.cell? ⟨fb, 0, none⟩ = some (.int .i64 X1) := by rw [cell_block hxr]; rfl
                  have l1 : v.cell? ⟨fb, 1, none⟩ = some (.int .i64 X2) := by rw [cell_block hxr]; rfl
                  clear hxr
                  have HSt := Lib.hid hst
                  clear hdep hag hst
                  go_simp
                  exact hK _ _ (Below.refl _ _) rfl HSt.out
                · intro k z v hst hag hdep
                  refine .inl ⟨rfl, fun K hK => ?_⟩
                  have d73 : z.tmps.getD 73 undef = .int .i64 X2 := hdep { on := 2, ground := .data } (by simp) rfl _ _ rfl rfl
                  have e73 := d73
                  rw [Array.getD_eq_getD_getElem?] at e73
                  have d75 : z.tmps.getD 75 undef = .int .i64 X1 := hdep { on := 4, ground := .data } (by simp) rfl _ _ rfl rfl
                  have e75 := d75
                  rw [Array.getD_eq_getD_getElem?] at e75
                  have HSt := Lib.hid hst
                  clear hdep hag hst
                  go_simp
                  exact hK _ _ (Below.refl _ _) rfl HSt.out
                · intro k z v hst hag hdep
                  refine .inl ⟨rfl, fun K hK => ?_⟩
                  have d71 : z.tmps.getD 71 undef = .int .i64 (X2 - X1) := hdep { on := 0, ground := .data } (by simp) rfl _ _ rfl rfl
                  have e71 := d71
                  rw [Array.getD_eq_getD_getElem?] at e71
                  have d76 : z.tmps.getD 76 undef = .int .i64 (X2 - X1) := hdep { on := 5, ground := .data } (by simp) rfl _ _ rfl rfl
                  have e76 := d76
                  rw [Array.getD_eq_getD_getElem?] at e76
                  have HSt := Lib.hid hst
                  clear hdep hag hst
                  go_simp
                  exact hK _ _ (Below.refl _ _) rfl HSt.out
                · intro k z v hst hag hdep
                  refine .inl ⟨rfl, fun K hK => ?_⟩
                  have d77 : z.tmps.getD 77 undef = .bool true := hdep { on := 6, ground := .data } (by simp) rfl _ _ rfl rfl
                  have e77 := d77
                  rw [Array.getD_eq_getD_getElem?] at e77
                  have HSt := Lib.hid hst
                  clear hdep hag hst
                  go_simp
                  exact hK _ _ (Below.refl _ _) rfl HSt.out
                · intro k z v hst hag hdep
                  have dg : AlOk20 fb s X1 X2 7 (z.tmps.getD 78 undef) v := hdep { on := 7, ground := .guard } (by simp) rfl _ _ rfl rfl
                  simp only [AlOk20] at dg
                  refine .inl ⟨Go.Proofs.Ytjbjflmpdmflmaa.R.wanted_of (j := 7) rfl rfl rfl dg (by rw [hag.2.1]; show 78 < 84; decide), fun K hK => ?_⟩
                  have d6 : z.tmps.getD 6 undef = .pointer (some ⟨s + 1, 0, none⟩) := hag.2.2 6 (by kernel_rfl)
                  have e6 := d6
                  rw [Array.getD_eq_getD_getElem?] at e6
                  have hst : (Two (s + 1) s T O W1 v ∧ Below w9.heap.size w9 v) := hst
                  have HC := Lib.hid (hst.1.see fun M hM => stspans_any hM (by rw [HT1.out]; simp))
                  rw [HT1.out] at HC
                  have HSt := Lib.hid hst
                  clear hdep hag hst
                  go_simp
                  refine HC.out.mono ?_
                  rintro e w' ⟨x, rfl, ho, hb⟩
                  obtain ⟨a79, c79, rfl, h79, -, -⟩ := ho.shape
                  exact hK _ _ hb ⟨a79, c79, rfl, h79⟩ ⟨HSt.out.1.below hb, HSt.out.2.trans (hb.mono HSt.out.2.size)⟩
                · intro k z v hst hag hdep
                  have dg : AlOk20 fb s X1 X2 7 (z.tmps.getD 78 undef) v := hdep { on := 7, ground := .guard } (by simp) rfl _ _ rfl rfl
                  simp only [AlOk20] at dg
                  refine .inl ⟨Go.Proofs.Ytjbjflmpdmflmaa.R.wanted_of (j := 7) rfl rfl rfl dg (by rw [hag.2.1]; show 78 < 84; decide), fun K hK => ?_⟩
                  have d13 : z.tmps.getD 13 undef = .pointer (some ⟨fb, 0, none⟩) := hag.2.2 13 (by kernel_rfl)
                  have e13 := d13
                  rw [Array.getD_eq_getD_getElem?] at e13
                  have hst : (Two (s + 1) s T O W1 v ∧ Below w9.heap.size w9 v) := hst
                  have hxr := heap_moved HX9.out hst.2
                  have l0 : v.cell? ⟨fb, 0, none⟩ = some (.int .i64 X1) := by rw [cell_block hxr]; rfl
                  have l1 : v.cell? ⟨fb, 1, none⟩ = some (.int .i64 X2) := by rw [cell_block hxr]; rfl
                  clear hxr
                  have HSt := Lib.hid hst
                  clear hdep hag hst
                  go_simp
                  exact hK _ _ (Below.refl _ _) rfl HSt.out
                · intro k z v hst hag hdep
                  have dg : AlOk20 fb s X1 X2 7 (z.tmps.getD 78 undef) v := hdep { on := 7, ground := .guard } (by simp) rfl _ _ rfl rfl
                  simp only [AlOk20] at dg
                  refine .inl ⟨Go.Proofs.Ytjbjflmpdmflmaa.R.wanted_of (j := 7) rfl rfl rfl dg (by rw [hag.2.1]; show 78 < 84; decide), fun K hK => ?_⟩
                  have d80 : z.tmps.getD 80 undef = .agg #[.int .i64 X1, .int .i64 X2] := hdep { on := 9, ground := .data } (by simp) rfl _ _ rfl rfl
                  have e80 := d80
                  rw [Array.getD_eq_getD_getElem?] at e80
                  have hst : (Two (s + 1) s T O W1 v ∧ Below w9.heap.size w9 v) := hst
                  have HSt := Lib.hid hst
                  clear hdep hag hst
                  go_simp
                  exact hK _ _ (alloc_below _ _) ⟨_, rfl, pair_oneR (heap_alloc_new v _)⟩ ⟨HSt.out.1.below (alloc_below _ _), HSt.out.2.trans ((alloc_below _ _).mono HSt.out.2.size)⟩
                · intro k z v hst hag hdep
                  have dg : AlOk20 fb s X1 X2 7 (z.tmps.getD 78 undef) v := hdep { on := 7, ground := .guard } (by simp) rfl _ _ rfl rfl
                  simp only [AlOk20] at dg
                  refine .inl ⟨Go.Proofs.Ytjbjflmpdmflmaa.R.wanted_of (j := 7) rfl rfl rfl dg (by rw [hag.2.1]; show 78 < 84; decide), fun K hK => ?_⟩
                  have d79' : AlOk20 fb s X1 X2 8 (z.tmps.getD 79 undef) v := hdep { on := 8, ground := .data } (by simp) rfl _ _ rfl rfl
                  simp only [AlOk20] at d79'
                  obtain ⟨a79, c79, d79, h79⟩ := d79'
                  have e79 := d79
                  rw [Array.getD_eq_getD_getElem?] at e79
                  have d81' : AlOk20 fb s X1 X2 10 (z.tmps.getD 81 undef) v := hdep { on := 10, ground := .data } (by simp) rfl _ _ rfl rfl
                  simp only [AlOk20] at d81'
                  obtain ⟨g81, d81, h81⟩ := d81'
                  have e81 := d81
                  rw [Array.getD_eq_getD_getElem?] at e81
                  have hst : (Two (s + 1) s T O W1 v ∧ Below w9.heap.size w9 v) := hst
                  have HC := Lib.hid (same_any a79 c79 (some ⟨g81, 0, none⟩) 1 1 [(X1, X2)] v h79 h81 (by decide))
                  have HSt := Lib.hid hst
                  clear hdep hag hst h79 h81
                  go_simp
                  refine HC.out.mono ?_
                  rintro e w' ⟨rfl, hb⟩
                  exact hK _ _ hb rfl ⟨HSt.out.1.below hb, HSt.out.2.trans (hb.mono HSt.out.2.size)⟩
                · intro k z v hst hag hdep
                  refine .inl ⟨rfl, fun K hK => ?_⟩
                  have d78 : z.tmps.getD 78 undef = .bool true := hdep { on := 7, ground := .data } (by simp) rfl _ _ rfl rfl
                  have e78 := d78
                  rw [Array.getD_eq_getD_getElem?] at e78
                  have d82 : z.tmps.getD 82 undef = .bool true := hdep { on := 11, ground := .data } (by simp) rfl _ _ rfl rfl
                  have e82 := d82
                  rw [Array.getD_eq_getD_getElem?] at e82
                  have HSt := Lib.hid hst
                  clear hdep hag hst
                  go_simp
                  exact hK _ _ (Below.refl _ _) rfl HSt.out
                · intro k z v hst hag hdep
                  refine .inl ⟨rfl, fun K hK => ?_⟩
                  have d83 : z.tmps.getD 83 undef = .bool true := hdep { on := 12, ground := .data } (by simp) rfl _ _ rfl rfl
                  have e83 := d83
                  rw [Array.getD_eq_getD_getElem?] at e83
                  have HSt := Lib.hid hst
                  clear hdep hag hst
                  go_simp
                  exact hK _ _ (Below.refl _ _) rfl HSt.out
              case hdoneB =>
                intro z v hst hag hok
                have hst : (Two (s + 1) s T O W1 v ∧ Below w9.heap.size w9 v) := hst
                have d4 : z.tmps.getD 4 undef = .bool true := hok 13 _ 4 rfl rfl
                have hend : Below W.heap.size W v := HB1.out.trans (hst.1.bel.mono HB1.out.size)
                have HEnd := Lib.hid hend
                clear hst hend
                obtain ⟨uu, hu, hzz⟩ := Go.Proofs.Ytjbjflmpdmflmaa.R.agree_frame [71, 72, 73, 74, 75, 76, 77, 78, 79, 80, 81, 82, 83, 4] rfl hag
                have e4 := (hu 4).trans d4
                subst hzz
                simp only [List.foldl_cons, List.foldl_nil]
                rw [e4]
                clear e4 d4 hu hag hok
                try dsimp only [Exit.then]
                simp only [List.setIfInBounds_toArray, List.set_cons_succ, List.set_cons_zero]
                generalize uu 71 = u71', uu 72 = u72', uu 73 = u73', uu 74 = u74', uu 75 = u75', uu 76 = u76', uu 77 = u77', uu 78 = u78', uu 79 = u79', uu 80 = u80', uu 81 = u81', uu 82 = u82', uu 83 = u83'
                clear uu
                rename_i K4 hK4
                refine hK4 _ _ ?_
                go_wp2_with fail
                rw [← HP.out]
                exact ⟨rfl, HEnd.out⟩
            · obtain ⟨hi0, hm0⟩ := HNn.out hlt
              have hdl : decide (X2 ≤ X1) = true := decide_eq_true (by omega)
              have hj0 : tot J = 0 := by rw [← HJ.out, hi0, hm0]; rfl
              have hT0 : T = [] := by rw [← HT.out, hi0, hm0]; rfl
              rw [hj0]
              have hC := H9.out.see fun M hM => stlen_any hM (by rw [hT0]; exact Nm.nil) (by rw [hT0]; decide)
              rw [hT0] at hC
              have HC := Lib.hid hC
              clear hi0 hm0 hj0 hT0 hC HSm HNn
              go_wp2_with fail
              rw [← HW9.out]
              refine HC.out.mono ?_
              rintro e w10 ⟨rfl, hb10⟩
              have hend := HB1.out.trans ((H9.out.below hb10).bel.mono HB1.out.size)
              have HEnd := Lib.hid hend
              clear hb10 hend HC
              simp only [tot]
              go_wp2_with fail
              rw [← HP.out]
              exact ⟨rfl, HEnd.out⟩
end Go.Proofs.Ytjbjflmpdmflmaa.H
