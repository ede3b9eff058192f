/- SpansPlay: behind any calls just the document's numbers are in a set. -/
import Derived.Test.YtjbjflmpdmflmaaHRad
import Derived.Test.YtjbjflmpdmflmaaHCoW
import Derived.Test.YtjbjflmpdmflmaaHAlW
namespace Go.Proofs.Ytjbjflmpdmflmaa.H
open Go.RowKit

theorem leftL_len1 {x : Sp} (hx : x.1 < x.2) : ∀ (l : List Sp) (b : Int), Norm b l → (leftL l [x]).length ≤ l.length + 1 ∧ (x.2 ≤ b → (leftL l [x]).length ≤ l.length)
  | [], b, _ => by simp [leftL]
  | y :: l, b, hn => by
    have h1 := hn.1
    have h2 := hn.2.1
    obtain ⟨i1, i2⟩ := leftL_len1 hx l (y.2 + 1) hn.2.2
    rw [leftL_cons, List.length_append]
    have hg : (goLeft y [x]).length ≤ 2 ∧ ((goLeft y [x]).length = 2 → x.2 < y.2) ∧ (x.2 ≤ y.1 → (goLeft y [x]).length ≤ 1) := by
      simp only [goLeft, List.length_append]
      refine ⟨by split <;> split <;> simp, ?_, ?_⟩
      · split
        · split
          · intro _; omega
          · intro h; simp at h
        · split <;> (intro h; simp at h)
      · intro h
        split
        · omega
        · split <;> simp
    simp only [List.length_cons]
    constructor
    · by_cases hh : (goLeft y [x]).length = 2
      · have := i2 (by have := hg.2.1 hh; omega); omega
      · omega
    · intro h
      have := hg.2.2 (by omega)
      have := i2 (by omega)
      omega
theorem cutS_len1 {l : List Sp} (h : Nm l) (x : Sp) : (cutS l x).length ≤ l.length + 1 := by
  unfold cutS
  split
  · rename_i hlt
    exact (leftL_len1 hlt l _ h.1).1
  · omega
/-- a set, and a slice that it doesn't change -/
def OneL (b : Nat) (l : List Sp) (v : Value) (l2 : List Sp) (W w : World) : Prop := ∃ M, St b M l w ∧ (∀ p ∈ M, W.heap.size ≤ p) ∧ Below W.heap.size W w ∧ OwnP .i64 24 0 v l2 w ∧ ∀ q, v.ownBlock = some q → q ∉ M
theorem OneL.bel {b : Nat} {l l2 : List Sp} {v : Value} {W w : World} (h : OneL b l v l2 W w) : Below W.heap.size W w := h.choose_spec.2.2.1
theorem OneL.below {b : Nat} {l l2 : List Sp} {v : Value} {W w w' : World} (h : OneL b l v l2 W w) (hb : Below w.heap.size w w') : OneL b l v l2 W w' := by
  obtain ⟨M, h1, h2, h3, h4, h5⟩ := h
  exact ⟨M, h1.below hb, h2, h3.trans (hb.mono h3.size), h4.belowAll hb, h5⟩
theorem OneL.see {b : Nat} {l l2 : List Sp} {v : Value} {W w : World} {f : FuncId} {args : Array Value} {Q : Ending → World → Prop} (h : OneL b l v l2 W w) (H : ∀ M, St b M l w → Calls Try.prog f args w Q) : Calls Try.prog f args w Q := by
  obtain ⟨M, hs, -⟩ := h
  exact H M hs
theorem OneL.new (W : World) : OneL W.heap.size [] (.slice none 0 0) [] W (W.alloc (.cells #[.slice none 0 0] 28)) :=
  ⟨_, St.new W, (fun p hp => by rw [List.mem_singleton.1 hp]; exact Nat.le_refl _), alloc_below W _, OwnP.nil _ _ _ _, fun q hq => by cases hq⟩
theorem OneL.got {b : Nat} {l l2 l3 : List Sp} {v v' : Value} {W w w' : World} (h : OneL b l v l2 W w) (hv : OwnP .i64 24 w.heap.size v' l3 w') (hb : Below w.heap.size w w') : OneL b l v' l3 W w' := by
  obtain ⟨M, h1, h2, h3, h4, h5⟩ := h
  exact ⟨M, h1.below hb, h2, h3.trans (hb.mono h3.size), hv.weaken (Nat.zero_le _), fun q hq hm => absurd (h1.lt q hm) (by have := (hv.ownBlock q hq).1; omega)⟩
theorem OneL.act {b : Nat} {l l2 out : List Sp} {v : Value} {W w w1 : World} {f : FuncId} {args : Array Value} (h : OneL b l v l2 W w) (H : ∀ M, St b M l w → Calls Try.prog f args w1 (ChPost b M out w)) :
    Calls Try.prog f args w1 fun e w' => e = .returned (.tuple #[]) ∧ OneL b out v l2 W w' := by
  obtain ⟨M, hs, hg, hb, ho, hq⟩ := h
  refine (H M hs).mono ?_
  rintro e w' ⟨rfl, M', h1, hk, hM⟩
  refine ⟨rfl, M', h1, fun p hp => (hM p hp).elim (hg p) (fun h => Nat.le_trans hb.size h), hk.below hg hb hb.size, ho.moved (fun q hq' => hk.block q (ho.ownBlock q hq').2 (hq q hq')), fun q hq' hm => ?_⟩
  rcases hM q hm with h | h
  · exact hq q hq' h
  · exact absurd (ho.ownBlock q hq').2 (by omega)
theorem OneL.pairs {b : Nat} {l l2 : List Sp} {a : Option Addr} {n c : Nat} {W w : World} (h : OneL b l (.slice a n c) l2 W w) : PairsIn .i64 a n c l2 w ∧ (a = none → c = 0) := by
  obtain ⟨M, h1, h2, h3, h4, h5⟩ := h
  obtain ⟨a', c', e, hI, -, hn⟩ := h4.shape
  injection e with e1 e2 e3
  subst e1 e2 e3
  exact ⟨hI, hn⟩
theorem OneL.shape {b : Nat} {l l2 : List Sp} {v : Value} {W w : World} (h : OneL b l v l2 W w) : ∃ a c, v = .slice a l2.length c ∧ ∀ q off, a = some ⟨q, off, none⟩ → off = 0 := by
  obtain ⟨M, h1, h2, h3, h4, h5⟩ := h
  obtain ⟨a', c', e, hI, hA, hn⟩ := h4.shape
  exact ⟨a', c', e, fun q off e => (hA q off e).2.2⟩
def PlOk (p s : Nat) (a8 : Option Addr) (m c8 mi mm : Nat) (O I Ms : List Sp) (tt nn s1 t1 : Int) (hb : Bool) : Nat → Value → World → Prop
  | 0, u, w => ∃ a c, u = .slice a m c ∧ PairsIn .i64 a m c O w
  | 1, u, _ => u = .slice a8 m c8
  | 2, u, _ => u = .bool true
  | 3, u, _ => u = .bool false
  | 4, u, _ => u = .bool false
  | 5, u, _ => u = .int .i64 tt
  | 6, u, _ => u = .int .i64 tt
  | 7, u, _ => u = .bool false
  | 8, u, _ => u = .bool false
  | 9, u, _ => u = .bool false
  | 10, u, _ => u = .int .i64 nn
  | 11, u, _ => u = .bool hb
  | 12, u, _ => u = .slice a8 m c8
  | 13, u, _ => u = .int .i64 nn
  | 14, u, _ => u = .bool hb
  | 15, u, _ => u = .bool false
  | 16, u, _ => u = .bool false
  | 17, u, _ => u = .bool false
  | 18, u, _ => u = .agg #[.int .i64 s1, .int .i64 t1]
  | 19, u, w => ∃ a c, u = .slice a mi c ∧ PairsIn .i64 a mi c I w
  | 20, u, _ => u = .slice a8 m c8
  | 21, u, _ => u = .agg #[.int .i64 s1, .int .i64 t1]
  | 22, u, w => ∃ a c, u = .slice a mi c ∧ PairsIn .i64 a mi c I w
  | 23, u, _ => u = .bool true
  | 24, u, _ => u = .bool false
  | 25, u, _ => u = .bool false
  | 26, u, _ => u = .bool false
  | 27, u, _ => u = .agg #[.int .i64 s1, .int .i64 t1]
  | 28, u, w => ∃ a c, u = .slice a mm c ∧ PairsIn .i64 a mm c Ms w
  | 29, u, _ => u = .slice a8 m c8
  | 30, u, _ => u = .agg #[.int .i64 s1, .int .i64 t1]
  | 31, u, w => ∃ a c, u = .slice a mm c ∧ PairsIn .i64 a mm c Ms w
  | 32, u, _ => u = .bool true
  | 33, u, _ => u = .bool false
  | 34, u, _ => u = .bool false
  | _, _, _ => True
set_option maxRecDepth 100000 in
set_option maxHeartbeats 32000000 in
theorem play_walk (a : Option Addr) (n c : Nat) (l : List (Bool × Sp)) (s1 t1 nn : Int) (W : World) (h : SActsIn a n c l W) :
    Calls Try.prog 3 #[.slice a n c, .agg #[.int .i64 s1, .int .i64 t1], .int .i64 nn] W (BPost true W) := by
  obtain ⟨P, hP⟩ : ∃ P, BPost true W = P := ⟨_, rfl⟩
  rw [hP]
  have HP := Lib.hid hP
  obtain ⟨N, hN⟩ : ∃ N, min n 25 = N := ⟨_, rfl⟩
  have hNn : N ≤ n := by omega
  have hN20 : N ≤ 25 := by omega
  have hnc := h.fit
  have htop := h.top
  have HF := Lib.hid h
  obtain ⟨p, hp⟩ : ∃ p, p = W.heap.size := ⟨_, rfl⟩
  obtain ⟨W0, hW0⟩ : ∃ W0, W0 = W.alloc (.cells #[.int .i64 s1, .int .i64 t1] 24) := ⟨_, rfl⟩
  have HXB : Hid (W0.heap[p]? = some (.cells #[.int .i64 s1, .int .i64 t1] 24 (0, 0))) := Lib.hid (by rw [hW0, hp]; exact heap_alloc_new _ _)
  have HB0 : Hid (Below W.heap.size W W0) := Lib.hid (by rw [hW0]; exact alloc_below _ _)
  have HA := Lib.hid (awake_any W0)
  have HPp := Lib.hid hp
  have HW0 := Lib.hid hW0
  clear hP h hp hW0
  go_enter Try.func3, Try.ntmps3
  go_wp2_with fail
  rw [← HW0.out, ← HPp.out]
  refine HA.out.mono ?_
  rintro e W1 ⟨rfl, hb1⟩
  obtain ⟨s, hs⟩ : ∃ s, s = W1.heap.size := ⟨_, rfl⟩
  obtain ⟨W2, hW2⟩ : ∃ W2, W2 = W1.alloc (.cells #[.slice none 0 0] 28) := ⟨_, rfl⟩
  have h2 : OneL s [] (.slice none 0 0) [] W1 W2 := by rw [hW2, hs]; exact OneL.new W1
  have HXW : Hid (W1.heap[p]? = some (.cells #[.int .i64 s1, .int .i64 t1] 24 (0, 0))) := Lib.hid (heap_moved HXB.out hb1)
  have HT := Lib.hid h2
  have HS := Lib.hid hs
  have HW := Lib.hid hW2
  have HB1 : Hid (Below W.heap.size W W1) := Lib.hid (HB0.out.trans (hb1.mono HB0.out.size))
  clear h2 hs hW2 hb1 HA HXB HB0 HW0 HPp
  go_wp2_with fail
  rw [← HW.out, ← HS.out]
  go_loopw [8, 9] (fun v8 i wr => ∃ k : Nat, i = .int .i64 (k : Int) ∧ k ≤ N ∧ Hid (∃ O, OneL s O v8 O W1 wr ∧ Nm O ∧ O.length ≤ k)) (fun _ i _ => N - (intOf i).toNat)
  case atStart => exact ⟨0, rfl, by omega, Lib.hid ⟨[], HT.out, Nm.nil, by simp⟩⟩
  case round =>
    rename_i K hK
    obtain ⟨k, rfl, hk, HF2⟩ := hrel
    clear HT HW
    by_cases hlt : k < N
    · have hd : decide (k < n) = true := decide_eq_true (by omega)
      have hd2 : decide (k < 25) = true := decide_eq_true (by omega)
      have hkI : (k : Int) < n := by omega
      have hkI2 : (k : Int) < 25 := by omega
      have hkn : k < n := by omega
      obtain ⟨O0, hO, hNm, hOl⟩ := HF2.out
      have hb2 : Below W.heap.size W wr := HB1.out.trans (hO.bel.mono HB1.out.size)
      obtain ⟨g, off, x, rfl, hg, hx, k0, k1, k2⟩ := HF.out.one hkn
      have k0 := (hb2.cell (p := ⟨g, off + k * 3, none⟩) hg).trans k0
      have k1 := (hb2.cell (p := ⟨g, off + k * 3 + 1, none⟩) hg).trans k1
      have k2 := (hb2.cell (p := ⟨g, off + k * 3 + 2, none⟩) hg).trans k2
      obtain ⟨B, x1, x2⟩ := x
      simp only at k0 k1 k2
      obtain ⟨a7, c7, hv7, -⟩ := hO.shape
      obtain ⟨m7, hm7⟩ : ∃ m, O0.length = m := ⟨_, rfl⟩
      rw [hm7] at hv7
      subst hv7
      obtain ⟨wa, hwa⟩ : ∃ wa, wa = wr.alloc (.cells #[.bool B, .int .i64 x1, .int .i64 x2] 31) := ⟨_, rfl⟩
      obtain ⟨ab, hab⟩ : ∃ ab, ab = wr.heap.size := ⟨_, rfl⟩
      have hxa : wa.heap[ab]? = some (.cells #[.bool B, .int .i64 x1, .int .i64 x2] 31 (0, 0)) := by rw [hwa, hab]; exact heap_alloc_new _ _
      have hOa : OneL s O0 (.slice a7 m7 c7) O0 W1 wa := by rw [hwa]; exact hO.below (alloc_below _ _)
      have HC := Lib.hid (hOa.see (Q := NewSet O0 wa) fun M hM => by obtain ⟨vl, hM⟩ := hM; exact sclone_any hM (by omega))
      have HXa := Lib.hid hxa
      have HOa := Lib.hid hOa
      have HWa := Lib.hid hwa
      have HAb := Lib.hid hab
      have HNm0 := Lib.hid hNm
      have HOl0 : Hid (O0.length = m7 ∧ m7 ≤ k) := Lib.hid ⟨hm7, by omega⟩
      clear hb2 hx hg HF2 hO hwa hab hxa hOa hNm hOl hm7
      go_wp2_with fail
      rw [← HWa.out, ← HAb.out]
      refine HC.out.mono ?_
      rintro e wc ⟨cc, Mc, rfl, hSc, hgc, hbc⟩
      have hOc := HOa.out.below hbc
      have hC2 := stspans_any hSc (by have := HOl0.out; omega)
      have HC2 := Lib.hid hC2
      have HOc := Lib.hid hOc
      have HBc := Lib.hid hbc
      clear hSc hgc hbc hOc hC2 HC
      go_wp2_with fail
      refine HC2.out.mono ?_
      rintro e wd ⟨v3, rfl, ho3, hb3⟩
      obtain ⟨a3, c3, rfl, hI3, -, -⟩ := ho3.shape
      rw [HOl0.out.1] at hI3 ⊢
      have hOd := HOc.out.below hb3
      have HC := Lib.hid (same_any a3 c3 a7 c7 m7 O0 wd hI3 hOd.pairs.1 (by have := HOl0.out; omega))
      have HBd := Lib.hid (HBc.out.trans (hb3.mono HBc.out.size))
      have HOd := Lib.hid hOd
      clear ho3 hI3 hOd hb3 HC2 HOc HBc
      go_wp2_with fail
      refine HC.out.mono ?_
      rintro e we ⟨rfl, hbe⟩
      have hxe := heap_moved HXa.out (HBd.out.trans (hbe.mono HBd.out.size))
      have b0 : we.cell? ⟨ab, 0, none⟩ = some (.bool B) := by rw [cell_block hxe]; rfl
      have b1 : we.cell? ⟨ab, 1, none⟩ = some (.int .i64 x1) := by rw [cell_block hxe]; rfl
      have b2 : we.cell? ⟨ab, 2, none⟩ = some (.int .i64 x2) := by rw [cell_block hxe]; rfl
      have hOe := HOd.out.below hbe
      have HOe := Lib.hid hOe
      have HPe := Lib.hid hOe.pairs
      have HXe := Lib.hid hxe
      clear hxe hOe hbe HC HBd HOd HXa HOa HWa HAb k0 k1 k2
      go_upto_if 42 with fail
      go_cut [8] (fun t8 wx => Hid (∃ O, OneL s O t8 O W1 wx ∧ Nm O ∧ O.length ≤ k + 1))
      case first =>
        cases B with
        | true =>
          have HCr := Lib.hid (rcut_any a7 m7 c7 O0 x1 x2 we HPe.out.1 HPe.out.2 HNm0.out (by have := HOl0.out; omega))
          go_wp2_with fail
          refine HCr.out.mono ?_
          rintro e wf ⟨v', rfl, ho', hbf⟩
          have hOf := HOe.out.got ho' hbf
          have hxf := heap_moved HXe.out hbf
          have b1 : wf.cell? ⟨ab, 1, none⟩ = some (.int .i64 x1) := by rw [cell_block hxf]; rfl
          have b2 : wf.cell? ⟨ab, 2, none⟩ = some (.int .i64 x2) := by rw [cell_block hxf]; rfl
          obtain ⟨sf, hsf⟩ : ∃ sf, wf.heap.size = sf := ⟨_, rfl⟩
          have HCs := Lib.hid (hOf.act fun M hM => cut_one x1 x2 hM HNm0.out (by have := HOl0.out; omega) sf hsf)
          have HSf := Lib.hid hsf
          clear ho' hbf hOf hxf hsf HCr
          go_wp2_with fail
          rw [HSf.out]
          refine HCs.out.mono ?_
          rintro e wg ⟨rfl, hOg⟩
          have HEnd : Hid (∃ O, OneL s O v' O W1 wg ∧ Nm O ∧ O.length ≤ k + 1) := Lib.hid ⟨_, hOg, HNm0.out.cut _, by have h1 := cutS_len1 HNm0.out (x1, x2); have h2 := HOl0.out; omega⟩
          clear hOg HCs HSf
          go_wp2_with fail
          go_meet
          exact HEnd
        | false =>
          have HCr := Lib.hid (radd_any a7 m7 c7 O0 x1 x2 we HPe.out.1 HPe.out.2 HNm0.out (by have := HOl0.out; omega))
          go_wp2_with fail
          refine HCr.out.mono ?_
          rintro e wf ⟨v', rfl, ho', hbf⟩
          have hOf := HOe.out.got ho' hbf
          have hxf := heap_moved HXe.out hbf
          have b1 : wf.cell? ⟨ab, 1, none⟩ = some (.int .i64 x1) := by rw [cell_block hxf]; rfl
          have b2 : wf.cell? ⟨ab, 2, none⟩ = some (.int .i64 x2) := by rw [cell_block hxf]; rfl
          obtain ⟨sf, hsf⟩ : ∃ sf, wf.heap.size = sf := ⟨_, rfl⟩
          have HCs := Lib.hid (hOf.act fun M hM => add_one x1 x2 hM HNm0.out (by have := HOl0.out; omega) sf hsf)
          have HSf := Lib.hid hsf
          clear ho' hbf hOf hxf hsf HCr
          go_wp2_with fail
          rw [HSf.out]
          refine HCs.out.mono ?_
          rintro e wg ⟨rfl, hOg⟩
          have HEnd : Hid (∃ O, OneL s O v' O W1 wg ∧ Nm O ∧ O.length ≤ k + 1) := Lib.hid ⟨_, hOg, HNm0.out.add _, by have h1 := addS_len O0 (x1, x2); have h2 := HOl0.out; omega⟩
          clear hOg HCs HSf
          go_wp2_with fail
          go_meet
          exact HEnd
      case rest =>
        obtain ⟨O, hOg, hNmO, hOl⟩ := hcut.out
        obtain ⟨a8, c8, hv8, hA8⟩ := hOg.shape
        obtain ⟨m, hm⟩ : ∃ m, O.length = m := ⟨_, rfl⟩
        rw [hm] at hv8 hOl
        subst hv8
        have hp8 := hOg.pairs.1
        have HIj := Lib.hid hp8
        have HAj := Lib.hid hA8
        have HOg := Lib.hid hOg
        have HNm := Lib.hid hNmO
        have HMl := Lib.hid hm
        have HOlk := Lib.hid hOl
        have hm26 : m ≤ 26 := by omega
        clear hcut hOg hNmO hA8 hm hp8 hOl HPe HOe HXe HNm0 HOl0 b0 b1 b2
        go_wp2_with fail
        go_loopw [12, 61] (fun nn2 i wr => ∃ j : Nat, j ≤ m ∧ i = .int .i64 (j : Int) ∧ nn2 = .int .i64 (tot (O.take j)) ∧ Hid (Below wc.heap.size wc wr)) (fun _ i _ => m - (intOf i).toNat)
        case atStart => exact ⟨0, by omega, rfl, rfl, Lib.hid (Below.refl _ _)⟩
        case round =>
          rename_i K3 hK3
          obtain ⟨j, hj, rfl, rfl, HB⟩ := hrel
          by_cases hlt : j < m
          · obtain ⟨g, off, x, rfl, hg, hx, hx1, hx2⟩ := HIj.out.one hlt
            obtain rfl := HAj.out _ _ rfl
            have hx1 := (HB.out.cell (p := ⟨g, 0 + j * 2, none⟩) hg).trans hx1
            have hx2 := (HB.out.cell (p := ⟨g, 0 + j * 2 + 1, none⟩) hg).trans hx2
            rw [Nat.zero_add] at hx1 hx2
            have HT := Lib.hid (tot_take_succ O j x hx)
            have ht1 := (tot_take_pos (k := j) (fun y hy => (HNm.out.span hy).2.1))
            have ht2 := (tot_take_pos (k := j + 1) (fun y hy => (HNm.out.span hy).2.1))
            have ht3 := HNm.out.tot.2
            have hsx := HNm.out.span (List.mem_of_getElem? hx)
            rw [HT.out] at ht2
            obtain ⟨T, hT⟩ : ∃ T, tot (O.take j) = T := ⟨_, rfl⟩
            obtain ⟨A, hA⟩ : ∃ A, x.1 = A := ⟨_, rfl⟩
            obtain ⟨C, hC⟩ : ∃ C, x.2 = C := ⟨_, rfl⟩
            have hHT := HT.out
            rw [hT, hA, hC] at hHT
            rw [hT, hA, hC] at ht2
            rw [hT] at ht1
            rw [hA, hC] at hsx
            rw [hA] at hx1
            rw [hC] at hx2
            rw [hT]
            have HT2 := Lib.hid hHT
            obtain ⟨Z, hZ⟩ : ∃ Z, tot O = Z := ⟨_, rfl⟩
            rw [hZ] at ht1 ht2 ht3
            unfold lo hi at hsx
            have b1 : 0 ≤ T := ht1.1
            have b2 : T ≤ 2305843009213693952 := by omega
            have b3 : 0 ≤ T + (C - A) := ht2.1
            have b4 : T + (C - A) ≤ 2305843009213693952 := by omega
            have b5 : C ≤ 1152921504606846976 := hsx.2.2
            have b7 : -1152921504606846976 ≤ A := hsx.1
            have b8 : A ≤ C := hsx.2.1
            have hkd : decide (j < m) = true := decide_eq_true hlt
            clear hHT ht1 ht2 ht3 hZ hT hA hC hx hsx HT
            go_wp2
            have HB1' := Lib.hid (HB.out.alloc HB.out.size (.cells #[.int .i64 A, .int .i64 C] 24))
            go_roundw
            case rel => exact ⟨j + 1, by omega, by go_num, by rw [HT2.out], HB1'⟩
            case measure => simp [intOf]; omega
          · obtain rfl : j = m := by omega
            have hkd : decide (j < j) = false := decide_eq_false (by omega)
            have hE : O.take j = O := by rw [← HMl.out, List.take_length]
            rw [hE]
            obtain ⟨wg, hwg⟩ : ∃ wg : World, wg = wr := ⟨_, rfl⟩
            subst hwg
            obtain ⟨m, hmj⟩ : ∃ m, m = j := ⟨_, rfl⟩
            subst hmj
            obtain ⟨tt, htt⟩ : ∃ tt, tot O = tt := ⟨_, rfl⟩
            obtain ⟨hb, hhb⟩ : ∃ hb, hasS nn O = hb := ⟨_, rfl⟩
            obtain ⟨I, hI⟩ : ∃ I, inS O (s1, t1) = I := ⟨_, rfl⟩
            obtain ⟨Ms, hMs⟩ : ∃ Ms, missS O (s1, t1) = Ms := ⟨_, rfl⟩
            obtain ⟨mi, hmi⟩ : ∃ mi, I.length = mi := ⟨_, rfl⟩
            obtain ⟨mm, hmm⟩ : ∃ mm, Ms.length = mm := ⟨_, rfl⟩
            have hi1 := in_len O (s1, t1)
            have hi2 := miss_len O (s1, t1)
            rw [hI, hmi, HMl.out] at hi1
            rw [hMs, hmm, HMl.out] at hi2
            have HLim : Hid (m ≤ 26 ∧ mi ≤ 30 ∧ mm ≤ 30) := Lib.hid ⟨by omega, by omega, by omega⟩
            have hOw := HOg.out.below HB.out
            have HOw := Lib.hid hOw
            rw [htt]
            have HTt := Lib.hid htt
            have HHb := Lib.hid hhb
            have HI := Lib.hid hI
            have HMs := Lib.hid hMs
            have HMi := Lib.hid hmi
            have HMm := Lib.hid hmm
            have q0 : (tt != tt) = false := by simp
            have q1 : (hb != hb) = false := by simp
            clear hE htt hhb hI hMs hmi hmm hi1 hi2 hOw HB HIj HAj HOg hm26 hlt
            go_upto_region 23 with fail
            refine Go.Proofs.Ytjbjflmpdmflmaa.R.wp_region_prog [] (by kernel_rfl) (fun _ _ v => (OneL s O (.slice a8 m c8) O W1 v ∧ Below wg.heap.size wg v)) (fun a b => Below a.heap.size a b) (PlOk p s a8 m c8 mi mm O I Ms tt nn s1 t1 hb) (by rfl) (by kernel_rfl) (by kernel_rfl) (by kernel_rfl) ?hcong ?hOk ?hop ?hdone ?h0
            case hcong => intro k f f2 u hs hst; exact hst
            case hOk => intro i u w1 w2 h hr; unfold PlOk at h ⊢; split at h <;> first | exact h | (obtain ⟨x, y, e, h1⟩ := h; exact ⟨x, y, e, h1.belowAll hr⟩)
            case h0 => exact ⟨HOw.out.below ((Below.refl _ _).drew), (Below.refl _ _).drew⟩
            case hop =>
              refine ⟨?_, ?_, ?_, ?_, ?_, ?_, ?_, ?_, ?_, ?_, ?_, ?_, ?_, ?_, ?_, ?_, ?_, ?_, ?_, ?_, ?_, ?_, ?_, ?_, ?_, ?_, ?_, ?_, ?_, ?_, ?_, ?_, ?_, ?_, ?_, trivial⟩
              · intro k z v hst hag hdep
                refine .inl ⟨rfl, fun K hK => ?_⟩
                have d7 : z.tmps.getD 7 undef = .pointer (some ⟨s, 0, none⟩) := hag.2.2 7 (by kernel_rfl)
                have e7 := d7
                rw [Array.getD_eq_getD_getElem?] at e7
                have hst : (OneL s O (.slice a8 m c8) O W1 v ∧ Below wg.heap.size wg v) := hst
                have HC := Lib.hid (hst.1.see fun M hM => stspans_any hM (by have := HLim.out; rw [HMl.out]; omega))
                have HSt := Lib.hid hst
                clear hdep hag hst
                go_simp
                refine HC.out.mono ?_
                rintro e w' ⟨x, rfl, ho, hb⟩
                obtain ⟨ax, cx, rfl, hx, -, -⟩ := ho.shape
                rw [HMl.out] at hx ⊢
                exact hK _ _ hb ⟨ax, cx, rfl, hx⟩ ⟨HSt.out.1.below hb, HSt.out.2.trans (hb.mono HSt.out.2.size)⟩
              · intro k z v hst hag hdep
                refine .inl ⟨rfl, fun K hK => ?_⟩
                have d8 : z.tmps.getD 8 undef = .slice a8 m c8 := hag.2.2 8 (by kernel_rfl)
                have e8 := d8
                rw [Array.getD_eq_getD_getElem?] at e8
                have HSt := Lib.hid hst
                clear hdep hag hst
                go_simp
                exact hK _ _ (Below.refl _ _) rfl HSt.out
              · intro k z v hst hag hdep
                refine .inl ⟨rfl, fun K hK => ?_⟩
                have d73' : PlOk p s a8 m c8 mi mm O I Ms tt nn s1 t1 hb 0 (z.tmps.getD 73 undef) v := hdep { on := 0, ground := .data } (by simp) rfl _ _ rfl rfl
                simp only [PlOk] at d73'
                obtain ⟨a73, c73, d73, h73⟩ := d73'
                have e73 := d73
                rw [Array.getD_eq_getD_getElem?] at e73
                have d74 : z.tmps.getD 74 undef = .slice a8 m c8 := hdep { on := 1, ground := .data } (by simp) rfl _ _ rfl rfl
                have e74 := d74
                rw [Array.getD_eq_getD_getElem?] at e74
                have hst : (OneL s O (.slice a8 m c8) O W1 v ∧ Below wg.heap.size wg v) := hst
                have hL8 := hst.1.pairs.1
                have HC := Lib.hid (same_any a73 c73 a8 c8 m O v h73 hL8 (by have := HLim.out; omega))
                clear h73 hL8
                have HSt := Lib.hid hst
                clear hdep hag hst
                go_simp
                refine HC.out.mono ?_
                rintro e w' ⟨rfl, hb⟩
                exact hK _ _ hb rfl ⟨HSt.out.1.below hb, HSt.out.2.trans (hb.mono HSt.out.2.size)⟩
              · intro k z v hst hag hdep
                refine .inl ⟨rfl, fun K hK => ?_⟩
                have d75 : z.tmps.getD 75 undef = .bool true := hdep { on := 2, ground := .data } (by simp) rfl _ _ rfl rfl
                have e75 := d75
                rw [Array.getD_eq_getD_getElem?] at e75
                have HSt := Lib.hid hst
                clear hdep hag hst
                go_simp
                exact hK _ _ (Below.refl _ _) rfl HSt.out
              · intro k z v hst hag hdep
                refine .inl ⟨rfl, fun K hK => ?_⟩
                have d76 : z.tmps.getD 76 undef = .bool false := hdep { on := 3, ground := .data } (by simp) rfl _ _ rfl rfl
                have e76 := d76
                rw [Array.getD_eq_getD_getElem?] at e76
                have HSt := Lib.hid hst
                clear hdep hag hst
                go_simp
                exact hK _ _ (Below.refl _ _) rfl HSt.out
              · intro k z v hst hag hdep
                have dg : PlOk p s a8 m c8 mi mm O I Ms tt nn s1 t1 hb 4 (z.tmps.getD 77 undef) v := hdep { on := 4, ground := .guard } (by simp) rfl _ _ rfl rfl
                simp only [PlOk] at dg
                refine .inl ⟨Go.Proofs.Ytjbjflmpdmflmaa.R.wanted_of (j := 4) rfl rfl rfl dg (by rw [hag.2.1]; show 77 < 108; decide), fun K hK => ?_⟩
                have d7 : z.tmps.getD 7 undef = .pointer (some ⟨s, 0, none⟩) := hag.2.2 7 (by kernel_rfl)
                have e7 := d7
                rw [Array.getD_eq_getD_getElem?] at e7
                have hst : (OneL s O (.slice a8 m c8) O W1 v ∧ Below wg.heap.size wg v) := hst
                have HC := Lib.hid (hst.1.see fun M hM => stlen_any hM HNm.out (by have := HLim.out; rw [HMl.out]; omega))
                rw [HTt.out] at HC
                have HSt := Lib.hid hst
                clear hdep hag hst
                go_simp
                refine HC.out.mono ?_
                rintro e w' ⟨rfl, hb⟩
                exact hK _ _ hb rfl ⟨HSt.out.1.below hb, HSt.out.2.trans (hb.mono HSt.out.2.size)⟩
              · intro k z v hst hag hdep
                have dg : PlOk p s a8 m c8 mi mm O I Ms tt nn s1 t1 hb 4 (z.tmps.getD 77 undef) v := hdep { on := 4, ground := .guard } (by simp) rfl _ _ rfl rfl
                simp only [PlOk] at dg
                refine .inl ⟨Go.Proofs.Ytjbjflmpdmflmaa.R.wanted_of (j := 4) rfl rfl rfl dg (by rw [hag.2.1]; show 77 < 108; decide), fun K hK => ?_⟩
                have d12 : z.tmps.getD 12 undef = .int .i64 tt := hag.2.2 12 (by kernel_rfl)
                have e12 := d12
                rw [Array.getD_eq_getD_getElem?] at e12
                have HSt := Lib.hid hst
                clear hdep hag hst
                go_simp
                exact hK _ _ (Below.refl _ _) rfl HSt.out
              · intro k z v hst hag hdep
                have dg : PlOk p s a8 m c8 mi mm O I Ms tt nn s1 t1 hb 4 (z.tmps.getD 77 undef) v := hdep { on := 4, ground := .guard } (by simp) rfl _ _ rfl rfl
                simp only [PlOk] at dg
                refine .inl ⟨Go.Proofs.Ytjbjflmpdmflmaa.R.wanted_of (j := 4) rfl rfl rfl dg (by rw [hag.2.1]; show 77 < 108; decide), fun K hK => ?_⟩
                have d78 : z.tmps.getD 78 undef = .int .i64 tt := hdep { on := 5, ground := .data } (by simp) rfl _ _ rfl rfl
                have e78 := d78
                rw [Array.getD_eq_getD_getElem?] at e78
                have d79 : z.tmps.getD 79 undef = .int .i64 tt := hdep { on := 6, ground := .data } (by simp) rfl _ _ rfl rfl
                have e79 := d79
                rw [Array.getD_eq_getD_getElem?] at e79
                have HSt := Lib.hid hst
                clear hdep hag hst
                go_simp
                exact hK _ _ (Below.refl _ _) rfl HSt.out
              · intro k z v hst hag hdep
                refine .inl ⟨rfl, fun K hK => ?_⟩
                have d77 : z.tmps.getD 77 undef = .bool false := hdep { on := 4, ground := .data } (by simp) rfl _ _ rfl rfl
                have e77 := d77
                rw [Array.getD_eq_getD_getElem?] at e77
                have d80 : z.tmps.getD 80 undef = .bool false := hdep { on := 7, ground := .data } (by simp) rfl _ _ rfl rfl
                have e80 := d80
                rw [Array.getD_eq_getD_getElem?] at e80
                have HSt := Lib.hid hst
                clear hdep hag hst
                go_simp
                exact hK _ _ (Below.refl _ _) rfl HSt.out
              · intro k z v hst hag hdep
                refine .inl ⟨rfl, fun K hK => ?_⟩
                have d81 : z.tmps.getD 81 undef = .bool false := hdep { on := 8, ground := .data } (by simp) rfl _ _ rfl rfl
                have e81 := d81
                rw [Array.getD_eq_getD_getElem?] at e81
                have HSt := Lib.hid hst
                clear hdep hag hst
                go_simp
                exact hK _ _ (Below.refl _ _) rfl HSt.out
              · intro k z v hst hag hdep
                have dg : PlOk p s a8 m c8 mi mm O I Ms tt nn s1 t1 hb 9 (z.tmps.getD 82 undef) v := hdep { on := 9, ground := .guard } (by simp) rfl _ _ rfl rfl
                simp only [PlOk] at dg
                refine .inl ⟨Go.Proofs.Ytjbjflmpdmflmaa.R.wanted_of (j := 9) rfl rfl rfl dg (by rw [hag.2.1]; show 82 < 108; decide), fun K hK => ?_⟩
                have d2 : z.tmps.getD 2 undef = .int .i64 nn := hag.2.2 2 (by kernel_rfl)
                have e2 := d2
                rw [Array.getD_eq_getD_getElem?] at e2
                have HSt := Lib.hid hst
                clear hdep hag hst
                go_simp
                exact hK _ _ (Below.refl _ _) rfl HSt.out
              · intro k z v hst hag hdep
                have dg : PlOk p s a8 m c8 mi mm O I Ms tt nn s1 t1 hb 9 (z.tmps.getD 82 undef) v := hdep { on := 9, ground := .guard } (by simp) rfl _ _ rfl rfl
                simp only [PlOk] at dg
                refine .inl ⟨Go.Proofs.Ytjbjflmpdmflmaa.R.wanted_of (j := 9) rfl rfl rfl dg (by rw [hag.2.1]; show 82 < 108; decide), fun K hK => ?_⟩
                have d7 : z.tmps.getD 7 undef = .pointer (some ⟨s, 0, none⟩) := hag.2.2 7 (by kernel_rfl)
                have e7 := d7
                rw [Array.getD_eq_getD_getElem?] at e7
                have d83 : z.tmps.getD 83 undef = .int .i64 nn := hdep { on := 10, ground := .data } (by simp) rfl _ _ rfl rfl
                have e83 := d83
                rw [Array.getD_eq_getD_getElem?] at e83
                have hst : (OneL s O (.slice a8 m c8) O W1 v ∧ Below wg.heap.size wg v) := hst
                have HC := Lib.hid (hst.1.see fun M hM => sthas_any hM HNm.out (by have := HLim.out; rw [HMl.out]; omega) nn)
                rw [HHb.out] at HC
                have HSt := Lib.hid hst
                clear hdep hag hst
                go_simp
                refine HC.out.mono ?_
                rintro e w' ⟨rfl, hb⟩
                exact hK _ _ hb rfl ⟨HSt.out.1.below hb, HSt.out.2.trans (hb.mono HSt.out.2.size)⟩
              · intro k z v hst hag hdep
                have dg : PlOk p s a8 m c8 mi mm O I Ms tt nn s1 t1 hb 9 (z.tmps.getD 82 undef) v := hdep { on := 9, ground := .guard } (by simp) rfl _ _ rfl rfl
                simp only [PlOk] at dg
                refine .inl ⟨Go.Proofs.Ytjbjflmpdmflmaa.R.wanted_of (j := 9) rfl rfl rfl dg (by rw [hag.2.1]; show 82 < 108; decide), fun K hK => ?_⟩
                have d8 : z.tmps.getD 8 undef = .slice a8 m c8 := hag.2.2 8 (by kernel_rfl)
                have e8 := d8
                rw [Array.getD_eq_getD_getElem?] at e8
                have HSt := Lib.hid hst
                clear hdep hag hst
                go_simp
                exact hK _ _ (Below.refl _ _) rfl HSt.out
              · intro k z v hst hag hdep
                have dg : PlOk p s a8 m c8 mi mm O I Ms tt nn s1 t1 hb 9 (z.tmps.getD 82 undef) v := hdep { on := 9, ground := .guard } (by simp) rfl _ _ rfl rfl
                simp only [PlOk] at dg
                refine .inl ⟨Go.Proofs.Ytjbjflmpdmflmaa.R.wanted_of (j := 9) rfl rfl rfl dg (by rw [hag.2.1]; show 82 < 108; decide), fun K hK => ?_⟩
                have d2 : z.tmps.getD 2 undef = .int .i64 nn := hag.2.2 2 (by kernel_rfl)
                have e2 := d2
                rw [Array.getD_eq_getD_getElem?] at e2
                have HSt := Lib.hid hst
                clear hdep hag hst
                go_simp
                exact hK _ _ (Below.refl _ _) rfl HSt.out
              · intro k z v hst hag hdep
                have dg : PlOk p s a8 m c8 mi mm O I Ms tt nn s1 t1 hb 9 (z.tmps.getD 82 undef) v := hdep { on := 9, ground := .guard } (by simp) rfl _ _ rfl rfl
                simp only [PlOk] at dg
                refine .inl ⟨Go.Proofs.Ytjbjflmpdmflmaa.R.wanted_of (j := 9) rfl rfl rfl dg (by rw [hag.2.1]; show 82 < 108; decide), fun K hK => ?_⟩
                have d85 : z.tmps.getD 85 undef = .slice a8 m c8 := hdep { on := 12, ground := .data } (by simp) rfl _ _ rfl rfl
                have e85 := d85
                rw [Array.getD_eq_getD_getElem?] at e85
                have d86 : z.tmps.getD 86 undef = .int .i64 nn := hdep { on := 13, ground := .data } (by simp) rfl _ _ rfl rfl
                have e86 := d86
                rw [Array.getD_eq_getD_getElem?] at e86
                have hst : (OneL s O (.slice a8 m c8) O W1 v ∧ Below wg.heap.size wg v) := hst
                have hL8 := hst.1.pairs
                have HC := Lib.hid (hasR_any a8 m c8 O nn v hL8.1 (by have := HLim.out; omega))
                rw [HHb.out] at HC
                clear hL8
                have HSt := Lib.hid hst
                clear hdep hag hst
                go_simp
                refine HC.out.mono ?_
                rintro e w' ⟨rfl, hb⟩
                exact hK _ _ hb rfl ⟨HSt.out.1.below hb, HSt.out.2.trans (hb.mono HSt.out.2.size)⟩
              · intro k z v hst hag hdep
                have dg : PlOk p s a8 m c8 mi mm O I Ms tt nn s1 t1 hb 9 (z.tmps.getD 82 undef) v := hdep { on := 9, ground := .guard } (by simp) rfl _ _ rfl rfl
                simp only [PlOk] at dg
                refine .inl ⟨Go.Proofs.Ytjbjflmpdmflmaa.R.wanted_of (j := 9) rfl rfl rfl dg (by rw [hag.2.1]; show 82 < 108; decide), fun K hK => ?_⟩
                have d84 : z.tmps.getD 84 undef = .bool hb := hdep { on := 11, ground := .data } (by simp) rfl _ _ rfl rfl
                have e84 := d84
                rw [Array.getD_eq_getD_getElem?] at e84
                have d87 : z.tmps.getD 87 undef = .bool hb := hdep { on := 14, ground := .data } (by simp) rfl _ _ rfl rfl
                have e87 := d87
                rw [Array.getD_eq_getD_getElem?] at e87
                have HSt := Lib.hid hst
                clear hdep hag hst
                go_simp
                exact hK _ _ (Below.refl _ _) rfl HSt.out
              · intro k z v hst hag hdep
                refine .inl ⟨rfl, fun K hK => ?_⟩
                have d82 : z.tmps.getD 82 undef = .bool false := hdep { on := 9, ground := .data } (by simp) rfl _ _ rfl rfl
                have e82 := d82
                rw [Array.getD_eq_getD_getElem?] at e82
                have d88 : z.tmps.getD 88 undef = .bool false := hdep { on := 15, ground := .data } (by simp) rfl _ _ rfl rfl
                have e88 := d88
                rw [Array.getD_eq_getD_getElem?] at e88
                have HSt := Lib.hid hst
                clear hdep hag hst
                go_simp
                exact hK _ _ (Below.refl _ _) rfl HSt.out
              · intro k z v hst hag hdep
                refine .inl ⟨rfl, fun K hK => ?_⟩
                have d89 : z.tmps.getD 89 undef = .bool false := hdep { on := 16, ground := .data } (by simp) rfl _ _ rfl rfl
                have e89 := d89
                rw [Array.getD_eq_getD_getElem?] at e89
                have HSt := Lib.hid hst
                clear hdep hag hst
                go_simp
                exact hK _ _ (Below.refl _ _) rfl HSt.out
              · intro k z v hst hag hdep
                have dg : PlOk p s a8 m c8 mi mm O I Ms tt nn s1 t1 hb 17 (z.tmps.getD 90 undef) v := hdep { on := 17, ground := .guard } (by simp) rfl _ _ rfl rfl
                simp only [PlOk] at dg
                refine .inl ⟨Go.Proofs.Ytjbjflmpdmflmaa.R.wanted_of (j := 17) rfl rfl rfl dg (by rw [hag.2.1]; show 90 < 108; decide), fun K hK => ?_⟩
                have d4 : z.tmps.getD 4 undef = .pointer (some ⟨p, 0, none⟩) := hag.2.2 4 (by kernel_rfl)
                have e4 := d4
                rw [Array.getD_eq_getD_getElem?] at e4
                have hst : (OneL s O (.slice a8 m c8) O W1 v ∧ Below wg.heap.size wg v) := hst
                have hxr := heap_moved HXW.out hst.1.bel
                have l0 : v.cell? ⟨p, 0, none⟩ = some (.int .i64 s1) := by rw [cell_block hxr]; rfl
                have l1 : v.cell? ⟨p, 1, none⟩ = some (.int .i64 t1) := by rw [cell_block hxr]; rfl
                clear hxr
                have HSt := Lib.hid hst
                clear hdep hag hst
                go_simp
                exact hK _ _ (Below.refl _ _) rfl HSt.out
              · intro k z v hst hag hdep
                have dg : PlOk p s a8 m c8 mi mm O I Ms tt nn s1 t1 hb 17 (z.tmps.getD 90 undef) v := hdep { on := 17, ground := .guard } (by simp) rfl _ _ rfl rfl
                simp only [PlOk] at dg
                refine .inl ⟨Go.Proofs.Ytjbjflmpdmflmaa.R.wanted_of (j := 17) rfl rfl rfl dg (by rw [hag.2.1]; show 90 < 108; decide), fun K hK => ?_⟩
                have d7 : z.tmps.getD 7 undef = .pointer (some ⟨s, 0, none⟩) := hag.2.2 7 (by kernel_rfl)
                have e7 := d7
                rw [Array.getD_eq_getD_getElem?] at e7
                have d91 : z.tmps.getD 91 undef = .agg #[.int .i64 s1, .int .i64 t1] := hdep { on := 18, ground := .data } (by simp) rfl _ _ rfl rfl
                have e91 := d91
                rw [Array.getD_eq_getD_getElem?] at e91
                have hst : (OneL s O (.slice a8 m c8) O W1 v ∧ Below wg.heap.size wg v) := hst
                have HC := Lib.hid (hst.1.see fun M hM => stin_any hM HNm.out (by have := HLim.out; rw [HMl.out]; omega) s1 t1)
                rw [HI.out] at HC
                have HSt := Lib.hid hst
                clear hdep hag hst
                go_simp
                refine HC.out.mono ?_
                rintro e w' ⟨x, rfl, ho, hb⟩
                obtain ⟨ax, cx, rfl, hx, -, -⟩ := ho.shape
                rw [HMi.out] at hx ⊢
                exact hK _ _ hb ⟨ax, cx, rfl, hx⟩ ⟨HSt.out.1.below hb, HSt.out.2.trans (hb.mono HSt.out.2.size)⟩
              · intro k z v hst hag hdep
                have dg : PlOk p s a8 m c8 mi mm O I Ms tt nn s1 t1 hb 17 (z.tmps.getD 90 undef) v := hdep { on := 17, ground := .guard } (by simp) rfl _ _ rfl rfl
                simp only [PlOk] at dg
                refine .inl ⟨Go.Proofs.Ytjbjflmpdmflmaa.R.wanted_of (j := 17) rfl rfl rfl dg (by rw [hag.2.1]; show 90 < 108; decide), fun K hK => ?_⟩
                have d8 : z.tmps.getD 8 undef = .slice a8 m c8 := hag.2.2 8 (by kernel_rfl)
                have e8 := d8
                rw [Array.getD_eq_getD_getElem?] at e8
                have HSt := Lib.hid hst
                clear hdep hag hst
                go_simp
                exact hK _ _ (Below.refl _ _) rfl HSt.out
              · intro k z v hst hag hdep
                have dg : PlOk p s a8 m c8 mi mm O I Ms tt nn s1 t1 hb 17 (z.tmps.getD 90 undef) v := hdep { on := 17, ground := .guard } (by simp) rfl _ _ rfl rfl
                simp only [PlOk] at dg
                refine .inl ⟨Go.Proofs.Ytjbjflmpdmflmaa.R.wanted_of (j := 17) rfl rfl rfl dg (by rw [hag.2.1]; show 90 < 108; decide), fun K hK => ?_⟩
                have d4 : z.tmps.getD 4 undef = .pointer (some ⟨p, 0, none⟩) := hag.2.2 4 (by kernel_rfl)
                have e4 := d4
                rw [Array.getD_eq_getD_getElem?] at e4
                have hst : (OneL s O (.slice a8 m c8) O W1 v ∧ Below wg.heap.size wg v) := hst
                have hxr := heap_moved HXW.out hst.1.bel
                have l0 : v.cell? ⟨p, 0, none⟩ = some (.int .i64 s1) := by rw [cell_block hxr]; rfl
                have l1 : v.cell? ⟨p, 1, none⟩ = some (.int .i64 t1) := by rw [cell_block hxr]; rfl
                clear hxr
                have HSt := Lib.hid hst
                clear hdep hag hst
                go_simp
                exact hK _ _ (Below.refl _ _) rfl HSt.out
              · intro k z v hst hag hdep
                have dg : PlOk p s a8 m c8 mi mm O I Ms tt nn s1 t1 hb 17 (z.tmps.getD 90 undef) v := hdep { on := 17, ground := .guard } (by simp) rfl _ _ rfl rfl
                simp only [PlOk] at dg
                refine .inl ⟨Go.Proofs.Ytjbjflmpdmflmaa.R.wanted_of (j := 17) rfl rfl rfl dg (by rw [hag.2.1]; show 90 < 108; decide), fun K hK => ?_⟩
                have d93 : z.tmps.getD 93 undef = .slice a8 m c8 := hdep { on := 20, ground := .data } (by simp) rfl _ _ rfl rfl
                have e93 := d93
                rw [Array.getD_eq_getD_getElem?] at e93
                have d94 : z.tmps.getD 94 undef = .agg #[.int .i64 s1, .int .i64 t1] := hdep { on := 21, ground := .data } (by simp) rfl _ _ rfl rfl
                have e94 := d94
                rw [Array.getD_eq_getD_getElem?] at e94
                have hst : (OneL s O (.slice a8 m c8) O W1 v ∧ Below wg.heap.size wg v) := hst
                have hL8 := hst.1.pairs
                have HC := Lib.hid (rin_any a8 m c8 O s1 t1 v hL8.1 hL8.2 HNm.out (by have := HLim.out; omega))
                rw [HI.out] at HC
                clear hL8
                have HSt := Lib.hid hst
                clear hdep hag hst
                go_simp
                refine HC.out.mono ?_
                rintro e w' ⟨x, rfl, ho, hb⟩
                obtain ⟨ax, cx, rfl, hx, -, -⟩ := ho.shape
                rw [HMi.out] at hx ⊢
                exact hK _ _ hb ⟨ax, cx, rfl, hx⟩ ⟨HSt.out.1.below hb, HSt.out.2.trans (hb.mono HSt.out.2.size)⟩
              · intro k z v hst hag hdep
                have dg : PlOk p s a8 m c8 mi mm O I Ms tt nn s1 t1 hb 17 (z.tmps.getD 90 undef) v := hdep { on := 17, ground := .guard } (by simp) rfl _ _ rfl rfl
                simp only [PlOk] at dg
                refine .inl ⟨Go.Proofs.Ytjbjflmpdmflmaa.R.wanted_of (j := 17) rfl rfl rfl dg (by rw [hag.2.1]; show 90 < 108; decide), fun K hK => ?_⟩
                have d92' : PlOk p s a8 m c8 mi mm O I Ms tt nn s1 t1 hb 19 (z.tmps.getD 92 undef) v := hdep { on := 19, ground := .data } (by simp) rfl _ _ rfl rfl
                simp only [PlOk] at d92'
                obtain ⟨a92, c92, d92, h92⟩ := d92'
                have e92 := d92
                rw [Array.getD_eq_getD_getElem?] at e92
                have d95' : PlOk p s a8 m c8 mi mm O I Ms tt nn s1 t1 hb 22 (z.tmps.getD 95 undef) v := hdep { on := 22, ground := .data } (by simp) rfl _ _ rfl rfl
                simp only [PlOk] at d95'
                obtain ⟨a95, c95, d95, h95⟩ := d95'
                have e95 := d95
                rw [Array.getD_eq_getD_getElem?] at e95
                have hst : (OneL s O (.slice a8 m c8) O W1 v ∧ Below wg.heap.size wg v) := hst
                have HC := Lib.hid (same_any a92 c92 a95 c95 mi I v h92 h95 (by have := HLim.out; omega))
                clear h92 h95
                have HSt := Lib.hid hst
                clear hdep hag hst
                go_simp
                refine HC.out.mono ?_
                rintro e w' ⟨rfl, hb⟩
                exact hK _ _ hb rfl ⟨HSt.out.1.below hb, HSt.out.2.trans (hb.mono HSt.out.2.size)⟩
              · intro k z v hst hag hdep
                have dg : PlOk p s a8 m c8 mi mm O I Ms tt nn s1 t1 hb 17 (z.tmps.getD 90 undef) v := hdep { on := 17, ground := .guard } (by simp) rfl _ _ rfl rfl
                simp only [PlOk] at dg
                refine .inl ⟨Go.Proofs.Ytjbjflmpdmflmaa.R.wanted_of (j := 17) rfl rfl rfl dg (by rw [hag.2.1]; show 90 < 108; decide), fun K hK => ?_⟩
                have d96 : z.tmps.getD 96 undef = .bool true := hdep { on := 23, ground := .data } (by simp) rfl _ _ rfl rfl
                have e96 := d96
                rw [Array.getD_eq_getD_getElem?] at e96
                have HSt := Lib.hid hst
                clear hdep hag hst
                go_simp
                exact hK _ _ (Below.refl _ _) rfl HSt.out
              · intro k z v hst hag hdep
                refine .inl ⟨rfl, fun K hK => ?_⟩
                have d90 : z.tmps.getD 90 undef = .bool false := hdep { on := 17, ground := .data } (by simp) rfl _ _ rfl rfl
                have e90 := d90
                rw [Array.getD_eq_getD_getElem?] at e90
                have d97 : z.tmps.getD 97 undef = .bool false := hdep { on := 24, ground := .data } (by simp) rfl _ _ rfl rfl
                have e97 := d97
                rw [Array.getD_eq_getD_getElem?] at e97
                have HSt := Lib.hid hst
                clear hdep hag hst
                go_simp
                exact hK _ _ (Below.refl _ _) rfl HSt.out
              · intro k z v hst hag hdep
                refine .inl ⟨rfl, fun K hK => ?_⟩
                have d98 : z.tmps.getD 98 undef = .bool false := hdep { on := 25, ground := .data } (by simp) rfl _ _ rfl rfl
                have e98 := d98
                rw [Array.getD_eq_getD_getElem?] at e98
                have HSt := Lib.hid hst
                clear hdep hag hst
                go_simp
                exact hK _ _ (Below.refl _ _) rfl HSt.out
              · intro k z v hst hag hdep
                have dg : PlOk p s a8 m c8 mi mm O I Ms tt nn s1 t1 hb 26 (z.tmps.getD 99 undef) v := hdep { on := 26, ground := .guard } (by simp) rfl _ _ rfl rfl
                simp only [PlOk] at dg
                refine .inl ⟨Go.Proofs.Ytjbjflmpdmflmaa.R.wanted_of (j := 26) rfl rfl rfl dg (by rw [hag.2.1]; show 99 < 108; decide), fun K hK => ?_⟩
                have d4 : z.tmps.getD 4 undef = .pointer (some ⟨p, 0, none⟩) := hag.2.2 4 (by kernel_rfl)
                have e4 := d4
                rw [Array.getD_eq_getD_getElem?] at e4
                have hst : (OneL s O (.slice a8 m c8) O W1 v ∧ Below wg.heap.size wg v) := hst
                have hxr := heap_moved HXW.out hst.1.bel
                have l0 : v.cell? ⟨p, 0, none⟩ = some (.int .i64 s1) := by rw [cell_block hxr]; rfl
                have l1 : v.cell? ⟨p, 1, none⟩ = some (.int .i64 t1) := by rw [cell_block hxr]; rfl
                clear hxr
                have HSt := Lib.hid hst
                clear hdep hag hst
                go_simp
                exact hK _ _ (Below.refl _ _) rfl HSt.out
              · intro k z v hst hag hdep
                have dg : PlOk p s a8 m c8 mi mm O I Ms tt nn s1 t1 hb 26 (z.tmps.getD 99 undef) v := hdep { on := 26, ground := .guard } (by simp) rfl _ _ rfl rfl
                simp only [PlOk] at dg
                refine .inl ⟨Go.Proofs.Ytjbjflmpdmflmaa.R.wanted_of (j := 26) rfl rfl rfl dg (by rw [hag.2.1]; show 99 < 108; decide), fun K hK => ?_⟩
                have d7 : z.tmps.getD 7 undef = .pointer (some ⟨s, 0, none⟩) := hag.2.2 7 (by kernel_rfl)
                have e7 := d7
                rw [Array.getD_eq_getD_getElem?] at e7
                have d100 : z.tmps.getD 100 undef = .agg #[.int .i64 s1, .int .i64 t1] := hdep { on := 27, ground := .data } (by simp) rfl _ _ rfl rfl
                have e100 := d100
                rw [Array.getD_eq_getD_getElem?] at e100
                have hst : (OneL s O (.slice a8 m c8) O W1 v ∧ Below wg.heap.size wg v) := hst
                have HC := Lib.hid (hst.1.see fun M hM => stmiss_any hM HNm.out (by have := HLim.out; rw [HMl.out]; omega) s1 t1)
                rw [HMs.out] at HC
                have HSt := Lib.hid hst
                clear hdep hag hst
                go_simp
                refine HC.out.mono ?_
                rintro e w' ⟨x, rfl, ho, hb⟩
                obtain ⟨ax, cx, rfl, hx, -, -⟩ := ho.shape
                rw [HMm.out] at hx ⊢
                exact hK _ _ hb ⟨ax, cx, rfl, hx⟩ ⟨HSt.out.1.below hb, HSt.out.2.trans (hb.mono HSt.out.2.size)⟩
              · intro k z v hst hag hdep
                have dg : PlOk p s a8 m c8 mi mm O I Ms tt nn s1 t1 hb 26 (z.tmps.getD 99 undef) v := hdep { on := 26, ground := .guard } (by simp) rfl _ _ rfl rfl
                simp only [PlOk] at dg
                refine .inl ⟨Go.Proofs.Ytjbjflmpdmflmaa.R.wanted_of (j := 26) rfl rfl rfl dg (by rw [hag.2.1]; show 99 < 108; decide), fun K hK => ?_⟩
                have d8 : z.tmps.getD 8 undef = .slice a8 m c8 := hag.2.2 8 (by kernel_rfl)
                have e8 := d8
                rw [Array.getD_eq_getD_getElem?] at e8
                have HSt := Lib.hid hst
                clear hdep hag hst
                go_simp
                exact hK _ _ (Below.refl _ _) rfl HSt.out
              · intro k z v hst hag hdep
                have dg : PlOk p s a8 m c8 mi mm O I Ms tt nn s1 t1 hb 26 (z.tmps.getD 99 undef) v := hdep { on := 26, ground := .guard } (by simp) rfl _ _ rfl rfl
                simp only [PlOk] at dg
                refine .inl ⟨Go.Proofs.Ytjbjflmpdmflmaa.R.wanted_of (j := 26) rfl rfl rfl dg (by rw [hag.2.1]; show 99 < 108; decide), fun K hK => ?_⟩
                have d4 : z.tmps.getD 4 undef = .pointer (some ⟨p, 0, none⟩) := hag.2.2 4 (by kernel_rfl)
                have e4 := d4
                rw [Array.getD_eq_getD_getElem?] at e4
                have hst : (OneL s O (.slice a8 m c8) O W1 v ∧ Below wg.heap.size wg v) := hst
                have hxr := heap_moved HXW.out hst.1.bel
                have l0 : v.cell? ⟨p, 0, none⟩ = some (.int .i64 s1) := by rw [cell_block hxr]; rfl
                have l1 : v.cell? ⟨p, 1, none⟩ = some (.int .i64 t1) := by rw [cell_block hxr]; rfl
                clear hxr
                have HSt := Lib.hid hst
                clear hdep hag hst
                go_simp
                exact hK _ _ (Below.refl _ _) rfl HSt.out
              · intro k z v hst hag hdep
                have dg : PlOk p s a8 m c8 mi mm O I Ms tt nn s1 t1 hb 26 (z.tmps.getD 99 undef) v := hdep { on := 26, ground := .guard } (by simp) rfl _ _ rfl rfl
                simp only [PlOk] at dg
                refine .inl ⟨Go.Proofs.Ytjbjflmpdmflmaa.R.wanted_of (j := 26) rfl rfl rfl dg (by rw [hag.2.1]; show 99 < 108; decide), fun K hK => ?_⟩
                have d102 : z.tmps.getD 102 undef = .slice a8 m c8 := hdep { on := 29, ground := .data } (by simp) rfl _ _ rfl rfl
                have e102 := d102
                rw [Array.getD_eq_getD_getElem?] at e102
                have d103 : z.tmps.getD 103 undef = .agg #[.int .i64 s1, .int .i64 t1] := hdep { on := 30, ground := .data } (by simp) rfl _ _ rfl rfl
                have e103 := d103
                rw [Array.getD_eq_getD_getElem?] at e103
                have hst : (OneL s O (.slice a8 m c8) O W1 v ∧ Below wg.heap.size wg v) := hst
                have hL8 := hst.1.pairs
                have HC := Lib.hid (rmiss_any a8 m c8 O s1 t1 v hL8.1 hL8.2 HNm.out (by have := HLim.out; omega))
                rw [HMs.out] at HC
                clear hL8
                have HSt := Lib.hid hst
                clear hdep hag hst
                go_simp
                refine HC.out.mono ?_
                rintro e w' ⟨x, rfl, ho, hb⟩
                obtain ⟨ax, cx, rfl, hx, -, -⟩ := ho.shape
                rw [HMm.out] at hx ⊢
                exact hK _ _ hb ⟨ax, cx, rfl, hx⟩ ⟨HSt.out.1.below hb, HSt.out.2.trans (hb.mono HSt.out.2.size)⟩
              · intro k z v hst hag hdep
                have dg : PlOk p s a8 m c8 mi mm O I Ms tt nn s1 t1 hb 26 (z.tmps.getD 99 undef) v := hdep { on := 26, ground := .guard } (by simp) rfl _ _ rfl rfl
                simp only [PlOk] at dg
                refine .inl ⟨Go.Proofs.Ytjbjflmpdmflmaa.R.wanted_of (j := 26) rfl rfl rfl dg (by rw [hag.2.1]; show 99 < 108; decide), fun K hK => ?_⟩
                have d101' : PlOk p s a8 m c8 mi mm O I Ms tt nn s1 t1 hb 28 (z.tmps.getD 101 undef) v := hdep { on := 28, ground := .data } (by simp) rfl _ _ rfl rfl
                simp only [PlOk] at d101'
                obtain ⟨a101, c101, d101, h101⟩ := d101'
                have e101 := d101
                rw [Array.getD_eq_getD_getElem?] at e101
                have d104' : PlOk p s a8 m c8 mi mm O I Ms tt nn s1 t1 hb 31 (z.tmps.getD 104 undef) v := hdep { on := 31, ground := .data } (by simp) rfl _ _ rfl rfl
                simp only [PlOk] at d104'
                obtain ⟨a104, c104, d104, h104⟩ := d104'
                have e104 := d104
                rw [Array.getD_eq_getD_getElem?] at e104
                have hst : (OneL s O (.slice a8 m c8) O W1 v ∧ Below wg.heap.size wg v) := hst
                have HC := Lib.hid (same_any a101 c101 a104 c104 mm Ms v h101 h104 (by have := HLim.out; omega))
                clear h101 h104
                have HSt := Lib.hid hst
                clear hdep hag hst
                go_simp
                refine HC.out.mono ?_
                rintro e w' ⟨rfl, hb⟩
                exact hK _ _ hb rfl ⟨HSt.out.1.below hb, HSt.out.2.trans (hb.mono HSt.out.2.size)⟩
              · intro k z v hst hag hdep
                have dg : PlOk p s a8 m c8 mi mm O I Ms tt nn s1 t1 hb 26 (z.tmps.getD 99 undef) v := hdep { on := 26, ground := .guard } (by simp) rfl _ _ rfl rfl
                simp only [PlOk] at dg
                refine .inl ⟨Go.Proofs.Ytjbjflmpdmflmaa.R.wanted_of (j := 26) rfl rfl rfl dg (by rw [hag.2.1]; show 99 < 108; decide), fun K hK => ?_⟩
                have d105 : z.tmps.getD 105 undef = .bool true := hdep { on := 32, ground := .data } (by simp) rfl _ _ rfl rfl
                have e105 := d105
                rw [Array.getD_eq_getD_getElem?] at e105
                have HSt := Lib.hid hst
                clear hdep hag hst
                go_simp
                exact hK _ _ (Below.refl _ _) rfl HSt.out
              · intro k z v hst hag hdep
                refine .inl ⟨rfl, fun K hK => ?_⟩
                have d99 : z.tmps.getD 99 undef = .bool false := hdep { on := 26, ground := .data } (by simp) rfl _ _ rfl rfl
                have e99 := d99
                rw [Array.getD_eq_getD_getElem?] at e99
                have d106 : z.tmps.getD 106 undef = .bool false := hdep { on := 33, ground := .data } (by simp) rfl _ _ rfl rfl
                have e106 := d106
                rw [Array.getD_eq_getD_getElem?] at e106
                have HSt := Lib.hid hst
                clear hdep hag hst
                go_simp
                exact hK _ _ (Below.refl _ _) rfl HSt.out
            case hdone =>
              intro z v hst hag hok
              have hst : (OneL s O (.slice a8 m c8) O W1 v ∧ Below wg.heap.size wg v) := hst
              have d107 : z.tmps.getD 107 undef = .bool false := hok 34 _ 107 rfl rfl
              have HFin : Hid (∃ O, OneL s O (.slice a8 m c8) O W1 v ∧ Nm O ∧ O.length ≤ k + 1) := Lib.hid ⟨O, hst.1, HNm.out, by rw [HMl.out]; exact HOlk.out⟩
              clear hst
              obtain ⟨uu, hu, hzz⟩ := Go.Proofs.Ytjbjflmpdmflmaa.R.agree_frame [73, 74, 75, 76, 77, 78, 79, 80, 81, 82, 83, 84, 85, 86, 87, 88, 89, 90, 91, 92, 93, 94, 95, 96, 97, 98, 99, 100, 101, 102, 103, 104, 105, 106, 107] rfl hag
              have e107 := (hu 107).trans d107
              subst hzz
              simp only [List.foldl_cons, List.foldl_nil]
              rw [e107]
              clear e107 d107 hu hag hok
              try dsimp only [Exit.then]
              simp only [List.setIfInBounds_toArray, List.set_cons_succ, List.set_cons_zero]
              generalize uu 73 = u73', uu 74 = u74', uu 75 = u75', uu 76 = u76', uu 77 = u77', uu 78 = u78', uu 79 = u79', uu 80 = u80', uu 81 = u81', uu 82 = u82', uu 83 = u83', uu 84 = u84', uu 85 = u85', uu 86 = u86', uu 87 = u87', uu 88 = u88', uu 89 = u89', uu 90 = u90', uu 91 = u91', uu 92 = u92', uu 93 = u93', uu 94 = u94', uu 95 = u95', uu 96 = u96', uu 97 = u97', uu 98 = u98', uu 99 = u99', uu 100 = u100', uu 101 = u101', uu 102 = u102', uu 103 = u103', uu 104 = u104', uu 105 = u105', uu 106 = u106'
              clear uu
              rename_i K4 hK4
              refine hK4 _ _ ?_
              go_wp2_with fail
              go_roundw
              case rel => exact ⟨k + 1, by go_num, by omega, HFin⟩
              case measure => simp [intOf]; omega
    · obtain rfl : k = N := by omega
      have hor : k = n ∧ (decide (k < n) = false) ∨ k = 25 ∧ k < n ∧ decide (k < n) = true := by
        by_cases hkn : k < n
        · exact .inr ⟨by omega, hkn, decide_eq_true hkn⟩
        · exact .inl ⟨by omega, decide_eq_false hkn⟩
      obtain ⟨O, hO, -, -⟩ := HF2.out
      have hend := HB1.out.trans (hO.bel.mono HB1.out.size)
      have HEnd := Lib.hid hend
      clear hO hend HF2 hlt HF hN20 hk hN hnc htop hNn
      rcases hor with ⟨he, hd⟩ | ⟨he, hkn, hd⟩
      · subst he
        go_wp2_with fail
        rw [← HP.out]
        exact ⟨rfl, HEnd.out⟩
      · subst he
        go_wp2_with fail
        rw [← HP.out]
        exact ⟨rfl, HEnd.out⟩
end Go.Proofs.Ytjbjflmpdmflmaa.H
