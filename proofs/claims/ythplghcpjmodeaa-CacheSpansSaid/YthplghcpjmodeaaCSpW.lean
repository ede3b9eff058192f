/- CacheSpans: the spans have just the numbers that are at hand, and these are in the order in which they were asked for. -/
import Derived.Test.YthplghcpjmodeaaCMth
namespace Go.Proofs.Ythplghcpjmodeaa.C
open Go.RowKit Go.Maps Go.Proofs.Ythplghcpjmodeaa.H
open Go.Proofs.Ythplghcpjmodeaa.W (OwnI IntsIn)

theorem and_small (n : Int) (m : Nat) (hm : m < 4294967296) : ∃ t : Nat, bits .and .i64 n (m : Int) = (t : Int) ∧ t ≤ m := by
  refine ⟨(BitVec.ofInt 64 n &&& BitVec.ofInt 64 (m : Int)).toNat, ?_, ?_⟩
  · show IntKind.i64.wrap ((BitVec.ofInt 64 n &&& BitVec.ofInt 64 (m : Int)).toNat : Int) = _
    have h2 : (BitVec.ofInt 64 (m : Int)).toNat = m := by
      rw [BitVec.ofInt_natCast, BitVec.toNat_ofNat]; exact Nat.mod_eq_of_lt (by omega)
    have h3 : (BitVec.ofInt 64 n &&& BitVec.ofInt 64 (m : Int)).toNat ≤ m := by
      rw [BitVec.toNat_and, h2]; exact Nat.and_le_right
    rw [IntKind.wrap_i64]
    omega
  · rw [BitVec.toNat_and, BitVec.ofInt_natCast, BitVec.toNat_ofNat, Nat.mod_eq_of_lt (by omega : m < 2 ^ 64)]
    exact Nat.and_le_right
/-- an act that was handed in -/
structure CAct where
  kd : Int
  i : Int
  sa : Option Addr
  sn : Nat
  sc : Nat
  g : List (Int × Int)
structure CActsIn (a : Option Addr) (n c : Nat) (l : List CAct) (w : World) : Prop where
  len : n = l.length
  fit : n ≤ c
  top : (c : Int) ≤ 9223372036854775807
  at_ : l = [] ∨ ∃ b off, a = some ⟨b, off, none⟩ ∧ b < w.heap.size ∧ ∀ i A, l[i]? = some A → w.cell? ⟨b, off + i * 3, none⟩ = some (.int .i64 A.kd) ∧ w.cell? ⟨b, off + i * 3 + 1, none⟩ = some (.int .i64 A.i) ∧ w.cell? ⟨b, off + i * 3 + 2, none⟩ = some (.slice A.sa A.sn A.sc)
  sub : ∀ A ∈ l, PairsIn .i32 A.sa A.sn A.sc A.g w ∧ (A.sa = none → A.sc = 0) ∧ ∀ g ∈ A.g, -2147483648 ≤ g.1 ∧ g.1 ≤ 2147483647
theorem CActsIn.one {a : Option Addr} {n c : Nat} {l : List CAct} {w : World} (h : CActsIn a n c l w) {k : Nat} (hk : k < n) : ∃ b off A, a = some ⟨b, off, none⟩ ∧ b < w.heap.size ∧ l[k]? = some A ∧ w.cell? ⟨b, off + k * 3, none⟩ = some (.int .i64 A.kd) ∧ w.cell? ⟨b, off + k * 3 + 1, none⟩ = some (.int .i64 A.i) ∧ w.cell? ⟨b, off + k * 3 + 2, none⟩ = some (.slice A.sa A.sn A.sc) := by
  obtain ⟨A, hA⟩ : ∃ A, l[k]? = some A := ⟨_, List.getElem?_eq_getElem (by rw [← h.len]; exact hk)⟩
  obtain ⟨b, off, ha, hb, hi⟩ := h.at_.resolve_left (by intro e; rw [e] at hA; cases hA)
  exact ⟨b, off, A, ha, hb, hA, hi k A hA⟩
/-- numbers of five bits -/
def Small (x : Ca) : Prop := ∀ z ∈ nums x, 0 ≤ z ∧ z ≤ 31
theorem Small.within {x : Ca} (h : Small x) : Within (nums x) := fun z hz => by have := h z hz; omega
def LastIs (y : Ca) (la : Int) : Prop := la = -1 ∨ (0 ≤ la ∧ ∃ ys, nums y = ys ++ [la])
/-- what the switch leaves -/
def SwS (c : Nat) (la : Int) (W w : World) : Prop := ∃ y, OneC c y W w ∧ Small y ∧ LastIs y la
theorem SwS.put {c : Nat} {x : Ca} {W w : World} {K : Nat} (hK : K ≤ 31) (hs : Small x) (hm : 1 ≤ x.most) (h : OneC c (putC x (K : Int) []).1 W w) : SwS c (K : Int) W w :=
  ⟨_, h, fun z hz => (nums_put hz).elim (hs z) (fun e => by omega), .inr ⟨by omega, put_last ⟨by omega, by omega⟩ hm⟩⟩
theorem SwS.get {c : Nat} {x : Ca} {W w : World} {K : Nat} (hK : K ≤ 31) (hs : Small x) (h : OneC c (getC x (K : Int)) W w) : SwS c (if (findC x.L (K : Int)).isSome = true then (K : Int) else -1) W w := by
  refine ⟨_, h, fun z hz => (nums_get hz).elim (hs z) (fun e => by omega), ?_⟩
  split
  · rename_i hf
    exact .inr ⟨by omega, get_last hf⟩
  · exact .inl rfl
theorem Norm.in_ : ∀ {l : List Sp} {b : Int}, Norm b l → ∀ y ∈ l, b ≤ y.1 ∧ y.1 < y.2
  | x :: l, b, hn, y, hy => by
    rcases List.mem_cons.1 hy with rfl | h
    · exact ⟨hn.1, hn.2.1⟩
    · have h1 := Norm.in_ hn.2.2 y h
      have h2 := hn.1
      have h3 := hn.2.1
      omega
set_option maxRecDepth 100000 in
set_option maxHeartbeats 16000000 in
theorem cspans_walk (a0 : Option Addr) (n c0 : Nat) (As : List CAct) (m0 : Int) (W : World) (h : CActsIn a0 n c0 As W) :
    Calls Try.prog 7 #[.slice a0 n c0, .int .i64 m0] W (AwkPost W) := by
  obtain ⟨P, hP⟩ : ∃ P, AwkPost W = P := ⟨_, rfl⟩
  rw [hP]
  have HP := Lib.hid hP
  have HAct := Lib.hid h
  have HA := Lib.hid (awake_any W)
  obtain ⟨t, ht0, ht15⟩ := and_small m0 15 (by decide)
  have ht : bits .and .i64 m0 15 = (t : Int) := ht0
  clear ht0
  have hnc := h.fit
  have htop := h.top
  obtain ⟨N, hN⟩ : ∃ N, min n 30 = N := ⟨_, rfl⟩
  have HNn : Hid (N ≤ n ∧ N ≤ 30 ∧ (N = n ∨ N = 30)) := Lib.hid ⟨by omega, by omega, by omega⟩
  have htI : (t : Int) ≤ 15 := by omega
  clear hP h hN
  go_enter Try.func7, Try.ntmps7
  go_wp2_with fail
  refine HA.out.mono ?_
  rintro r W1 ⟨rfl, hb1⟩
  have HB1 := Lib.hid hb1
  have HNw := Lib.hid (OneC.new (1 + (t : Int)) (by omega) W1 W1 (Below.refl _ _))
  clear hb1 HA
  go_wp2_with fail
  refine HNw.out.mono ?_
  rintro r W2 ⟨c, rfl, h2⟩
  have HT := Lib.hid h2
  clear h2 HNw
  go_wp2_with fail
  go_loopw [6] (fun i wr => ∃ k : Nat, i = .int .i64 (k : Int) ∧ k ≤ N ∧ Hid (∃ x, OneC c x W1 wr ∧ Small x)) (fun i _ => N - (intOf i).toNat)
  case atStart => exact ⟨0, rfl, Nat.zero_le _, Lib.hid ⟨_, HT.out, fun z hz => by simp at hz⟩⟩
  case round =>
    obtain ⟨k, rfl, hk, HF⟩ := hrel
    clear HT
    by_cases hlt : k < N
    · have hn1 := HNn.out.1
      have hn2 := HNn.out.2.1
      have hd : decide (k < n) = true := decide_eq_true (by omega)
      have hd2 : decide (k < 30) = true := decide_eq_true (by omega)
      have hkI : (k : Int) < n := by omega
      have hkI2 : (k : Int) < 30 := by omega
      have hkn : k < n := by omega
      obtain ⟨x, hO, hS⟩ := HF.out
      have hb2 : Below W.heap.size W wr := HB1.out.trans (hO.bel.mono HB1.out.size)
      obtain ⟨b, off, A, rfl, hb, hA, k0, k1, k2⟩ := HAct.out.one hkn
      have k0 := (hb2.cell (p := ⟨b, off + k * 3, none⟩) hb).trans k0
      have k1 := (hb2.cell (p := ⟨b, off + k * 3 + 1, none⟩) hb).trans k1
      have k2 := (hb2.cell (p := ⟨b, off + k * 3 + 2, none⟩) hb).trans k2
      try simp only at k0 k1 k2
      obtain ⟨kd, ai, sa, sn, sc, g⟩ := A
      try simp only at k0 k1 k2
      obtain ⟨Kn, hKn0, hK31⟩ := and_small ai 31 (by decide)
      have hKn : bits .and .i64 ai 31 = (Kn : Int) := hKn0
      clear hKn0
      obtain ⟨wa, hwa⟩ : ∃ wa, wa = wr.alloc (.cells #[.int .i64 kd, .int .i64 ai, .slice sa sn sc] 34) := ⟨_, rfl⟩
      obtain ⟨ab, hab⟩ : ∃ ab, ab = wr.heap.size := ⟨_, rfl⟩
      have hxa : wa.heap[ab]? = some (.cells #[.int .i64 kd, .int .i64 ai, .slice sa sn sc] 34 (0, 0)) := by rw [hwa, hab]; exact heap_alloc_new _ _
      have hOa : OneC c x W1 wa := by rw [hwa]; exact hO.below (alloc_below _ _)
      have c0' := cell_block hxa 0
      have c1' := cell_block hxa 1
      have HOa := Lib.hid hOa
      have HWa := Lib.hid hwa
      have HAb := Lib.hid hab
      have HS := Lib.hid hS
      have HMost := Lib.hid hOa.nodup.2.2.1
      clear hb2 hb hA hO hwa hab hxa hOa hS HF
      go_upto_block 2 with fail
      rw [← HWa.out, ← HAb.out]
      go_cut [9] (fun t9 wx => ∃ la : Int, t9 = .int .i64 la ∧ Hid (SwS c la W1 wx))
      case first =>
        by_cases h0 : kd = 0
        · subst h0
          have HPu := Lib.hid (HOa.out.put (Below.refl _ _) (Kn : Int) (by omega) none 0 0 [] (no_pairs _ _) (fun _ => rfl) (by decide) (fun p o e => by cases e))
          go_wp2_with fail
          refine HPu.out.mono ?_
          rintro r w3 ⟨rfl, h3⟩
          have H3 := Lib.hid (SwS.put hK31 HS.out HMost.out h3)
          clear h3 HPu
          go_wp2_with fail
          go_meet
          exact ⟨_, rfl, H3⟩
        · by_cases h1 : kd = 1
          · subst h1
            have HGe := Lib.hid (HOa.out.get (Kn : Int) (by omega))
            go_wp2_with fail
            refine HGe.out.mono ?_
            rintro r w3 ⟨sa3, cc3, rfl, -, h3, -⟩
            have H3 := Lib.hid (SwS.get hK31 HS.out h3)
            clear h3 HGe
            cases hf : (findC x.L (Kn : Int)).isSome with
            | true =>
              rw [hf, if_pos rfl] at H3
              go_wp2_with fail
              go_meet
              exact ⟨_, rfl, H3⟩
            | false =>
              rw [hf, if_neg (by decide)] at H3
              go_wp2_with fail
              go_meet
              exact ⟨_, rfl, H3⟩
          · have hb0 : (kd == 0) = false := by simpa using h0
            have hb1 : (kd == 1) = false := by simpa using h1
            have H3 : Hid (SwS c (-1) W1 wa) := Lib.hid ⟨x, HOa.out, HS.out, .inl rfl⟩
            go_wp2_with fail
            go_meet
            exact ⟨_, rfl, H3⟩
      obtain ⟨la, rfl, HC⟩ := hcut
      clear HOa HWa HAb HS HMost c0' c1' k0 k1 k2
      obtain ⟨y, hy, hsy, hly⟩ := HC.out
      have HOr := Lib.hid hy.order
      have HY := Lib.hid hy
      have HSy := Lib.hid hsy
      have HLy := Lib.hid hly
      clear hy hsy hly
      go_wp2_with fail
      refine HOr.out.mono ?_
      rintro r w3 ⟨v3, rfl, ho3, hb3⟩
      obtain ⟨ao, co, rfl, hIo, -, hno, hco1, hco2⟩ := Go.Proofs.Ythplghcpjmodeaa.W.OwnI.shape ho3
      obtain ⟨q, hq⟩ : ∃ q, y.L.length = q := ⟨_, rfl⟩
      rw [show (List.map (fun x => x.1) y.L).length = q by rw [List.length_map, hq]] at hIo hco1 ⊢
      have hy3 := HY.out.below hb3
      have hq9 : q ≤ 65536 := by have := hy3.nodup.2; omega
      have HSp := Lib.hid hy3.spans
      have HY3 := Lib.hid hy3
      have HIo := Lib.hid hIo
      have HQ := Lib.hid hq
      clear ho3 hb3 hIo hno hy3 hq HY HOr
      go_wp2_with fail
      refine HSp.out.mono ?_
      rintro r w4 ⟨v4, rfl, ho4, hb4⟩
      obtain ⟨a4, c4, rfl, hP4, -, hn4⟩ := ho4.shape
      obtain ⟨S, hS⟩ : ∃ S, spansC y.L = S := ⟨_, rfl⟩
      rw [hS] at hP4 ⊢
      obtain ⟨p, hp⟩ : ∃ p, S.length = p := ⟨_, rfl⟩
      rw [hp] at hP4 ⊢
      have hy4 := HY3.out.below hb4
      have hnm : Nm S := by rw [← hS]; exact Nm.spansC y
      have htt : tot S = q := by rw [← hS, tot_spansC hy4.nodup.1 HSy.out.within, HQ.out]
      have hpl : p ≤ q := by rw [← hp, ← hS, ← HQ.out]; exact spansC_len y
      have HP4 := Lib.hid hP4
      have HIo4 : Hid (IntsIn ao q (nums y) w4) := Lib.hid (Go.Proofs.Ythplghcpjmodeaa.W.IntsIn.belowAll HIo.out hb4)
      have HY4 := Lib.hid hy4
      have HNm := Lib.hid hnm
      have HTt := Lib.hid htt
      have HMem : Hid (∀ z, mem z S → (findC y.L z).isSome = true) := Lib.hid (fun z hz => find_some ((mem_spansC z HSy.out.within).1 (by rw [hS]; exact hz)))
      have HPl := Lib.hid hp
      clear ho4 hb4 hP4 hn4 hS hp hy4 hnm htt HSp HY3 HIo
      go_wp2_with fail
      go_loopw [13, 67] (fun s i wr => ∃ j : Nat, i = .int .i64 (j : Int) ∧ j ≤ p ∧ s = .int .i64 (tot (S.take j)) ∧ Hid (OneC c y W1 wr ∧ Below w4.heap.size w4 wr)) (fun _ i _ => p - (intOf i).toNat)
      case atStart => exact ⟨0, rfl, Nat.zero_le _, rfl, Lib.hid ⟨HY4.out, Below.refl _ _⟩⟩
      case round =>
        obtain ⟨j, rfl, hj, rfl, H5⟩ := hrel
        by_cases hjp : j < p
        · have hd3 : decide (j < p) = true := decide_eq_true hjp
          have hjI : (j : Int) < p := by omega
          have hjS : j < S.length := by rw [HPl.out]; exact hjp
          obtain ⟨⟨x1, x2⟩, hxj⟩ : ∃ x, S[j]? = some x := ⟨_, List.getElem?_eq_getElem hjS⟩
          obtain ⟨gb, go, rfl, hgb, hgi⟩ := HP4.out.at_.resolve_left (by intro e9; rw [e9] at hjS; simp at hjS)
          have hk2 := hgi j _ hxj
          have k0 := (H5.out.2.cell (p := ⟨gb, go + j * 2, none⟩) hgb).trans hk2.1
          have k1 := (H5.out.2.cell (p := ⟨gb, go + j * 2 + 1, none⟩) hgb).trans hk2.2
          try simp only at k0 k1
          have htk := tot_take_succ S j _ hxj
          have htl := tot_take_le (l := S) (k := j) HNm.out.1 HNm.out.2
          have htl2 := tot_take_le (l := S) (k := j + 1) HNm.out.1 HNm.out.2
          have hxm : (x1, x2) ∈ S := List.mem_of_getElem? hxj
          have HXm : Hid (∀ z, x1 ≤ z → z < x2 → (findC y.L z).isSome = true) := Lib.hid (fun z h1 h2 => HMem.out z ((mem_iff z S).2 ⟨_, hxm, h1, h2⟩))
          have hxn := Norm.in_ HNm.out.1 _ hxm
          have hxt := HNm.out.2 _ hxm
          have hx1 : -1152921504606846976 ≤ x1 := hxn.1
          have hx12 : x1 < x2 := hxn.2
          have hx2 : x2 ≤ 1152921504606846976 := hxt
          rw [HTt.out] at htl htl2
          simp only at htk
          obtain ⟨T, hT⟩ : ∃ T, tot (S.take j) = T := ⟨_, rfl⟩
          rw [hT] at htk htl ⊢
          have hT0 : 0 ≤ T := htl.1
          have hT1 : T + (x2 - x1) ≤ 65536 := by rw [← htk]; omega
          have HTk := Lib.hid htk
          obtain ⟨s5, hs5⟩ : ∃ s5, s5 = wr.heap.size := ⟨_, rfl⟩
          obtain ⟨w5, hw5⟩ : ∃ w5, w5 = wr.alloc (.cells #[.int .i64 x1, .int .i64 x2] 56) := ⟨_, rfl⟩
          have hx5 : w5.heap[s5]? = some (.cells #[.int .i64 x1, .int .i64 x2] 56 (0, 0)) := by rw [hw5, hs5]; exact heap_alloc_new _ _
          have HW5 := Lib.hid hw5
          have HS5 := Lib.hid hs5
          have HY5 : Hid (OneC c y W1 w5) := Lib.hid (by rw [hw5]; exact H5.out.1.below (alloc_below _ _))
          have HB5 : Hid (Below w4.heap.size w4 w5) := Lib.hid (by rw [hw5]; exact H5.out.2.trans ((alloc_below _ _).mono H5.out.2.size))
          have HX5 := Lib.hid hx5
          clear hk2 htk htl htl2 hxm hxn hxt hgb hxj hjS hgi hT hs5 hw5 hx5
          go_upto_block 5 with fail
          rw [← HW5.out, ← HS5.out]
          clear H5 HW5 HS5
          go_wp2_with fail
          go_loopw [16] (fun v wr => ∃ z : Int, v = .int .i64 z ∧ x1 ≤ z ∧ z ≤ x2 ∧ Hid (OneC c y W1 wr ∧ Below w5.heap.size w5 wr)) (fun v _ => (x2 - intOf v).toNat)
          case atStart => exact ⟨x1, rfl, by omega, by omega, Lib.hid ⟨HY5.out, Below.refl _ _⟩⟩
          case round =>
            obtain ⟨z, rfl, hz1, hz2, H6⟩ := hrel
            have e1 := (H6.out.2.cell (p := ⟨s5, 1, none⟩) (Array.getElem?_eq_some_iff.1 HX5.out).1).trans (cell_block HX5.out 1)
            simp only [List.getElem?_toArray, List.getElem?_cons_succ, List.getElem?_cons_zero] at e1
            by_cases hzx : z < x2
            · have hd6 : decide (z < x2) = true := decide_eq_true hzx
              have hpk := H6.out.1.peek z (by omega)
              rw [HXm.out z hz1 hzx] at hpk
              have HPk := Lib.hid hpk
              have HBb := Lib.hid H6.out.2
              clear hpk H6
              go_wp2_with fail
              refine HPk.out.mono ?_
              rintro r w6 ⟨sa6, cc6, rfl, -, hb6, h6⟩
              have H7 : Hid (OneC c y W1 w6 ∧ Below w5.heap.size w5 w6) := Lib.hid ⟨h6, HBb.out.trans (hb6.mono HBb.out.size)⟩
              clear hb6 h6 HPk HBb
              go_wp2_with fail
              go_roundw
              case rel => exact ⟨z + 1, by go_num, by omega, by omega, H7⟩
              case measure => simp [intOf]; omega
            · obtain rfl : z = x2 := by omega
              have hd6 : decide (z < z) = false := by simp
              have H7 : Hid (OneC c y W1 wr ∧ Below w4.heap.size w4 wr) := Lib.hid ⟨H6.out.1, HB5.out.trans (H6.out.2.mono HB5.out.size)⟩
              clear H6 hzx
              go_wp2_with fail
              go_roundw
              case rel => exact ⟨j + 1, by go_num, by omega, by rw [HTk.out], H7⟩
              case measure => simp [intOf]; omega
        · obtain rfl : j = p := by omega
          have hd3 : decide (j < j) = false := by simp
          have hta : S.take j = S := List.take_of_length_le (by rw [HPl.out]; exact Nat.le_refl _)
          rw [hta, HTt.out]
          have HLn := Lib.hid H5.out.1.len
          rw [HQ.out] at HLn
          have HY5 := Lib.hid H5.out.1
          have HB5 := Lib.hid H5.out.2
          clear hta H5
          go_wp2_with fail
          refine HLn.out.mono ?_
          rintro r w6 ⟨rfl, rfl⟩
          have HE9 : Hid (∃ x, OneC c x W1 w6 ∧ Small x) := Lib.hid ⟨y, HY5.out, HSy.out⟩
          rcases HLy.out with rfl | ⟨hla, ys, hys⟩
          · clear HLn HY5 HB5
            go_wp2_with fail
            go_roundw
            case rel => exact ⟨k + 1, by go_num, by omega, HE9⟩
            case measure => simp [intOf]; omega
          · have hql : (nums y).length = q := by rw [List.length_map, HQ.out]
            rw [hys] at hql
            obtain ⟨q', rfl⟩ : ∃ q', q = q' + 1 := ⟨ys.length, by rw [← hql]; simp⟩
            have hyl : ys.length = q' := by simpa using hql
            obtain ⟨ob, oo, rfl, hob, hoi⟩ := HIo4.out.2.resolve_left (by rw [hys]; simp)
            have hoc := (HB5.out.cell (p := ⟨ob, oo + q', none⟩) hob).trans (hoi q' (by rw [hys]; simp [hyl]))
            rw [show (nums y).getD q' 0 = la by rw [hys, ← hyl]; simp] at hoc
            try simp only at hoc
            clear HLn HY5 HB5 hys hql hyl hoi hob
            go_wp2_with fail
            exact ⟨⟨k + 1, by go_num, by omega, HE9⟩, by simp [intOf]; omega⟩
    · obtain rfl : k = N := by omega
      have hend : Hid (P (.returned (.bool true)) wr) := Lib.hid (by
        obtain ⟨x, hO, -⟩ := HF.out
        rw [← HP.out]
        exact ⟨rfl, HB1.out.trans (hO.bel.mono HB1.out.size)⟩)
      clear HF
      rcases HNn.out.2.2 with he | he
      · subst he
        have hd : decide (k < k) = false := by simp
        go_wp2_with fail
        all_goals exact hend.out
      · subst he
        have hn1 := HNn.out.1
        by_cases hkn : 30 < n
        · have hd : decide (30 < n) = true := decide_eq_true hkn
          have hkI : (30 : Int) < n := by omega
          go_wp2_with fail
          all_goals exact hend.out
        · have hd : decide (30 < n) = false := decide_eq_false hkn
          have hkI : ¬ (30 : Int) < n := by omega
          go_wp2_with fail
          all_goals exact hend.out
end Go.Proofs.Ythplghcpjmodeaa.C
