/- CacheLast: what is at hand is what was put last; the newest are, as many as may be: the walk. -/
import Derived.Test.YtkdkhphpknnceaaCLaS
import Derived.Test.YtkdkhphpknnceaaCRoW
namespace Go.Proofs.Ytkdkhphpknnceaa.C
open Go.RowKit Go.Maps Go.Proofs.Ytkdkhphpknnceaa.H
open Go.Proofs.Ytkdkhphpknnceaa.W (OwnI IntsIn inV)

/-- what is put -/
def psL (As : List CAct) (N : Nat) : List Ent := (List.range N).map fun (i : Nat) => (bits .and .i64 (As.getD i ⟨0, 0, none, 0, 0, []⟩).i 15, ((As.getD i ⟨0, 0, none, 0, 0, []⟩).g).take 10)
theorem psL_len (As : List CAct) (N : Nat) : (psL As N).length = N := by simp [psL]
theorem psL_at {As : List CAct} {N k : Nat} {A : CAct} (hk : k < N) (hA : As[k]? = some A) : (psL As N)[k]? = some (bits .and .i64 A.i 15, A.g.take 10) := by
  unfold psL
  simp [hk, List.getD_eq_getElem?_getD, hA]
theorem psL_ok {a : Option Addr} {n c : Nat} {As : List CAct} {w : World} {N : Nat} (h : CActsIn a n c As w) (hN : N ≤ n) : ∀ e ∈ psL As N, (0 ≤ e.1 ∧ e.1 ≤ 15) ∧ e.2.length ≤ 10 ∧ RngG e.2 := fun e he => by
  obtain ⟨i, hi, rfl⟩ := List.mem_map.1 he
  have hi := List.mem_range.1 hi
  have hA : As[i]? = some (As.getD i ⟨0, 0, none, 0, 0, []⟩) := by
    have hlt : i < As.length := by rw [← h.len]; omega
    simp [List.getD_eq_getElem?_getD, List.getElem?_eq_getElem hlt]
  obtain ⟨t, h1, h2⟩ := and_small (As.getD i ⟨0, 0, none, 0, 0, []⟩).i 15 (by decide)
  have h1 : bits .and .i64 (As.getD i ⟨0, 0, none, 0, 0, []⟩).i 15 = (t : Int) := h1
  refine ⟨?_, ?_, fun g hg => (h.sub _ (List.mem_of_getElem? hA)).2.2 g (List.mem_of_mem_take hg)⟩
  · show 0 ≤ bits .and .i64 _ 15 ∧ bits .and .i64 _ 15 ≤ 15
    rw [h1]
    omega
  · show (List.take 10 _).length ≤ 10
    rw [List.length_take]
    omega
theorem take_same10 {g : List (Int × Int)} {n q : Nat} (hn : n = g.length) (hq : min n 10 = q) : g.take q = g.take 10 := by
  by_cases h : n ≤ 10
  · rw [List.take_of_length_le (by omega), List.take_of_length_le (by omega)]
  · rw [show q = 10 by omega]
def LaB1 (w : World) (v : Value) (u : World) : Prop := ∃ gl, v = .slice (some ⟨gl, 0, none⟩) 0 0 ∧ w.heap.size ≤ gl ∧ OwnQ .i32 42 w.heap.size (.slice (some ⟨gl, 0, none⟩) 0 0) [] u ∧ Below w.heap.size w u
def LaB2 (w : World) (g : List (Int × Int)) (v : Value) (u : World) : Prop := OwnQ .i32 42 w.heap.size v g u ∧ Below w.heap.size w u
theorem LaStE {w : World} {g : List (Int × Int)} {k : Nat} {f : Nat → Value} {u : World} (hk : k ≤ 1) (h : QuaS (EqD w) (LaB1 w) (LaB2 w g) (LaB2 w g) (LaB2 w g) 43 57 10 10 k f u) : Below w.heap.size w u := by
  match k, hk, h with
  | 0, _, h => exact EqD.below h
  | 1, _, h =>
    obtain ⟨gl, -, -, -, h⟩ : LaB1 w (f 43) u := h
    exact h
def LaOk13 (b off n c0 jx q sn sc : Nat) (sa : Option Addr) : Nat → Value → World → Prop
  | 0, _, _ => True
  | 1, u, _ => u = .slice (some ⟨b, off, none⟩) n c0
  | 2, u, _ => u = .int .i64 (jx : Int)
  | 3, u, _ => u = .pointer (some ⟨b, off + jx * 3, none⟩)
  | 4, u, _ => u = .pointer (some ⟨b, off + jx * 3 + 2, none⟩)
  | 5, u, _ => u = .slice sa sn sc
  | 6, u, _ => u = .slice (some ⟨b, off, none⟩) n c0
  | 7, u, _ => u = .int .i64 (jx : Int)
  | 8, u, _ => u = .pointer (some ⟨b, off + jx * 3, none⟩)
  | 9, u, _ => u = .pointer (some ⟨b, off + jx * 3 + 2, none⟩)
  | 10, u, _ => u = .slice sa sn sc
  | 11, u, _ => u = .int .i64 (sn : Int)
  | 12, u, _ => u = .int .i64 (q : Int)
  | 13, u, _ => u = .slice sa q sc
  | 14, _, _ => True
  | 15, _, _ => True
  | _, _, _ => True
/-- what stands when the puts from the i-th on are told -/
def LoS (s : Nat) (ps : List Ent) (wS : World) (i : Nat) (w : World) : Prop := ∃ A B, Walk ps i A B ∧ SeenM s (B.map (·.1)) w ∧ KeepB [s] wS w
set_option maxRecDepth 100000 in
set_option maxHeartbeats 16000000 in
theorem last_walk (a0 : Option Addr) (n c0 : Nat) (As : List CAct) (m0 : Int) (W : World) (h : CActsIn a0 n c0 As W) :
    Calls Try.prog 3 #[.slice a0 n c0, .int .i64 m0] W (AwkPost W) := by
  obtain ⟨P, hP⟩ : ∃ P, AwkPost W = P := ⟨_, rfl⟩
  rw [hP]
  have HP := Lib.hid hP
  have HAct := Lib.hid h
  have HA := Lib.hid (awake_any W)
  obtain ⟨t, ht0, ht7⟩ := and_small m0 7 (by decide)
  have ht : bits .and .i64 m0 7 = (t : Int) := ht0
  obtain ⟨m, hm⟩ : ∃ m, m = 1 + t := ⟨_, rfl⟩
  have hmw : IntKind.i64.wrap (1 + (t : Int)) = (m : Int) := by rw [IntKind.wrap_i64]; omega
  have hmw2 : IntKind.i64.wrap ((t : Int) + 1) = (m : Int) := by rw [IntKind.wrap_i64]; omega
  have hm8 : 1 ≤ m ∧ m ≤ 8 := by omega
  have hmo : mostN (m : Int) = m := by unfold mostN; omega
  have hnc := h.fit
  have htop := h.top
  obtain ⟨N, hN⟩ : ∃ N, min n 30 = N := ⟨_, rfl⟩
  have HNn : Hid (N ≤ n ∧ N ≤ 30 ∧ (N = n ∨ N = 30)) := Lib.hid ⟨by omega, by omega, by omega⟩
  obtain ⟨PS, hPS⟩ : ∃ PS, psL As N = PS := ⟨_, rfl⟩
  have HPl : Hid (PS.length = N) := Lib.hid (by rw [← hPS]; exact psL_len _ _)
  have HPo : Hid (∀ e ∈ PS, (0 ≤ e.1 ∧ e.1 ≤ 15) ∧ e.2.length ≤ 10 ∧ RngG e.2) := Lib.hid (by rw [← hPS]; exact psL_ok h (by omega))
  have HPa : Hid (∀ k A, k < N → As[k]? = some A → PS[k]? = some (bits .and .i64 A.i 15, A.g.take 10)) := Lib.hid (fun k A h1 h2 => by rw [← hPS]; exact psL_at h1 h2)
  have HM8 := Lib.hid hm8
  have HMo := Lib.hid hmo
  clear hP h ht0 hN hPS hm8 hmo hm ht7
  have hmm := @run_makeMap Try.prog
  go_enter Try.func3, Try.ntmps3
  go_wp2_with fail
  refine HA.out.mono ?_
  rintro r W1 ⟨rfl, hb1⟩
  have HB1 := Lib.hid hb1
  have HNw := Lib.hid (OneC.new (m : Int) (by have := HM8.out; omega) W1 W1 (Below.refl _ _))
  clear hb1 HA
  go_wp2_with fail
  refine HNw.out.mono ?_
  rintro r W2 ⟨c, rfl, h2⟩
  rw [HMo.out] at h2
  have h3 := LaG.start h2
  obtain ⟨W3, hW3⟩ : ∃ W3, W2.alloc (.map #[] 0) = W3 := ⟨_, rfl⟩
  obtain ⟨mb, hmb⟩ : ∃ mb, W2.heap.size = mb := ⟨_, rfl⟩
  rw [hW3, hmb] at h3
  have HW3 := Lib.hid hW3
  have HMb := Lib.hid hmb
  have HT : Hid (LaG c mb m (PS.take 0) (PS.take 0) (.slice none 0 0) W1 W3) := Lib.hid h3
  clear h2 HNw h3 hW3 hmb
  go_upto_block 0 with fail
  rw [HW3.out, HMb.out]
  clear HW3 HMb
  go_wp2_with fail
  go_loopw [7, 8] (fun sv i wr => ∃ jx : Nat, i = .int .i64 (jx : Int) ∧ jx ≤ N ∧ Hid (LaG c mb m (PS.take jx) (PS.take jx) sv W1 wr)) (fun _ i _ => N - (intOf i).toNat)
  case atStart => exact ⟨0, rfl, Nat.zero_le _, HT⟩
  case round =>
    obtain ⟨jx, rfl, hj, HF⟩ := hrel
    clear HT hmm
    by_cases hlt : jx < N
    · have hn1 := HNn.out.1
      have hn2 := HNn.out.2.1
      have hd : decide (jx < n) = true := decide_eq_true (by omega)
      have hd2 : decide (jx < 30) = true := decide_eq_true (by omega)
      have hjI : (jx : Int) < n := by omega
      have hjI2 : (jx : Int) < 30 := by omega
      have hjn : jx < n := by omega
      have hb2 : Below W.heap.size W wr := HB1.out.trans (HF.out.bel.mono HB1.out.size)
      obtain ⟨b, off, X, rfl, hb, hX, k0, k1, k2⟩ := HAct.out.one hjn
      have k1 := (hb2.cell (p := ⟨b, off + jx * 3 + 1, none⟩) hb).trans k1
      have k2 := (hb2.cell (p := ⟨b, off + jx * 3 + 2, none⟩) hb).trans k2
      have hsub := HAct.out.sub X (List.mem_of_getElem? hX)
      have hat := HPa.out jx X hlt hX
      have hok := HPo.out _ (List.mem_of_getElem? hat)
      obtain ⟨kd, ai, sa, sn, sc, g⟩ := X
      try simp only at k1 k2 hsub hat hok
      obtain ⟨Kn, hKn0, hK15⟩ := and_small ai 15 (by decide)
      have hKn : bits .and .i64 ai 15 = (Kn : Int) := hKn0
      rw [hKn] at hat hok
      obtain ⟨q, hq⟩ : ∃ q, min sn 10 = q := ⟨_, rfl⟩
      have hqI : min (sn : Int) 10 = (q : Int) := by omega
      have hp := hsub.1
      have hpl := hp.len
      have hfit := hp.fit
      have htp := hp.top
      have hpq := pairs_front hp (k := q) (by omega)
      rw [take_same10 hpl hq] at hpq
      obtain ⟨gq, hgq⟩ : ∃ gq, g.take 10 = gq := ⟨_, rfl⟩
      rw [hgq] at hpq hat hok
      have hqs : q ≤ sn := by omega
      have hqcI : (q : Int) ≤ sc := by omega
      have hqsI : (q : Int) ≤ sn := by omega
      have HGl : Hid (gq.length = q) := Lib.hid hpq.len.symm
      have HQ10 : Hid (q ≤ 10) := Lib.hid (by omega)
      have HPq := Lib.hid hpq
      have HBq := Lib.hid hb2
      have HAt := Lib.hid hat
      have HOk := Lib.hid hok
      have HKl : Hid (b < wr.heap.size) := Lib.hid (Nat.lt_of_lt_of_le hb hb2.size)
      have HK2 := Lib.hid k2
      clear hb hX k0 hsub hat hb2 k2 hp hpl hpq hgq hq hok hKn0
      go_upto_region 13 with fail
      clear k1
      refine Go.Proofs.Ytkdkhphpknnceaa.R.wp_region_due [0, 14, 15] [1, 1, 1, 1, 1, 1, 1, 1, 1, 1, 1, 1, 1, 1, 2, 3] (by kernel_rfl) (QuaS (EqD wr) (LaB1 wr) (LaB2 wr gq) (LaB2 wr gq) (LaB2 wr gq) 43 57 10 10) (fun _ _ => True) (LaOk13 b off n c0 jx q sn sc sa) (by rfl) (by kernel_rfl) (by kernel_rfl) (by kernel_rfl) (by kernel_rfl) ?hcong ?hOk ?hop ?hdone ?h0
      case hcong => exact fun k f f2 u hs hst => QuaS.cong (fun hk => hs 43 (Go.Proofs.Ytkdkhphpknnceaa.R.mem_slots (by subst hk; kernel_rfl))) (fun hk => hs 57 (Go.Proofs.Ytkdkhphpknnceaa.R.mem_slots (by subst hk; kernel_rfl))) (fun hk => hs 10 (Go.Proofs.Ytkdkhphpknnceaa.R.mem_slots (by subst hk; kernel_rfl))) (fun hk => hs 10 (Go.Proofs.Ytkdkhphpknnceaa.R.mem_slots (by subst hk; kernel_rfl))) hst
      case hOk => intro i u w1 w2 h hr; unfold LaOk13 at h ⊢; split <;> first | exact True.intro | exact h
      case h0 => exact (EqD.refl wr).drew
      case hop =>
        refine ⟨?_, ?_, ?_, ?_, ?_, ?_, ?_, ?_, ?_, ?_, ?_, ?_, ?_, ?_, ?_, ?_, trivial⟩
        · intro z v hst hag hdep
          refine ⟨rfl, fun K hK => ?_⟩
          have hsz : 43 < z.tmps.size := by rw [hag.2.1]; show 43 < 111; decide
          have hq : EqD wr v := hst
          have hbz := alloc_below v (.cells #[] 42)
          have hO := OwnP.lit2 v
          have hs : v.heap.size = wr.heap.size := by rw [hq.heap]
          have HQ : Hid (LaB1 wr (.slice (some ⟨v.heap.size, 0, none⟩) 0 0) (v.alloc (.cells #[] 42))) := Lib.hid ⟨v.heap.size, rfl, by omega, hO.weaken (by omega), hq.below.trans (hbz.mono (by omega))⟩
          clear hdep hag hst hq hbz hO hs
          go_simp
          exact hK _ _ trivial True.intro (by
        show LaB1 _ _ _
        rw [Go.Proofs.Ytkdkhphpknnceaa.R.slot_same hsz]
        exact HQ.out)
        · intro k z v hk hst hag hdep
          refine .inl ⟨rfl, fun K hK => ?_⟩
          have d0 : z.tmps.getD 0 undef = .slice (some ⟨b, off, none⟩) n c0 := hag.2.2 0 (by kernel_rfl)
          have e0 := d0
          rw [Array.getD_eq_getD_getElem?] at e0
          have HSt := Lib.hid hst
          clear hdep hag hst
          go_simp
          exact hK _ _ trivial rfl HSt.out
        · intro k z v hk hst hag hdep
          refine .inl ⟨rfl, fun K hK => ?_⟩
          have d8 : z.tmps.getD 8 undef = .int .i64 (jx : Int) := hag.2.2 8 (by kernel_rfl)
          have e8 := d8
          rw [Array.getD_eq_getD_getElem?] at e8
          have HSt := Lib.hid hst
          clear hdep hag hst
          go_simp
          exact hK _ _ trivial rfl HSt.out
        · intro k z v hk hst hag hdep
          refine .inl ⟨rfl, fun K hK => ?_⟩
          have d44 : z.tmps.getD 44 undef = .slice (some ⟨b, off, none⟩) n c0 := hdep { on := 1, ground := .data } (by simp) rfl _ _ rfl rfl
          have e44 := d44
          rw [Array.getD_eq_getD_getElem?] at e44
          have d45 : z.tmps.getD 45 undef = .int .i64 (jx : Int) := hdep { on := 2, ground := .data } (by simp) rfl _ _ rfl rfl
          have e45 := d45
          rw [Array.getD_eq_getD_getElem?] at e45
          have HSt := Lib.hid hst
          clear hdep hag hst
          go_simp
          exact hK _ _ trivial rfl HSt.out
        · intro k z v hk hst hag hdep
          refine .inl ⟨rfl, fun K hK => ?_⟩
          have d46 : z.tmps.getD 46 undef = .pointer (some ⟨b, off + jx * 3, none⟩) := hdep { on := 3, ground := .data } (by simp) rfl _ _ rfl rfl
          have e46 := d46
          rw [Array.getD_eq_getD_getElem?] at e46
          have HSt := Lib.hid hst
          clear hdep hag hst
          go_simp
          exact hK _ _ trivial rfl HSt.out
        · intro k z v hk hst hag hdep
          refine .inl ⟨rfl, fun K hK => ?_⟩
          have d47 : z.tmps.getD 47 undef = .pointer (some ⟨b, off + jx * 3 + 2, none⟩) := hdep { on := 4, ground := .data } (by simp) rfl _ _ rfl rfl
          have e47 := d47
          rw [Array.getD_eq_getD_getElem?] at e47
          have hb9 := LaStE hk hst
          have l0 := (hb9.cell (p := ⟨b, off + jx * 3 + 2, none⟩) HKl.out).trans HK2.out
          try simp only at l0
          clear hb9
          have HSt := Lib.hid hst
          clear hdep hag hst
          go_simp
          exact hK _ _ trivial rfl HSt.out
        · intro k z v hk hst hag hdep
          refine .inl ⟨rfl, fun K hK => ?_⟩
          have d0 : z.tmps.getD 0 undef = .slice (some ⟨b, off, none⟩) n c0 := hag.2.2 0 (by kernel_rfl)
          have e0 := d0
          rw [Array.getD_eq_getD_getElem?] at e0
          have HSt := Lib.hid hst
          clear hdep hag hst
          go_simp
          exact hK _ _ trivial rfl HSt.out
        · intro k z v hk hst hag hdep
          refine .inl ⟨rfl, fun K hK => ?_⟩
          have d8 : z.tmps.getD 8 undef = .int .i64 (jx : Int) := hag.2.2 8 (by kernel_rfl)
          have e8 := d8
          rw [Array.getD_eq_getD_getElem?] at e8
          have HSt := Lib.hid hst
          clear hdep hag hst
          go_simp
          exact hK _ _ trivial rfl HSt.out
        · intro k z v hk hst hag hdep
          refine .inl ⟨rfl, fun K hK => ?_⟩
          have d49 : z.tmps.getD 49 undef = .slice (some ⟨b, off, none⟩) n c0 := hdep { on := 6, ground := .data } (by simp) rfl _ _ rfl rfl
          have e49 := d49
          rw [Array.getD_eq_getD_getElem?] at e49
          have d50 : z.tmps.getD 50 undef = .int .i64 (jx : Int) := hdep { on := 7, ground := .data } (by simp) rfl _ _ rfl rfl
          have e50 := d50
          rw [Array.getD_eq_getD_getElem?] at e50
          have HSt := Lib.hid hst
          clear hdep hag hst
          go_simp
          exact hK _ _ trivial rfl HSt.out
        · intro k z v hk hst hag hdep
          refine .inl ⟨rfl, fun K hK => ?_⟩
          have d51 : z.tmps.getD 51 undef = .pointer (some ⟨b, off + jx * 3, none⟩) := hdep { on := 8, ground := .data } (by simp) rfl _ _ rfl rfl
          have e51 := d51
          rw [Array.getD_eq_getD_getElem?] at e51
          have HSt := Lib.hid hst
          clear hdep hag hst
          go_simp
          exact hK _ _ trivial rfl HSt.out
        · intro k z v hk hst hag hdep
          refine .inl ⟨rfl, fun K hK => ?_⟩
          have d52 : z.tmps.getD 52 undef = .pointer (some ⟨b, off + jx * 3 + 2, none⟩) := hdep { on := 9, ground := .data } (by simp) rfl _ _ rfl rfl
          have e52 := d52
          rw [Array.getD_eq_getD_getElem?] at e52
          have hb9 := LaStE hk hst
          have l0 := (hb9.cell (p := ⟨b, off + jx * 3 + 2, none⟩) HKl.out).trans HK2.out
          try simp only at l0
          clear hb9
          have HSt := Lib.hid hst
          clear hdep hag hst
          go_simp
          exact hK _ _ trivial rfl HSt.out
        · intro k z v hk hst hag hdep
          refine .inl ⟨rfl, fun K hK => ?_⟩
          have d53 : z.tmps.getD 53 undef = .slice sa sn sc := hdep { on := 10, ground := .data } (by simp) rfl _ _ rfl rfl
          have e53 := d53
          rw [Array.getD_eq_getD_getElem?] at e53
          have HSt := Lib.hid hst
          clear hdep hag hst
          go_simp
          exact hK _ _ trivial rfl HSt.out
        · intro k z v hk hst hag hdep
          refine .inl ⟨rfl, fun K hK => ?_⟩
          have d54 : z.tmps.getD 54 undef = .int .i64 (sn : Int) := hdep { on := 11, ground := .data } (by simp) rfl _ _ rfl rfl
          have e54 := d54
          rw [Array.getD_eq_getD_getElem?] at e54
          have HSt := Lib.hid hst
          clear hdep hag hst
          go_simp
          exact hK _ _ trivial rfl HSt.out
        · intro k z v hk hst hag hdep
          refine .inl ⟨rfl, fun K hK => ?_⟩
          have d48 : z.tmps.getD 48 undef = .slice sa sn sc := hdep { on := 5, ground := .data } (by simp) rfl _ _ rfl rfl
          have e48 := d48
          rw [Array.getD_eq_getD_getElem?] at e48
          have d55 : z.tmps.getD 55 undef = .int .i64 (q : Int) := hdep { on := 12, ground := .data } (by simp) rfl _ _ rfl rfl
          have e55 := d55
          rw [Array.getD_eq_getD_getElem?] at e55
          have HSt := Lib.hid hst
          clear hdep hag hst
          go_simp
          exact hK _ _ trivial rfl HSt.out
        · intro z v hst hag hdep
          refine ⟨rfl, fun K hK => ?_⟩
          have d56 : z.tmps.getD 56 undef = .slice sa q sc := hdep { on := 13, ground := .data } (by simp) rfl _ _ rfl rfl
          have e56 := d56
          rw [Array.getD_eq_getD_getElem?] at e56
          obtain ⟨gl, f43, hgl, ho, hb⟩ := hst
          have d43 : z.tmps.getD 43 undef = .slice (some ⟨gl, 0, none⟩) 0 0 := f43
          have hsz : 57 < z.tmps.size := by rw [hag.2.1]; show 57 < 111; decide
          have HB := Lib.hid hb
          have HO := Lib.hid ho
          clear hdep hag f43 ho hb
          refine wp_append_q gluT _ _ rfl rfl wr.heap.size _ [] sa q sc gq d43 d56 HO.out (HPq.out.belowAll (HBq.out.trans (HB.out.mono HBq.out.size))) (by simp) (by rw [HGl.out]; have := HQ10.out; omega) HB.out.size ?_
          intro v2 w9 h1
          exact hK _ _ trivial True.intro (by
        show LaB2 _ _ _ _
        rw [Go.Proofs.Ytkdkhphpknnceaa.R.slot_same hsz]
        exact ⟨by simpa using h1.own, HB.out.grown h1.grown HB.out.size (fun p hp => by cases hp; exact hgl)⟩)
        · intro z v hst hag hdep
          refine ⟨rfl, fun K hK => ?_⟩
          obtain ⟨v57, hv57⟩ : ∃ x, z.tmps.getD 57 undef = x := ⟨_, rfl⟩
          have hv57s : Go.Proofs.Ytkdkhphpknnceaa.R.slot z 57 = v57 := hv57
          have hst : LaB2 wr gq (Go.Proofs.Ytkdkhphpknnceaa.R.slot z 57) v := hst
          rw [hv57s] at hst
          have hsz : 10 < z.tmps.size := by rw [hag.2.1]; show 10 < 111; decide
          have HSt := Lib.hid hst
          have e57 := hv57
          rw [Array.getD_eq_getD_getElem?] at e57
          clear hdep hag hst hv57s
          go_simp
          exact hK _ _ trivial True.intro (by
        show LaB2 _ _ _ _
        rw [Go.Proofs.Ytkdkhphpknnceaa.R.slot_same hsz]
        exact HSt.out)
      case hdone =>
        intro z w3 hst hag hok
        obtain ⟨v10, hv10⟩ : ∃ x, z.tmps.getD 10 undef = x := ⟨_, rfl⟩
        replace hst : LaB2 wr gq (Go.Proofs.Ytkdkhphpknnceaa.R.slot z 10) w3 := hst
        rw [show Go.Proofs.Ytkdkhphpknnceaa.R.slot z 10 = v10 from hv10] at hst
        have d10 := hv10
        have HI := Lib.hid hst
        clear hst hv10
        obtain ⟨uu, hu, hzz⟩ := Go.Proofs.Ytkdkhphpknnceaa.R.agree_frame [43, 44, 45, 46, 47, 48, 49, 50, 51, 52, 53, 54, 55, 56, 57, 10] rfl hag
        have e10 := (hu 10).trans d10
        subst hzz
        simp only [List.foldl_cons, List.foldl_nil]
        rw [e10]
        clear e10 d10 hu hag hok
        try dsimp only [Exit.then]
        simp only [List.setIfInBounds_toArray, List.set_cons_succ, List.set_cons_zero]
        generalize uu 43 = u43', uu 44 = u44', uu 45 = u45', uu 46 = u46', uu 47 = u47', uu 48 = u48', uu 49 = u49', uu 50 = u50', uu 51 = u51', uu 52 = u52', uu 53 = u53', uu 54 = u54', uu 55 = u55', uu 56 = u56', uu 57 = u57'
        clear uu
        obtain ⟨a1, c1, rfl, -⟩ := HI.out.1.shape
        rw [HGl.out] at HI ⊢
        have hput := LaG.put (e := ((Kn : Int), gq)) (a := a1) (cc := c1) HF.out HI.out.2 (by rw [HGl.out]; exact HI.out.1) HOk.out.1 HM8.out.1 HOk.out.2.1
        rw [HGl.out] at hput
        have HPu := Lib.hid hput
        clear hput
        go_wp2_with fail
        refine HPu.out.mono ?_
        rintro r w4 ⟨⟨ri, rb, rfl⟩, h4⟩
        obtain ⟨w5, hrun5, h5⟩ := h4.store HOk.out.1 (by rw [List.length_take]; have := HNn.out.2.1; have := HPl.out; omega)
        obtain ⟨w6, hw6⟩ : ∃ w6, w5.alloc (.cells #[.int .i64 (Kn : Int)] 3) = w6 := ⟨_, rfl⟩
        have h6 := h5.below (alloc_below w5 (.cells #[.int .i64 (Kn : Int)] 3))
        have hi6 := Go.Proofs.Ytkdkhphpknnceaa.W.ints_one w5 (Kn : Int) 3
        rw [hw6] at h6 hi6
        have H6 := Lib.hid h6
        have HI6 := Lib.hid hi6
        have HO6 := Lib.hid h6.2.2.2
        have HS6 := Lib.hid h6.bel.size
        have HN6 : Hid ((some (⟨w5.heap.size, 0, none⟩ : Addr)) = none → 1 = 0) := Lib.hid (fun e9 => by cases e9)
        have HW6 := Lib.hid hw6
        have HPj : Hid ((List.map (·.1) (PS.take jx)).length ≤ 1000000) := Lib.hid (by rw [List.length_map, List.length_take]; have := HPl.out; have := HNn.out.2.1; omega)
        clear h4 h5 h6 hi6 hw6 HPu HI
        go_wp2_with (at_builtin; rw [HW6.out]; refine wpList_append_i rfl _ _ rfl rfl W1.heap.size _ (List.map (·.1) (PS.take jx)) (some ⟨w5.heap.size, 0, none⟩) 1 1 [(Kn : Int)] rfl rfl ?_ ?_ ?_ ?_ ?_ ?_ ?_; exact HO6.out; exact HI6.out; exact HN6.out; exact HPj.out; simp; exact HS6.out)
        intro v7 w7 ho7 hg7 hb7
        rw [← List.map_take] at ho7
        have h7 := LaG.push (e := ((Kn : Int), gq)) H6.out ho7 hg7 hb7
        rw [← take_snocE PS jx _ HAt.out] at h7
        have H7 := Lib.hid h7
        clear ho7 hg7 hb7 h7 H6 HI6 HW6 HF
        go_wp2_with fail
        go_roundw
        case rel => exact ⟨jx + 1, by go_num, by omega, H7⟩
        case measure => simp [intOf]; omega
    · have e9 : N = jx := by omega
      subst e9
      have hfin := HF.out
      rw [List.take_of_length_le (by rw [HPl.out]; exact Nat.le_refl _)] at hfin
      obtain ⟨a7, c7, rfl, -, -, -, hc7, hc8⟩ := Go.Proofs.Ytkdkhphpknnceaa.W.OwnI.shape hfin.2.2.2
      rw [show (List.map (fun x => x.1) PS).length = N by rw [List.length_map, HPl.out]] at hfin hc7 ⊢
      have HFin := Lib.hid hfin
      obtain ⟨w9, hw9⟩ : ∃ w9, w9 = wr := ⟨_, rfl⟩
      subst hw9
      rename_i K hK
      have HK := Lib.hid hK
      have hor : N = n ∨ (N = 30 ∧ 30 < n) := by have := HNn.out; omega
      clear HF hfin hlt hj hK
      suffices hrest : ∀ (u2 u3 u4 u9 u10 u11 u12 u13 u14 u15 u16 u17 u18 u19 u20 u21 u22 u23 u24 u25 u26 u27 u28 u29 u30 u31 u32 u33 u34 u35 u36 u37 u38 u39 u40 u41 u42 u43 u44 u45 u46 u47 u48 u49 u50 u51 u52 u53 u54 u55 u56 u57 u58 u59 u60 u61 u62 u63 u64 u65 u66 u67 u68 u69 u70 u71 u72 u73 u74 u75 u76 u77 u78 u79 u80 u81 u82 u83 u84 u85 u86 u87 u88 u89 u90 u91 u92 u93 u94 u95 u96 u97 u98 u99 u100 u101 u102 u103 u104 u105 u106 u107 u108 u109 u110 : Value), K { tmps := #[.slice a0 n c0, .int .i64 (m : Int), u2, u3, u4, .pointer (some ⟨c, 0, none⟩), .map (some mb), .slice a7 N c7, .int .i64 (N : Int), u9, u10, u11, u12, u13, u14, u15, u16, u17, u18, u19, u20, u21, u22, u23, u24, u25, u26, u27, u28, u29, u30, u31, u32, u33, u34, u35, u36, u37, u38, u39, u40, u41, u42, u43, u44, u45, u46, u47, u48, u49, u50, u51, u52, u53, u54, u55, u56, u57, u58, u59, u60, u61, u62, u63, u64, u65, u66, u67, u68, u69, u70, u71, u72, u73, u74, u75, u76, u77, u78, u79, u80, u81, u82, u83, u84, u85, u86, u87, u88, u89, u90, u91, u92, u93, u94, u95, u96, u97, u98, u99, u100, u101, u102, u103, u104, u105, u106, u107, u108, u109, u110], defers := [] } w9 by
        have HR := Lib.hid hrest
        clear hrest
        rcases hor with he | ⟨he, hkn⟩
        · subst he
          have hd : decide (N < N) = false := by simp
          go_wp2_with fail
          exact HR.out _ _ _ _ _ _ _ _ _ _ _ _ _ _ _ _ _ _ _ _ _ _ _ _ _ _ _ _ _ _ _ _ _ _ _ _ _ _ _ _ _ _ _ _ _ _ _ _ _ _ _ _ _ _ _ _ _ _ _ _ _ _ _ _ _ _ _ _ _ _ _ _ _ _ _ _ _ _ _ _ _ _ _ _ _ _ _ _ _ _ _ _ _ _ _ _ _ _ _ _ _ _ _ _ _
        · subst he
          have hd : decide (30 < n) = true := decide_eq_true hkn
          have hkI : (30 : Int) < n := by omega
          go_wp2_with fail
          exact HR.out _ _ _ _ _ _ _ _ _ _ _ _ _ _ _ _ _ _ _ _ _ _ _ _ _ _ _ _ _ _ _ _ _ _ _ _ _ _ _ _ _ _ _ _ _ _ _ _ _ _ _ _ _ _ _ _ _ _ _ _ _ _ _ _ _ _ _ _ _ _ _ _ _ _ _ _ _ _ _ _ _ _ _ _ _ _ _ _ _ _ _ _ _ _ _ _ _ _ _ _ _ _ _ _ _
      clear hor
      intro u2 u3 u4 u9 u10 u11 u12 u13 u14 u15 u16 u17 u18 u19 u20 u21 u22 u23 u24 u25 u26 u27 u28 u29 u30 u31 u32 u33 u34 u35 u36 u37 u38 u39 u40 u41 u42 u43 u44 u45 u46 u47 u48 u49 u50 u51 u52 u53 u54 u55 u56 u57 u58 u59 u60 u61 u62 u63 u64 u65 u66 u67 u68 u69 u70 u71 u72 u73 u74 u75 u76 u77 u78 u79 u80 u81 u82 u83 u84 u85 u86 u87 u88 u89 u90 u91 u92 u93 u94 u95 u96 u97 u98 u99 u100 u101 u102 u103 u104 u105 u106 u107 u108 u109 u110
      refine HK.out _ _ ?_
      clear HK
      have hmm := @run_makeMap Try.prog
      obtain ⟨W4, hW4⟩ : ∃ W4, w9.alloc (.map #[] 0) = W4 := ⟨_, rfl⟩
      obtain ⟨s, hs⟩ : ∃ s, w9.heap.size = s := ⟨_, rfl⟩
      have HS4 : Hid (∀ w, KeepB [s] W4 w → LaG c mb m PS PS (.slice a7 N c7) W1 w) := Lib.hid (fun w hk => HFin.out.moved (s := s) (by rw [hs]; exact Nat.le_refl _) ((by rw [← hW4]; exact KeepB.of_below (alloc_below _ _) : KeepB [s] w9 W4).trans hk))
      have HL4 : Hid (LoS s PS W4 N W4) := Lib.hid ⟨allU PS, [], by have := Walk.start PS; rwa [HPl.out] at this, by rw [← hW4, ← hs]; exact SeenM.made _, KeepB.refl _ _⟩
      have HW4 := Lib.hid hW4
      have HSs := Lib.hid hs
      have hwr0 : IntKind.i64.wrap ((N : Int) - 1) = (N : Int) - 1 := by rw [IntKind.wrap_i64]; have := HNn.out.2.1; omega
      clear HFin hW4 hs
      go_upto_block 2 with fail
      rw [HW4.out, HSs.out]
      clear HW4 HSs hmm hwr0
      go_wp2_with fail
      go_loopw [12] (fun i wr => ∃ jx : Nat, i = .int .i64 ((jx : Int) - 1) ∧ jx ≤ N ∧ Hid (LoS s PS W4 jx wr)) (fun i _ => (intOf i + 1).toNat)
      case atStart => exact ⟨N, rfl, Nat.le_refl _, HL4⟩
      case round =>
        obtain ⟨jx, rfl, hj, HG⟩ := hrel
        clear HL4
        rcases Nat.eq_zero_or_pos jx with rfl | hpos
        · have hend : Hid (P (.returned (.bool true)) wr) := Lib.hid (by
            obtain ⟨A, B, -, -, hkb⟩ := HG.out
            rw [← HP.out]
            exact ⟨rfl, HB1.out.trans ((HS4.out wr hkb).bel.mono HB1.out.size)⟩)
          clear HG
          rw [show (((0 : Nat) : Int) - 1) = -1 by rfl]
          go_wp2_with fail
          all_goals exact hend.out
        · obtain ⟨j, rfl⟩ : ∃ j, jx = j + 1 := ⟨jx - 1, by omega⟩
          rw [show (((j + 1 : Nat) : Int) - 1) = (j : Int) by omega]
          have hjN : j < N := by omega
          obtain ⟨⟨k, g⟩, hx⟩ : ∃ x, PS[j]? = some x := ⟨_, List.getElem?_eq_getElem (by rw [HPl.out]; exact hjN)⟩
          have hok := HPo.out _ (List.mem_of_getElem? hx)
          simp only at hok
          obtain ⟨A, B, hW, hSn, hkb⟩ := HG.out
          have hL := HS4.out wr hkb
          obtain ⟨ob, rfl, kc⟩ := OwnI.cellAt hL.2.2.2 (j := j) (k := k) (by rw [List.getElem?_map, hx]; rfl)
          have hlk := hSn.look (i := k) (by omega)
          have hjI : (j : Int) < N := by omega
          have hwr0 : IntKind.i64.wrap ((j : Int) - 1) = (j : Int) - 1 := by rw [IntKind.wrap_i64]; have := HNn.out.2.1; omega
          by_cases hsn : ∃ e ∈ B, e.1 = k
          · have hany : (List.map (fun x => x.1) B).any (· == k) = true := by
              obtain ⟨e, he, e9⟩ := hsn
              exact List.any_eq_true.2 ⟨k, List.mem_map.2 ⟨e, he, e9⟩, by simp⟩
            rw [hany] at hlk
            have HE : Hid (LoS s PS W4 j wr) := Lib.hid ⟨A, B, hW.old hx hsn, hSn, hkb⟩
            clear hany hsn hW hSn hkb hL hx hok HG
            go_wp2_with fail
            go_roundw
            case rel => exact ⟨j, by go_num, by omega, HE⟩
            case measure => (simp [intOf]; try omega)
          · have hany : (List.map (fun x => x.1) B).any (· == k) = false := by
              rw [List.any_eq_false]
              intro y hy e9
              obtain ⟨e, he, rfl⟩ := List.mem_map.1 hy
              exact hsn ⟨e, he, by simpa using e9⟩
            rw [hany] at hlk
            have hnew : ∀ y ∈ List.map (fun x => x.1) B, y ≠ k := fun y hy e9 => by
              obtain ⟨e, he, rfl⟩ := List.mem_map.1 hy
              exact hsn ⟨e, he, e9⟩
            obtain ⟨A', hA, hW'⟩ := hW.fresh hx (fun e he e9 => hsn ⟨e, he, e9⟩)
            have hall : allU PS = A' ++ (k, g) :: B := hW'.1
            have hBl : B.length ≤ N := by
              have h9 := allU_len PS
              rw [hall, HPl.out] at h9
              simp at h9
              omega
            have hlen := fun ty => hSn.len ty
            rw [List.length_map] at hlen
            obtain ⟨w5, hrun5, hSn5, hg5⟩ := hSn.put (i := k) (by omega) hnew (by rw [List.length_map]; have := HNn.out.2.1; omega)
            have hk5 : KeepB [s] W4 w5 := hkb.trans (KeepB.of_grown hg5)
            have hL5 := HS4.out w5 hk5
            have HPk := Lib.hid (hL5.peek hall hok.1)
            have HW' := Lib.hid hW'
            have HSn5 := Lib.hid hSn5
            have HK5 := Lib.hid hk5
            have HAll := Lib.hid hall
            have HOk := Lib.hid hok
            clear hany hsn hW hSn hkb hL hx HG hnew hA hW' hall hg5 hSn5 hk5 hL5 hok
            by_cases hB : B.length < m
            · have hd3 : decide (B.length < m) = true := decide_eq_true hB
              go_wp2_with fail
              refine HPk.out.mono ?_
              rintro r w6 ⟨hb6, hr⟩
              rcases hr with ⟨-, ga, gc, rfl, hp6⟩ | ⟨h9, -⟩
              · obtain ⟨la, lc, hlu, hp7⟩ := (HS4.out w6 (HK5.out.trans (KeepB.of_below hb6))).last HAll.out HOk.out.1
                obtain ⟨q, hq⟩ : ∃ q, g.length = q := ⟨_, rfl⟩
                simp only at hlu hp6 hp7
                rw [hq] at hlu hp6 hp7 ⊢
                have HTo := Lib.hid (told_any la q lc g w6 hp7 HOk.out.2.2 (by have h9 : g.length ≤ 10 := HOk.out.2.1; omega))
                have HP6 := Lib.hid hp6
                have HB6 := Lib.hid hb6
                have HQ := Lib.hid hq
                clear hp7 hp6 hb6 hq HPk
                go_wp2_with fail
                refine HTo.out.mono ?_
                rintro e w7 ⟨v9, rfl, h8, h9⟩
                obtain ⟨a8, c8, rfl, h7, -, -⟩ := h8.shape
                rw [HQ.out] at h7 ⊢
                have HGl := Lib.hid (lawGlyphs_any ga q gc g a8 q c8 g w7 (HP6.out.belowAll h9) h7 HOk.out.2.2 (by have h9 : g.length ≤ 10 := HOk.out.2.1; have := HQ.out; omega) (by have h9 : g.length ≤ 10 := HOk.out.2.1; have := HQ.out; omega))
                have HB7 := Lib.hid h9
                clear h7 h8 h9 HTo
                go_wp2_with fail
                refine HGl.out.mono ?_
                rintro e w8 ⟨rfl, hb8⟩
                have hb58 : Below w5.heap.size w5 w8 := HB6.out.trans ((HB7.out.trans (hb8.mono HB7.out.size)).mono HB6.out.size)
                have HE : Hid (LoS s PS W4 j w8) := Lib.hid ⟨A', (k, g) :: B, HW'.out, HSn5.out.below hb58, HK5.out.trans (KeepB.of_below hb58)⟩
                rw [show decide True = true by simp]
                clear hb8 hb58 HGl
                go_wp2_with fail
                go_roundw
                case rel => exact ⟨j, by go_num, by omega, HE⟩
                case measure => (simp [intOf]; try omega)
              · omega
            · have hd3 : decide (B.length < m) = false := decide_eq_false hB
              go_wp2_with fail
              refine HPk.out.mono ?_
              rintro r w6 ⟨hb6, hr⟩
              rcases hr with ⟨h9, -⟩ | ⟨-, ga, gc, rfl⟩
              · exact absurd h9 hB
              · have HE : Hid (LoS s PS W4 j w6) := Lib.hid ⟨A', (k, g) :: B, HW'.out, HSn5.out.below hb6, HK5.out.trans (KeepB.of_below hb6)⟩
                clear hb6 HPk
                go_wp2_with fail
                go_roundw
                case rel => exact ⟨j, by go_num, by omega, HE⟩
                case measure => (simp [intOf]; try omega)
end Go.Proofs.Ytkdkhphpknnceaa.C
