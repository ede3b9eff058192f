/- CacheRoom: where there is room none goes, and each is at hand as it was put. -/
import Derived.Test.YthplghcpjmodeaaCRoM
import Derived.Test.YthplghcpjmodeaaRelD
import Derived.Test.YthplghcpjmodeaaRelU
namespace Go.Proofs.Ythplghcpjmodeaa.C
open Go.RowKit Go.Maps Go.Proofs.Ythplghcpjmodeaa.H

/-- a line that was handed in -/
structure LArg where
  sa : Option Addr
  sn : Nat
  sc : Nat
  g : List (Int × Int)
structure LArgsIn (a : Option Addr) (n c : Nat) (l : List LArg) (w : World) : Prop where
  len : n = l.length
  fit : n ≤ c
  top : (c : Int) ≤ 9223372036854775807
  at_ : l = [] ∨ ∃ b off, a = some ⟨b, off, none⟩ ∧ b < w.heap.size ∧ ∀ i A, l[i]? = some A → w.cell? ⟨b, off + i, none⟩ = some (.slice A.sa A.sn A.sc)
  sub : ∀ A ∈ l, PairsIn .i32 A.sa A.sn A.sc A.g w ∧ (A.sa = none → A.sc = 0) ∧ RngG A.g
theorem LArgsIn.one {a : Option Addr} {n c : Nat} {l : List LArg} {w : World} (h : LArgsIn a n c l w) {k : Nat} (hk : k < n) : ∃ b off A, a = some ⟨b, off, none⟩ ∧ b < w.heap.size ∧ l[k]? = some A ∧ w.cell? ⟨b, off + k, none⟩ = some (.slice A.sa A.sn A.sc) := by
  obtain ⟨A, hA⟩ : ∃ A, l[k]? = some A := ⟨_, List.getElem?_eq_getElem (by rw [← h.len]; exact hk)⟩
  obtain ⟨b, off, ha, hb, hi⟩ := h.at_.resolve_left (by intro e; rw [e] at hA; cases hA)
  exact ⟨b, off, A, ha, hb, hA, hi k A hA⟩
/-- the lines as they are put -/
def rowE (f : Int) (Ls : List LArg) (N : Nat) : List Ent := (List.range N).map fun (i : Nat) => (f + (i : Int), ((Ls.getD i ⟨none, 0, 0, []⟩).g).take 20)
theorem rowE_len (f : Int) (Ls : List LArg) (N : Nat) : (rowE f Ls N).length = N := by simp [rowE]
theorem rowE_row (f : Int) (Ls : List LArg) (N : Nat) : InRow f (rowE f Ls N) := fun k x h => by
  have hk : k < N := by have := (List.getElem?_eq_some_iff.1 h).1; rwa [rowE_len] at this
  unfold rowE at h
  simp [hk] at h
  rw [← h]
theorem rowE_at {f : Int} {Ls : List LArg} {N k : Nat} {A : LArg} (hk : k < N) (hA : Ls[k]? = some A) : (rowE f Ls N)[k]? = some (f + k, A.g.take 20) := by
  unfold rowE
  simp [hk, List.getD_eq_getElem?_getD, hA]
theorem take_same {g : List (Int × Int)} {n q : Nat} (hn : n = g.length) (hq : min n 20 = q) : g.take q = g.take 20 := by
  by_cases h : n ≤ 20
  · rw [List.take_of_length_le (by omega), List.take_of_length_le (by omega)]
  · rw [show q = 20 by omega]
theorem pairs_front {rk : IntKind} {a : Option Addr} {n c : Nat} {l : List (Int × Int)} {w : World} (h : PairsIn rk a n c l w) {k : Nat} (hk : k ≤ n) : PairsIn rk a k c (l.take k) w := by
  refine ⟨by rw [List.length_take, ← h.len]; omega, Nat.le_trans hk h.fit, h.top, ?_⟩
  rcases h.at_ with e | ⟨b, off, ha, hb, hi⟩
  · exact .inl (by rw [e]; simp)
  · refine .inr ⟨b, off, ha, hb, fun i g hg => ?_⟩
    rw [List.getElem?_take] at hg
    split at hg
    · exact hi i g hg
    · cases hg
def StR (w : World) (Q : World → Prop) : Nat → (Nat → Value) → World → Prop
  | 0, _, u => EqD w u
  | _, _, u => Q u
theorem StR.cong {w : World} {Q : World → Prop} {k : Nat} {f f2 : Nat → Value} {u : World} (h : StR w Q k f u) : StR w Q k f2 u := by
  match k, h with
  | 0, h => exact h
  | _ + 1, h => exact h
def Ro11 (c f jx b off n lc q sn sc : Nat) (sa : Option Addr) : Nat → Value → World → Prop
  | 0, u, _ => u = .pointer (some ⟨c, 0, none⟩)
  | 1, u, _ => u = .int .i64 (f : Int)
  | 2, u, _ => u = .int .i64 (jx : Int)
  | 3, u, _ => u = .int .i64 ((f : Int) + jx)
  | 4, u, _ => u = .slice (some ⟨b, off, none⟩) n lc
  | 5, u, _ => u = .int .i64 (jx : Int)
  | 6, u, _ => u = .pointer (some ⟨b, off + jx, none⟩)
  | 7, u, _ => u = .slice sa sn sc
  | 8, u, _ => u = .slice (some ⟨b, off, none⟩) n lc
  | 9, u, _ => u = .int .i64 (jx : Int)
  | 10, u, _ => u = .pointer (some ⟨b, off + jx, none⟩)
  | 11, u, _ => u = .slice sa sn sc
  | 12, u, _ => u = .int .i64 (sn : Int)
  | 13, u, _ => u = .int .i64 (q : Int)
  | 14, u, _ => u = .slice sa q sc
  | 15, u, _ => u = .tuple #[.int .i64 0, .bool false]
  | 16, u, _ => u = .tuple #[.int .i64 0, .bool false]
  | 17, u, _ => u = .int .i64 0
  | 18, u, _ => u = .bool false
  | 19, u, _ => u = .int .i64 0
  | 20, u, _ => u = .bool false
  | _, _, _ => True
def Ro19 (c f jx b off n lc q sn sc : Nat) (sa : Option Addr) (ga : Option Addr) (gc : Nat) (gq : List (Int × Int)) : Nat → Value → World → Prop
  | 0, u, _ => u = .bool true
  | 1, u, _ => u = .bool false
  | 2, u, _ => u = .bool false
  | 3, u, _ => u = .slice ga q gc
  | 4, u, _ => u = .slice (some ⟨b, off, none⟩) n lc
  | 5, u, _ => u = .int .i64 (jx : Int)
  | 6, u, _ => u = .pointer (some ⟨b, off + jx, none⟩)
  | 7, u, _ => u = .slice sa sn sc
  | 8, u, _ => u = .slice (some ⟨b, off, none⟩) n lc
  | 9, u, _ => u = .int .i64 (jx : Int)
  | 10, u, _ => u = .pointer (some ⟨b, off + jx, none⟩)
  | 11, u, _ => u = .slice sa sn sc
  | 12, u, _ => u = .int .i64 (sn : Int)
  | 13, u, _ => u = .int .i64 (q : Int)
  | 14, u, _ => u = .slice sa q sc
  | 15, u, w => ∃ a9 c9, u = .slice a9 q c9 ∧ PairsIn .i64 a9 q c9 gq w
  | 16, u, _ => u = .bool true
  | 17, u, _ => u = .bool false
  | 18, u, _ => u = .bool false
  | _, _, _ => True
set_option maxRecDepth 100000 in
set_option maxHeartbeats 16000000 in
theorem room_walk (a0 : Option Addr) (n lc : Nat) (Ls : List LArg) (m1 : Int) (W : World) (h : LArgsIn a0 n lc Ls W) :
    Calls Try.prog 6 #[.slice a0 n lc, .int .i64 m1] W (AwkPost W) := by
  obtain ⟨P, hP⟩ : ∃ P, AwkPost W = P := ⟨_, rfl⟩
  rw [hP]
  have HP := Lib.hid hP
  have HAr := Lib.hid h
  have HA := Lib.hid (awake_any W)
  obtain ⟨f, hf0, hf65⟩ := and_small m1 65535 (by decide)
  have hf : bits .and .i64 m1 65535 = (f : Int) := hf0
  have hnc := h.fit
  have htop := h.top
  obtain ⟨N, hN⟩ : ∃ N, min n 20 = N := ⟨_, rfl⟩
  have hNI : min (n : Int) 20 = (N : Int) := by omega
  have hN20 : N ≤ 20 := by omega
  have hNn : N ≤ n := by omega
  have hfI : (f : Int) ≤ 65535 := by omega
  obtain ⟨A, hA⟩ : ∃ A, rowE (f : Int) Ls N = A := ⟨_, rfl⟩
  obtain ⟨m, hm⟩ : ∃ m, mostN (N : Int) = m := ⟨_, rfl⟩
  have hmN : (N = 0 ∧ m = 1) ∨ (1 ≤ N ∧ m = N) := by rw [← hm]; unfold mostN; omega
  have HRow : Hid (InRow (f : Int) A ∧ A.length = N) := Lib.hid ⟨by rw [← hA]; exact rowE_row _ _ _, by rw [← hA]; exact rowE_len _ _ _⟩
  have HAt : Hid (∀ k A9, k < N → Ls[k]? = some A9 → A[k]? = some ((f : Int) + k, A9.g.take 20)) := Lib.hid (fun k A9 h1 h2 => by rw [← hA]; exact rowE_at h1 h2)
  have HMn := Lib.hid hmN
  have HMs := Lib.hid hm
  clear hP h hf0 hN hA hm
  go_enter Try.func6, Try.ntmps6
  go_wp2_with fail
  refine HA.out.mono ?_
  rintro r W1 ⟨rfl, hb1⟩
  have HB1 := Lib.hid hb1
  have HNw := Lib.hid (OneC.new (N : Int) (by omega) W1 W1 (Below.refl _ _))
  clear hb1 HA
  go_wp2_with fail
  refine HNw.out.mono ?_
  rintro r W2 ⟨c, rfl, h2⟩
  rw [HMs.out] at h2
  have HT : Hid (OneC c ⟨m, A.take 0⟩ W1 W2) := Lib.hid h2
  clear h2 HNw
  go_wp2_with fail
  go_loopw [28] (fun i wr => ∃ jx : Nat, i = .int .i64 (jx : Int) ∧ jx ≤ N ∧ Hid (OneC c ⟨m, A.take jx⟩ W1 wr)) (fun i _ => N - (intOf i).toNat)
  case atStart => exact ⟨0, rfl, Nat.zero_le _, HT⟩
  case round =>
    obtain ⟨jx, rfl, hj, HF⟩ := hrel
    clear HT
    by_cases hlt : jx < N
    · have hd : decide (jx < N) = true := decide_eq_true hlt
      have hjI : (jx : Int) < N := by omega
      have hjn : (jx : Int) < n := by omega
      have hjc : jx < n := by omega
      have hwr : IntKind.i64.wrap ((f : Int) + jx) = (f : Int) + jx := by rw [IntKind.wrap_i64]; omega
      obtain ⟨b, off, X, rfl, hb, hX, k0⟩ := HAr.out.one hjc
      have hsub := HAr.out.sub X (List.mem_of_getElem? hX)
      have hat := HAt.out jx X hlt hX
      obtain ⟨sa, sn, sc, g⟩ := X
      have hbW : Below W.heap.size W wr := HB1.out.trans (HF.out.bel.mono HB1.out.size)
      have k1 := (hbW.cell (p := ⟨b, off + jx, none⟩) hb).trans k0
      try simp only at k1
      obtain ⟨q, hq⟩ : ∃ q, min sn 20 = q := ⟨_, rfl⟩
      have hqI : min (sn : Int) 20 = (q : Int) := by omega
      have hp := hsub.1
      have hpl := hp.len
      have hfit := hp.fit
      have htp := hp.top
      simp only at hat hp hpl hfit htp
      have hpq := pairs_front hp (k := q) (by omega)
      rw [take_same hpl hq] at hpq
      have hqs : q ≤ sn := by omega
      have hqcI : (q : Int) ≤ sc := by omega
      have hqsI : (q : Int) ≤ sn := by omega
      have HPut : Hid (∀ v, EqD wr v → Calls Try.prog 16 #[.pointer (some ⟨c, 0, none⟩), .int .i64 ((f : Int) + jx), .slice sa q sc] v fun e w' => e = .returned (.tuple #[.int .i64 0, .bool false]) ∧ OneC c ⟨m, A.take (jx + 1)⟩ W1 w') := Lib.hid (fun v hqv => by
        have h9 := put_row (m := m) HRow.out.1.nodup hat (by rw [HRow.out.2]; rcases HMn.out with h | h <;> omega) ⟨by show 0 ≤ (f : Int) + jx; omega, by show (f : Int) + jx ≤ _; omega⟩
        have h10 := (HF.out.below hqv.below).put (Below.refl _ _) ((f : Int) + jx) (by omega) sa q sc (g.take 20) (hpq.belowAll (hbW.trans (hqv.below.mono hbW.size))) hsub.2.1 (by rw [List.length_take]; omega) (fun hg0 p o e9 => .inl ?_)
        · rw [h9] at h10
          exact h10
        · rcases hpq.at_ with e8 | ⟨b8, o8, e8, hl8, -⟩
          · exact absurd e8 hg0
          · rw [e9] at e8
            injection e8 with e8
            injection e8 with e8
            rw [e8]
            exact Nat.lt_of_lt_of_le hl8 HB1.out.size)
      have HK0 : Hid (wr.cell? ⟨b, off + jx, none⟩ = some (.slice sa sn sc)) := Lib.hid k1
      clear hb hX k0 hsub hat hbW k1 hp hpl hpq htp hq
      go_upto_region 11 with fail
      refine Go.Proofs.Ythplghcpjmodeaa.R.wp_region_due [15] [0, 0, 0, 0, 0, 0, 0, 0, 0, 0, 0, 0, 0, 0, 0, 1, 1, 1, 1, 1, 1] (by kernel_rfl) (StR wr (fun u => OneC c ⟨m, A.take (jx + 1)⟩ W1 u)) (fun _ _ => True) (Ro11 c f jx b off n lc q sn sc sa) (by rfl) (by kernel_rfl) (by kernel_rfl) (by kernel_rfl) (by kernel_rfl) ?hcong ?hOk ?hop ?hdone ?h0
      case hcong => exact fun k f f2 u hs hst => StR.cong hst
      case hOk => intro i u w1 w2 h hr; unfold Ro11 at h ⊢; split <;> first | exact True.intro | exact h
      case h0 => exact (EqD.refl wr).drew
      case hop =>
        refine ⟨?_, ?_, ?_, ?_, ?_, ?_, ?_, ?_, ?_, ?_, ?_, ?_, ?_, ?_, ?_, ?_, ?_, ?_, ?_, ?_, ?_, trivial⟩
        · intro k z v hk hst hag hdep
          refine .inl ⟨rfl, fun K hK => ?_⟩
          have d6 : z.tmps.getD 6 undef = .pointer (some ⟨c, 0, none⟩) := hag.2.2 6 (by kernel_rfl)
          have e6 := d6
          rw [Array.getD_eq_getD_getElem?] at e6
          have HSt := Lib.hid hst
          clear hdep hag hst
          go_simp
          exact hK _ _ trivial rfl HSt.out
        · intro k z v hk hst hag hdep
          refine .inl ⟨rfl, fun K hK => ?_⟩
          have d1 : z.tmps.getD 1 undef = .int .i64 (f : Int) := hag.2.2 1 (by kernel_rfl)
          have e1 := d1
          rw [Array.getD_eq_getD_getElem?] at e1
          have HSt := Lib.hid hst
          clear hdep hag hst
          go_simp
          exact hK _ _ trivial rfl HSt.out
        · intro k z v hk hst hag hdep
          refine .inl ⟨rfl, fun K hK => ?_⟩
          have d7 : z.tmps.getD 7 undef = .int .i64 (jx : Int) := hag.2.2 7 (by kernel_rfl)
          have e7 := d7
          rw [Array.getD_eq_getD_getElem?] at e7
          have HSt := Lib.hid hst
          clear hdep hag hst
          go_simp
          exact hK _ _ trivial rfl HSt.out
        · intro k z v hk hst hag hdep
          refine .inl ⟨rfl, fun K hK => ?_⟩
          have d33 : z.tmps.getD 33 undef = .int .i64 (f : Int) := hdep { on := 1, ground := .data } (by simp) rfl _ _ rfl rfl
          have e33 := d33
          rw [Array.getD_eq_getD_getElem?] at e33
          have d34 : z.tmps.getD 34 undef = .int .i64 (jx : Int) := hdep { on := 2, ground := .data } (by simp) rfl _ _ rfl rfl
          have e34 := d34
          rw [Array.getD_eq_getD_getElem?] at e34
          have HSt := Lib.hid hst
          clear hdep hag hst
          go_simp
          exact hK _ _ trivial rfl HSt.out
        · intro k z v hk hst hag hdep
          refine .inl ⟨rfl, fun K hK => ?_⟩
          have d0 : z.tmps.getD 0 undef = .slice (some ⟨b, off, none⟩) n lc := hag.2.2 0 (by kernel_rfl)
          have e0 := d0
          rw [Array.getD_eq_getD_getElem?] at e0
          have HSt := Lib.hid hst
          clear hdep hag hst
          go_simp
          exact hK _ _ trivial rfl HSt.out
        · intro k z v hk hst hag hdep
          refine .inl ⟨rfl, fun K hK => ?_⟩
          have d7 : z.tmps.getD 7 undef = .int .i64 (jx : Int) := hag.2.2 7 (by kernel_rfl)
          have e7 := d7
          rw [Array.getD_eq_getD_getElem?] at e7
          have HSt := Lib.hid hst
          clear hdep hag hst
          go_simp
          exact hK _ _ trivial rfl HSt.out
        · intro k z v hk hst hag hdep
          refine .inl ⟨rfl, fun K hK => ?_⟩
          have d36 : z.tmps.getD 36 undef = .slice (some ⟨b, off, none⟩) n lc := hdep { on := 4, ground := .data } (by simp) rfl _ _ rfl rfl
          have e36 := d36
          rw [Array.getD_eq_getD_getElem?] at e36
          have d37 : z.tmps.getD 37 undef = .int .i64 (jx : Int) := hdep { on := 5, ground := .data } (by simp) rfl _ _ rfl rfl
          have e37 := d37
          rw [Array.getD_eq_getD_getElem?] at e37
          have HSt := Lib.hid hst
          clear hdep hag hst
          go_simp
          exact hK _ _ trivial rfl HSt.out
        · intro k z v hk hst hag hdep
          refine .inl ⟨rfl, fun K hK => ?_⟩
          have d38 : z.tmps.getD 38 undef = .pointer (some ⟨b, off + jx, none⟩) := hdep { on := 6, ground := .data } (by simp) rfl _ _ rfl rfl
          have e38 := d38
          rw [Array.getD_eq_getD_getElem?] at e38
          obtain rfl : k = 0 := by have : k ≤ 0 := hk; omega
          have hq : EqD wr v := hst
          have l0 := (hq.cell _).trans HK0.out
          clear hq
          have HSt := Lib.hid hst
          clear hdep hag hst
          go_simp
          exact hK _ _ trivial rfl HSt.out
        · intro k z v hk hst hag hdep
          refine .inl ⟨rfl, fun K hK => ?_⟩
          have d0 : z.tmps.getD 0 undef = .slice (some ⟨b, off, none⟩) n lc := hag.2.2 0 (by kernel_rfl)
          have e0 := d0
          rw [Array.getD_eq_getD_getElem?] at e0
          have HSt := Lib.hid hst
          clear hdep hag hst
          go_simp
          exact hK _ _ trivial rfl HSt.out
        · intro k z v hk hst hag hdep
          refine .inl ⟨rfl, fun K hK => ?_⟩
          have d7 : z.tmps.getD 7 undef = .int .i64 (jx : Int) := hag.2.2 7 (by kernel_rfl)
          have e7 := d7
          rw [Array.getD_eq_getD_getElem?] at e7
          have HSt := Lib.hid hst
          clear hdep hag hst
          go_simp
          exact hK _ _ trivial rfl HSt.out
        · intro k z v hk hst hag hdep
          refine .inl ⟨rfl, fun K hK => ?_⟩
          have d40 : z.tmps.getD 40 undef = .slice (some ⟨b, off, none⟩) n lc := hdep { on := 8, ground := .data } (by simp) rfl _ _ rfl rfl
          have e40 := d40
          rw [Array.getD_eq_getD_getElem?] at e40
          have d41 : z.tmps.getD 41 undef = .int .i64 (jx : Int) := hdep { on := 9, ground := .data } (by simp) rfl _ _ rfl rfl
          have e41 := d41
          rw [Array.getD_eq_getD_getElem?] at e41
          have HSt := Lib.hid hst
          clear hdep hag hst
          go_simp
          exact hK _ _ trivial rfl HSt.out
        · intro k z v hk hst hag hdep
          refine .inl ⟨rfl, fun K hK => ?_⟩
          have d42 : z.tmps.getD 42 undef = .pointer (some ⟨b, off + jx, none⟩) := hdep { on := 10, ground := .data } (by simp) rfl _ _ rfl rfl
          have e42 := d42
          rw [Array.getD_eq_getD_getElem?] at e42
          obtain rfl : k = 0 := by have : k ≤ 0 := hk; omega
          have hq : EqD wr v := hst
          have l0 := (hq.cell _).trans HK0.out
          clear hq
          have HSt := Lib.hid hst
          clear hdep hag hst
          go_simp
          exact hK _ _ trivial rfl HSt.out
        · intro k z v hk hst hag hdep
          refine .inl ⟨rfl, fun K hK => ?_⟩
          have d43 : z.tmps.getD 43 undef = .slice sa sn sc := hdep { on := 11, ground := .data } (by simp) rfl _ _ rfl rfl
          have e43 := d43
          rw [Array.getD_eq_getD_getElem?] at e43
          have HSt := Lib.hid hst
          clear hdep hag hst
          go_simp
          exact hK _ _ trivial rfl HSt.out
        · intro k z v hk hst hag hdep
          refine .inl ⟨rfl, fun K hK => ?_⟩
          have d44 : z.tmps.getD 44 undef = .int .i64 (sn : Int) := hdep { on := 12, ground := .data } (by simp) rfl _ _ rfl rfl
          have e44 := d44
          rw [Array.getD_eq_getD_getElem?] at e44
          have HSt := Lib.hid hst
          clear hdep hag hst
          go_simp
          exact hK _ _ trivial rfl HSt.out
        · intro k z v hk hst hag hdep
          refine .inl ⟨rfl, fun K hK => ?_⟩
          have d39 : z.tmps.getD 39 undef = .slice sa sn sc := hdep { on := 7, ground := .data } (by simp) rfl _ _ rfl rfl
          have e39 := d39
          rw [Array.getD_eq_getD_getElem?] at e39
          have d45 : z.tmps.getD 45 undef = .int .i64 (q : Int) := hdep { on := 13, ground := .data } (by simp) rfl _ _ rfl rfl
          have e45 := d45
          rw [Array.getD_eq_getD_getElem?] at e45
          have HSt := Lib.hid hst
          clear hdep hag hst
          go_simp
          exact hK _ _ trivial rfl HSt.out
        · intro z v hst hag hdep
          refine ⟨rfl, fun K hK => ?_⟩
          have d32 : z.tmps.getD 32 undef = .pointer (some ⟨c, 0, none⟩) := hdep { on := 0, ground := .data } (by simp) rfl _ _ rfl rfl
          have e32 := d32
          rw [Array.getD_eq_getD_getElem?] at e32
          have d35 : z.tmps.getD 35 undef = .int .i64 ((f : Int) + jx) := hdep { on := 3, ground := .data } (by simp) rfl _ _ rfl rfl
          have e35 := d35
          rw [Array.getD_eq_getD_getElem?] at e35
          have d46 : z.tmps.getD 46 undef = .slice sa q sc := hdep { on := 14, ground := .data } (by simp) rfl _ _ rfl rfl
          have e46 := d46
          rw [Array.getD_eq_getD_getElem?] at e46
          have hq : EqD wr v := hst
          have HPu := Lib.hid (HPut.out v hq)
          clear hdep hag hst hq
          go_simp
          refine HPu.out.mono ?_
          rintro e w' ⟨rfl, h9⟩
          exact hK _ _ trivial rfl h9
        · intro k z v hk hst hag hdep
          refine .inl ⟨rfl, fun K hK => ?_⟩
          have d47 : z.tmps.getD 47 undef = .tuple #[.int .i64 0, .bool false] := hdep { on := 15, ground := .data } (by simp) rfl _ _ rfl rfl
          have e47 := d47
          rw [Array.getD_eq_getD_getElem?] at e47
          have HSt := Lib.hid hst
          clear hdep hag hst
          go_simp
          exact hK _ _ trivial rfl HSt.out
        · intro k z v hk hst hag hdep
          refine .inl ⟨rfl, fun K hK => ?_⟩
          have d31 : z.tmps.getD 31 undef = .tuple #[.int .i64 0, .bool false] := hdep { on := 16, ground := .data } (by simp) rfl _ _ rfl rfl
          have e31 := d31
          rw [Array.getD_eq_getD_getElem?] at e31
          have HSt := Lib.hid hst
          clear hdep hag hst
          go_simp
          exact hK _ _ trivial rfl HSt.out
        · intro k z v hk hst hag hdep
          refine .inl ⟨rfl, fun K hK => ?_⟩
          have d31 : z.tmps.getD 31 undef = .tuple #[.int .i64 0, .bool false] := hdep { on := 16, ground := .data } (by simp) rfl _ _ rfl rfl
          have e31 := d31
          rw [Array.getD_eq_getD_getElem?] at e31
          have HSt := Lib.hid hst
          clear hdep hag hst
          go_simp
          exact hK _ _ trivial rfl HSt.out
        · intro k z v hk hst hag hdep
          refine .inl ⟨rfl, fun K hK => ?_⟩
          have d48 : z.tmps.getD 48 undef = .int .i64 0 := hdep { on := 17, ground := .data } (by simp) rfl _ _ rfl rfl
          have e48 := d48
          rw [Array.getD_eq_getD_getElem?] at e48
          have HSt := Lib.hid hst
          clear hdep hag hst
          go_simp
          exact hK _ _ trivial rfl HSt.out
        · intro k z v hk hst hag hdep
          refine .inl ⟨rfl, fun K hK => ?_⟩
          have d49 : z.tmps.getD 49 undef = .bool false := hdep { on := 18, ground := .data } (by simp) rfl _ _ rfl rfl
          have e49 := d49
          rw [Array.getD_eq_getD_getElem?] at e49
          have HSt := Lib.hid hst
          clear hdep hag hst
          go_simp
          exact hK _ _ trivial rfl HSt.out
      case hdone =>
        intro z w3 hst hag hok
        have h3 : OneC c ⟨m, A.take (jx + 1)⟩ W1 w3 := hst
        have d9 : z.tmps.getD 9 undef = .bool false := hok 20 _ 9 rfl rfl
        have H3 := Lib.hid h3
        clear hst h3
        obtain ⟨uu, hu, hzz⟩ := Go.Proofs.Ythplghcpjmodeaa.R.agree_frame [32, 33, 34, 35, 36, 37, 38, 39, 40, 41, 42, 43, 44, 45, 46, 47, 31, 48, 49, 8, 9] rfl hag
        have e9 := (hu 9).trans d9
        subst hzz
        simp only [List.foldl_cons, List.foldl_nil]
        rw [e9]
        clear e9 d9 hu hag hok
        try dsimp only [Exit.then]
        simp only [List.setIfInBounds_toArray, List.set_cons_succ, List.set_cons_zero]
        generalize uu 32 = u32', uu 33 = u33', uu 34 = u34', uu 35 = u35', uu 36 = u36', uu 37 = u37', uu 38 = u38', uu 39 = u39', uu 40 = u40', uu 41 = u41', uu 42 = u42', uu 43 = u43', uu 44 = u44', uu 45 = u45', uu 46 = u46', uu 47 = u47', uu 31 = u31', uu 48 = u48', uu 49 = u49', uu 8 = u8'
        clear uu
        go_wp2_with fail
        go_roundw
        case rel => exact ⟨jx + 1, by go_num, by omega, H3⟩
        case measure => simp [intOf]; omega
    · have e9 : N = jx := by omega
      subst e9
      have hd : decide (N < N) = false := by simp
      rw [List.take_of_length_le (by rw [HRow.out.2]; exact Nat.le_refl _)] at HF
      go_wp2_with fail
      have HT2 : Hid (OneC c ⟨m, A.drop 0 ++ A.take 0⟩ W1 wr) := Lib.hid (by simpa using HF.out)
      clear HF hlt hj
      go_loopw [53] (fun i wr => ∃ jx : Nat, i = .int .i64 (jx : Int) ∧ jx ≤ N ∧ Hid (OneC c ⟨m, A.drop jx ++ A.take jx⟩ W1 wr)) (fun i _ => N - (intOf i).toNat)
      case atStart => exact ⟨0, rfl, Nat.zero_le _, HT2⟩
      case round =>
        obtain ⟨jx, rfl, hj, HF⟩ := hrel
        clear HT2
        by_cases hlt : jx < N
        · have hd : decide (jx < N) = true := decide_eq_true hlt
          have hjI : (jx : Int) < N := by omega
          have hjn : (jx : Int) < n := by omega
          have hjc : jx < n := by omega
          have hwr : IntKind.i64.wrap ((f : Int) + jx) = (f : Int) + jx := by rw [IntKind.wrap_i64]; omega
          obtain ⟨b, off, X, rfl, hb, hX, k0⟩ := HAr.out.one hjc
          have hsub := HAr.out.sub X (List.mem_of_getElem? hX)
          have hat := HAt.out jx X hlt hX
          obtain ⟨sa, sn, sc, g⟩ := X
          obtain ⟨q, hq⟩ : ∃ q, min sn 20 = q := ⟨_, rfl⟩
          have hqI : min (sn : Int) 20 = (q : Int) := by omega
          have hp := hsub.1
          have hpl := hp.len
          have hfit := hp.fit
          have htp := hp.top
          simp only at hat hp hpl hfit htp
          have hpq := pairs_front hp (k := q) (by omega)
          rw [take_same hpl hq] at hpq
          obtain ⟨gq, hgq⟩ : ∃ gq, g.take 20 = gq := ⟨_, rfl⟩
          rw [hgq] at hpq hat
          have hqs : q ≤ sn := by omega
          have hqcI : (q : Int) ≤ sc := by omega
          have hqsI : (q : Int) ≤ sn := by omega
          have hgl : gq.length = q := hpq.len.symm
          have HRg : Hid (RngG gq) := Lib.hid (fun y hy => hsub.2.2 y (List.mem_of_mem_take (by rw [hgq]; exact hy)))
          have hge := HF.out.get ((f : Int) + jx) (by omega)
          rw [show findC (⟨m, A.drop jx ++ A.take jx⟩ : Ca).L ((f : Int) + jx) = some gq from find_row hat, show getC ⟨m, A.drop jx ++ A.take jx⟩ ((f : Int) + jx) = ⟨m, A.drop (jx + 1) ++ A.take (jx + 1)⟩ from get_row HRow.out.1.nodup hat] at hge
          simp only [Option.getD_some, Option.isSome_some] at hge
          rw [hgl] at hge
          have HGe := Lib.hid hge
          have HSub : Hid (∀ w, Below W.heap.size W w → w.cell? ⟨b, off + jx, none⟩ = some (.slice sa sn sc) ∧ b < w.heap.size ∧ PairsIn .i32 sa q sc gq w) := Lib.hid (fun w hw => ⟨(hw.cell (p := ⟨b, off + jx, none⟩) hb).trans k0, Nat.lt_of_lt_of_le hb hw.size, hpq.belowAll hw⟩)
          have HGl0 := Lib.hid hgl
          have HQ20 : Hid (q ≤ 20) := Lib.hid (by omega)
          clear hb hX k0 hsub hat hp hpl hpq hgq hgl hge hq
          go_wp2_with fail
          refine HGe.out.mono ?_
          rintro r wg ⟨ga, gc, rfl, hgp, hgo, -⟩
          have hbg : Below W.heap.size W wg := HB1.out.trans (hgo.bel.mono HB1.out.size)
          obtain ⟨h8, h9, h10⟩ := HSub.out wg hbg
          have HK0 : Hid (wg.cell? ⟨b, off + jx, none⟩ = some (.slice sa sn sc)) := Lib.hid h8
          have HKl : Hid (b < wg.heap.size) := Lib.hid h9
          have HSl := Lib.hid h10
          have HGp := Lib.hid hgp
          have HGo := Lib.hid hgo
          clear hgp hgo hbg h8 h9 h10 HGe HF HSub
          try dsimp only
          rename_i K8 hK8
          refine hK8 _ _ ?_
          go_upto_region 19 with fail
          refine Go.Proofs.Ythplghcpjmodeaa.R.wp_region_due [] [0, 0, 0, 0, 0, 0, 0, 0, 0, 0, 0, 0, 0, 0, 0, 0, 0, 0, 0] (by kernel_rfl) (fun _ _ u => Below wg.heap.size wg u) (fun u u2 => Below u.heap.size u u2) (Ro19 c f jx b off n lc q sn sc sa ga gc gq) (by rfl) (by kernel_rfl) (by kernel_rfl) (by kernel_rfl) (by kernel_rfl) ?hcong ?hOk ?hop ?hdone ?h0
          case hcong => exact fun k f f2 u hs hst => hst
          case hOk => intro i u w1 w2 h hr; unfold Ro19 at h ⊢; split at h <;> first | exact h | skip; obtain ⟨a9, c9, h1, h2⟩ := h; exact ⟨a9, c9, h1, h2.belowAll hr⟩
          case h0 => exact (Below.refl _ _).drew
          case hop =>
            refine ⟨?_, ?_, ?_, ?_, ?_, ?_, ?_, ?_, ?_, ?_, ?_, ?_, ?_, ?_, ?_, ?_, ?_, ?_, ?_, trivial⟩
            · intro k z v hk hst hag hdep
              refine .inl ⟨rfl, fun K hK => ?_⟩
              have d12 : z.tmps.getD 12 undef = .bool true := hag.2.2 12 (by kernel_rfl)
              have e12 := d12
              rw [Array.getD_eq_getD_getElem?] at e12
              have HSt := Lib.hid hst
              clear hdep hag hst
              go_simp
              exact hK _ _ (Below.refl _ _) rfl HSt.out
            · intro k z v hk hst hag hdep
              refine .inl ⟨rfl, fun K hK => ?_⟩
              have d64 : z.tmps.getD 64 undef = .bool true := hdep { on := 0, ground := .data } (by simp) rfl _ _ rfl rfl
              have e64 := d64
              rw [Array.getD_eq_getD_getElem?] at e64
              have HSt := Lib.hid hst
              clear hdep hag hst
              go_simp
              exact hK _ _ (Below.refl _ _) rfl HSt.out
            · intro k z v hk hst hag hdep
              refine .inl ⟨rfl, fun K hK => ?_⟩
              have d65 : z.tmps.getD 65 undef = .bool false := hdep { on := 1, ground := .data } (by simp) rfl _ _ rfl rfl
              have e65 := d65
              rw [Array.getD_eq_getD_getElem?] at e65
              have HSt := Lib.hid hst
              clear hdep hag hst
              go_simp
              exact hK _ _ (Below.refl _ _) rfl HSt.out
            · intro k z v hk hst hag hdep
              have dg : Ro19 c f jx b off n lc q sn sc sa ga gc gq 2 (z.tmps.getD 66 undef) v := hdep { on := 2, ground := .guard } (by simp) rfl _ _ rfl rfl
              simp only [Ro19] at dg
              refine .inl ⟨Go.Proofs.Ythplghcpjmodeaa.R.wanted_of (j := 2) rfl rfl rfl dg (by rw [hag.2.1]; show 66 < 128; decide), fun K hK => ?_⟩
              have d11 : z.tmps.getD 11 undef = .slice ga q gc := hag.2.2 11 (by kernel_rfl)
              have e11 := d11
              rw [Array.getD_eq_getD_getElem?] at e11
              have HSt := Lib.hid hst
              clear hdep hag hst
              go_simp
              exact hK _ _ (Below.refl _ _) rfl HSt.out
            · intro k z v hk hst hag hdep
              have dg : Ro19 c f jx b off n lc q sn sc sa ga gc gq 2 (z.tmps.getD 66 undef) v := hdep { on := 2, ground := .guard } (by simp) rfl _ _ rfl rfl
              simp only [Ro19] at dg
              refine .inl ⟨Go.Proofs.Ythplghcpjmodeaa.R.wanted_of (j := 2) rfl rfl rfl dg (by rw [hag.2.1]; show 66 < 128; decide), fun K hK => ?_⟩
              have d0 : z.tmps.getD 0 undef = .slice (some ⟨b, off, none⟩) n lc := hag.2.2 0 (by kernel_rfl)
              have e0 := d0
              rw [Array.getD_eq_getD_getElem?] at e0
              have HSt := Lib.hid hst
              clear hdep hag hst
              go_simp
              exact hK _ _ (Below.refl _ _) rfl HSt.out
            · intro k z v hk hst hag hdep
              have dg : Ro19 c f jx b off n lc q sn sc sa ga gc gq 2 (z.tmps.getD 66 undef) v := hdep { on := 2, ground := .guard } (by simp) rfl _ _ rfl rfl
              simp only [Ro19] at dg
              refine .inl ⟨Go.Proofs.Ythplghcpjmodeaa.R.wanted_of (j := 2) rfl rfl rfl dg (by rw [hag.2.1]; show 66 < 128; decide), fun K hK => ?_⟩
              have d10 : z.tmps.getD 10 undef = .int .i64 (jx : Int) := hag.2.2 10 (by kernel_rfl)
              have e10 := d10
              rw [Array.getD_eq_getD_getElem?] at e10
              have HSt := Lib.hid hst
              clear hdep hag hst
              go_simp
              exact hK _ _ (Below.refl _ _) rfl HSt.out
            · intro k z v hk hst hag hdep
              have dg : Ro19 c f jx b off n lc q sn sc sa ga gc gq 2 (z.tmps.getD 66 undef) v := hdep { on := 2, ground := .guard } (by simp) rfl _ _ rfl rfl
              simp only [Ro19] at dg
              refine .inl ⟨Go.Proofs.Ythplghcpjmodeaa.R.wanted_of (j := 2) rfl rfl rfl dg (by rw [hag.2.1]; show 66 < 128; decide), fun K hK => ?_⟩
              have d68 : z.tmps.getD 68 undef = .slice (some ⟨b, off, none⟩) n lc := hdep { on := 4, ground := .data } (by simp) rfl _ _ rfl rfl
              have e68 := d68
              rw [Array.getD_eq_getD_getElem?] at e68
              have d69 : z.tmps.getD 69 undef = .int .i64 (jx : Int) := hdep { on := 5, ground := .data } (by simp) rfl _ _ rfl rfl
              have e69 := d69
              rw [Array.getD_eq_getD_getElem?] at e69
              have HSt := Lib.hid hst
              clear hdep hag hst
              go_simp
              exact hK _ _ (Below.refl _ _) rfl HSt.out
            · intro k z v hk hst hag hdep
              have dg : Ro19 c f jx b off n lc q sn sc sa ga gc gq 2 (z.tmps.getD 66 undef) v := hdep { on := 2, ground := .guard } (by simp) rfl _ _ rfl rfl
              simp only [Ro19] at dg
              refine .inl ⟨Go.Proofs.Ythplghcpjmodeaa.R.wanted_of (j := 2) rfl rfl rfl dg (by rw [hag.2.1]; show 66 < 128; decide), fun K hK => ?_⟩
              have d70 : z.tmps.getD 70 undef = .pointer (some ⟨b, off + jx, none⟩) := hdep { on := 6, ground := .data } (by simp) rfl _ _ rfl rfl
              have e70 := d70
              rw [Array.getD_eq_getD_getElem?] at e70
              have hb : Below wg.heap.size wg v := hst
              have l0 := (hb.cell (p := ⟨b, off + jx, none⟩) HKl.out).trans HK0.out
              try simp only at l0
              clear hb
              have HSt := Lib.hid hst
              clear hdep hag hst
              go_simp
              exact hK _ _ (Below.refl _ _) rfl HSt.out
            · intro k z v hk hst hag hdep
              have dg : Ro19 c f jx b off n lc q sn sc sa ga gc gq 2 (z.tmps.getD 66 undef) v := hdep { on := 2, ground := .guard } (by simp) rfl _ _ rfl rfl
              simp only [Ro19] at dg
              refine .inl ⟨Go.Proofs.Ythplghcpjmodeaa.R.wanted_of (j := 2) rfl rfl rfl dg (by rw [hag.2.1]; show 66 < 128; decide), fun K hK => ?_⟩
              have d0 : z.tmps.getD 0 undef = .slice (some ⟨b, off, none⟩) n lc := hag.2.2 0 (by kernel_rfl)
              have e0 := d0
              rw [Array.getD_eq_getD_getElem?] at e0
              have HSt := Lib.hid hst
              clear hdep hag hst
              go_simp
              exact hK _ _ (Below.refl _ _) rfl HSt.out
            · intro k z v hk hst hag hdep
              have dg : Ro19 c f jx b off n lc q sn sc sa ga gc gq 2 (z.tmps.getD 66 undef) v := hdep { on := 2, ground := .guard } (by simp) rfl _ _ rfl rfl
              simp only [Ro19] at dg
              refine .inl ⟨Go.Proofs.Ythplghcpjmodeaa.R.wanted_of (j := 2) rfl rfl rfl dg (by rw [hag.2.1]; show 66 < 128; decide), fun K hK => ?_⟩
              have d10 : z.tmps.getD 10 undef = .int .i64 (jx : Int) := hag.2.2 10 (by kernel_rfl)
              have e10 := d10
              rw [Array.getD_eq_getD_getElem?] at e10
              have HSt := Lib.hid hst
              clear hdep hag hst
              go_simp
              exact hK _ _ (Below.refl _ _) rfl HSt.out
            · intro k z v hk hst hag hdep
              have dg : Ro19 c f jx b off n lc q sn sc sa ga gc gq 2 (z.tmps.getD 66 undef) v := hdep { on := 2, ground := .guard } (by simp) rfl _ _ rfl rfl
              simp only [Ro19] at dg
              refine .inl ⟨Go.Proofs.Ythplghcpjmodeaa.R.wanted_of (j := 2) rfl rfl rfl dg (by rw [hag.2.1]; show 66 < 128; decide), fun K hK => ?_⟩
              have d72 : z.tmps.getD 72 undef = .slice (some ⟨b, off, none⟩) n lc := hdep { on := 8, ground := .data } (by simp) rfl _ _ rfl rfl
              have e72 := d72
              rw [Array.getD_eq_getD_getElem?] at e72
              have d73 : z.tmps.getD 73 undef = .int .i64 (jx : Int) := hdep { on := 9, ground := .data } (by simp) rfl _ _ rfl rfl
              have e73 := d73
              rw [Array.getD_eq_getD_getElem?] at e73
              have HSt := Lib.hid hst
              clear hdep hag hst
              go_simp
              exact hK _ _ (Below.refl _ _) rfl HSt.out
            · intro k z v hk hst hag hdep
              have dg : Ro19 c f jx b off n lc q sn sc sa ga gc gq 2 (z.tmps.getD 66 undef) v := hdep { on := 2, ground := .guard } (by simp) rfl _ _ rfl rfl
              simp only [Ro19] at dg
              refine .inl ⟨Go.Proofs.Ythplghcpjmodeaa.R.wanted_of (j := 2) rfl rfl rfl dg (by rw [hag.2.1]; show 66 < 128; decide), fun K hK => ?_⟩
              have d74 : z.tmps.getD 74 undef = .pointer (some ⟨b, off + jx, none⟩) := hdep { on := 10, ground := .data } (by simp) rfl _ _ rfl rfl
              have e74 := d74
              rw [Array.getD_eq_getD_getElem?] at e74
              have hb : Below wg.heap.size wg v := hst
              have l0 := (hb.cell (p := ⟨b, off + jx, none⟩) HKl.out).trans HK0.out
              try simp only at l0
              clear hb
              have HSt := Lib.hid hst
              clear hdep hag hst
              go_simp
              exact hK _ _ (Below.refl _ _) rfl HSt.out
            · intro k z v hk hst hag hdep
              have dg : Ro19 c f jx b off n lc q sn sc sa ga gc gq 2 (z.tmps.getD 66 undef) v := hdep { on := 2, ground := .guard } (by simp) rfl _ _ rfl rfl
              simp only [Ro19] at dg
              refine .inl ⟨Go.Proofs.Ythplghcpjmodeaa.R.wanted_of (j := 2) rfl rfl rfl dg (by rw [hag.2.1]; show 66 < 128; decide), fun K hK => ?_⟩
              have d75 : z.tmps.getD 75 undef = .slice sa sn sc := hdep { on := 11, ground := .data } (by simp) rfl _ _ rfl rfl
              have e75 := d75
              rw [Array.getD_eq_getD_getElem?] at e75
              have HSt := Lib.hid hst
              clear hdep hag hst
              go_simp
              exact hK _ _ (Below.refl _ _) rfl HSt.out
            · intro k z v hk hst hag hdep
              have dg : Ro19 c f jx b off n lc q sn sc sa ga gc gq 2 (z.tmps.getD 66 undef) v := hdep { on := 2, ground := .guard } (by simp) rfl _ _ rfl rfl
              simp only [Ro19] at dg
              refine .inl ⟨Go.Proofs.Ythplghcpjmodeaa.R.wanted_of (j := 2) rfl rfl rfl dg (by rw [hag.2.1]; show 66 < 128; decide), fun K hK => ?_⟩
              have d76 : z.tmps.getD 76 undef = .int .i64 (sn : Int) := hdep { on := 12, ground := .data } (by simp) rfl _ _ rfl rfl
              have e76 := d76
              rw [Array.getD_eq_getD_getElem?] at e76
              have HSt := Lib.hid hst
              clear hdep hag hst
              go_simp
              exact hK _ _ (Below.refl _ _) rfl HSt.out
            · intro k z v hk hst hag hdep
              have dg : Ro19 c f jx b off n lc q sn sc sa ga gc gq 2 (z.tmps.getD 66 undef) v := hdep { on := 2, ground := .guard } (by simp) rfl _ _ rfl rfl
              simp only [Ro19] at dg
              refine .inl ⟨Go.Proofs.Ythplghcpjmodeaa.R.wanted_of (j := 2) rfl rfl rfl dg (by rw [hag.2.1]; show 66 < 128; decide), fun K hK => ?_⟩
              have d71 : z.tmps.getD 71 undef = .slice sa sn sc := hdep { on := 7, ground := .data } (by simp) rfl _ _ rfl rfl
              have e71 := d71
              rw [Array.getD_eq_getD_getElem?] at e71
              have d77 : z.tmps.getD 77 undef = .int .i64 (q : Int) := hdep { on := 13, ground := .data } (by simp) rfl _ _ rfl rfl
              have e77 := d77
              rw [Array.getD_eq_getD_getElem?] at e77
              have HSt := Lib.hid hst
              clear hdep hag hst
              go_simp
              exact hK _ _ (Below.refl _ _) rfl HSt.out
            · intro k z v hk hst hag hdep
              have dg : Ro19 c f jx b off n lc q sn sc sa ga gc gq 2 (z.tmps.getD 66 undef) v := hdep { on := 2, ground := .guard } (by simp) rfl _ _ rfl rfl
              simp only [Ro19] at dg
              refine .inl ⟨Go.Proofs.Ythplghcpjmodeaa.R.wanted_of (j := 2) rfl rfl rfl dg (by rw [hag.2.1]; show 66 < 128; decide), fun K hK => ?_⟩
              have d78 : z.tmps.getD 78 undef = .slice sa q sc := hdep { on := 14, ground := .data } (by simp) rfl _ _ rfl rfl
              have e78 := d78
              rw [Array.getD_eq_getD_getElem?] at e78
              have hb : Below wg.heap.size wg v := hst
              have HTo := Lib.hid (told_any sa q sc gq v (HSl.out.belowAll hb) HRg.out (by have := HQ20.out; omega))
              have HBv := Lib.hid hb
              clear hdep hag hst hb
              go_simp
              refine HTo.out.mono ?_
              rintro e w' ⟨v9, rfl, h8, h9⟩
              obtain ⟨a8, c8, rfl, h7, -, -⟩ := h8.shape
              rw [HGl0.out] at h7 ⊢
              exact hK _ _ h9 ⟨_, _, rfl, h7⟩ (HBv.out.trans (h9.mono HBv.out.size))
            · intro k z v hk hst hag hdep
              have dg : Ro19 c f jx b off n lc q sn sc sa ga gc gq 2 (z.tmps.getD 66 undef) v := hdep { on := 2, ground := .guard } (by simp) rfl _ _ rfl rfl
              simp only [Ro19] at dg
              refine .inl ⟨Go.Proofs.Ythplghcpjmodeaa.R.wanted_of (j := 2) rfl rfl rfl dg (by rw [hag.2.1]; show 66 < 128; decide), fun K hK => ?_⟩
              have d67 : z.tmps.getD 67 undef = .slice ga q gc := hdep { on := 3, ground := .data } (by simp) rfl _ _ rfl rfl
              have e67 := d67
              rw [Array.getD_eq_getD_getElem?] at e67
              have d79' : Ro19 c f jx b off n lc q sn sc sa ga gc gq 15 (z.tmps.getD 79 undef) v := hdep { on := 15, ground := .data } (by simp) rfl _ _ rfl rfl
              simp only [Ro19] at d79'
              obtain ⟨a9, c9, d79, hp9⟩ := d79'
              have e79 := d79
              rw [Array.getD_eq_getD_getElem?] at e79
              have hb : Below wg.heap.size wg v := hst
              have HGl := Lib.hid (lawGlyphs_any ga q gc gq a9 q c9 gq v (HGp.out.belowAll hb) hp9 HRg.out (by have := HQ20.out; omega) (by have := HQ20.out; omega))
              have HBv := Lib.hid hb
              clear hdep hag hst hb
              go_simp
              refine HGl.out.mono ?_
              rintro e w' ⟨rfl, h9⟩
              rw [show (decide (gq = gq)) = true by simp]
              exact hK _ _ h9 rfl (HBv.out.trans (h9.mono HBv.out.size))
            · intro k z v hk hst hag hdep
              have dg : Ro19 c f jx b off n lc q sn sc sa ga gc gq 2 (z.tmps.getD 66 undef) v := hdep { on := 2, ground := .guard } (by simp) rfl _ _ rfl rfl
              simp only [Ro19] at dg
              refine .inl ⟨Go.Proofs.Ythplghcpjmodeaa.R.wanted_of (j := 2) rfl rfl rfl dg (by rw [hag.2.1]; show 66 < 128; decide), fun K hK => ?_⟩
              have d80 : z.tmps.getD 80 undef = .bool true := hdep { on := 16, ground := .data } (by simp) rfl _ _ rfl rfl
              have e80 := d80
              rw [Array.getD_eq_getD_getElem?] at e80
              have HSt := Lib.hid hst
              clear hdep hag hst
              go_simp
              exact hK _ _ (Below.refl _ _) rfl HSt.out
            · intro k z v hk hst hag hdep
              refine .inl ⟨rfl, fun K hK => ?_⟩
              have d66 : z.tmps.getD 66 undef = .bool false := hdep { on := 2, ground := .data } (by simp) rfl _ _ rfl rfl
              have e66 := d66
              rw [Array.getD_eq_getD_getElem?] at e66
              have d81 : z.tmps.getD 81 undef = .bool false := hdep { on := 17, ground := .data } (by simp) rfl _ _ rfl rfl
              have e81 := d81
              rw [Array.getD_eq_getD_getElem?] at e81
              have HSt := Lib.hid hst
              clear hdep hag hst
              go_simp
              exact hK _ _ (Below.refl _ _) rfl HSt.out
          case hdone =>
            intro z w3 hst hag hok
            have hb3 : Below wg.heap.size wg w3 := hst
            have d82 : z.tmps.getD 82 undef = .bool false := hok 18 _ 82 rfl rfl
            have H3 : Hid (OneC c ⟨m, A.drop (jx + 1) ++ A.take (jx + 1)⟩ W1 w3) := Lib.hid (HGo.out.below hb3)
            clear hst hb3
            obtain ⟨uu, hu, hzz⟩ := Go.Proofs.Ythplghcpjmodeaa.R.agree_frame [64, 65, 66, 67, 68, 69, 70, 71, 72, 73, 74, 75, 76, 77, 78, 79, 80, 81, 82] rfl hag
            have e82 := (hu 82).trans d82
            subst hzz
            simp only [List.foldl_cons, List.foldl_nil]
            rw [e82]
            clear e82 d82 hu hag hok
            try dsimp only [Exit.then]
            simp only [List.setIfInBounds_toArray, List.set_cons_succ, List.set_cons_zero]
            generalize uu 64 = u64', uu 65 = u65', uu 66 = u66', uu 67 = u67', uu 68 = u68', uu 69 = u69', uu 70 = u70', uu 71 = u71', uu 72 = u72', uu 73 = u73', uu 74 = u74', uu 75 = u75', uu 76 = u76', uu 77 = u77', uu 78 = u78', uu 79 = u79', uu 80 = u80', uu 81 = u81'
            clear uu
            go_wp2_with fail
            go_roundw
            case rel => exact ⟨jx + 1, by go_num, by omega, H3⟩
            case measure => simp [intOf]; omega
        · have e9 : N = jx := by omega
          subst e9
          have hd : decide (N < N) = false := by simp
          have hf9 := HF.out
          rw [List.take_of_length_le (by rw [HRow.out.2]; exact Nat.le_refl _), List.drop_eq_nil_of_le (by rw [HRow.out.2]; exact Nat.le_refl _), List.nil_append] at hf9
          have HSp := Lib.hid hf9.spans
          have HO9 := Lib.hid hf9
          clear hf9 HF hlt hj
          go_wp2_with fail
          refine HSp.out.mono ?_
          rintro r w4 ⟨v4, rfl, ho4, hb4⟩
          obtain ⟨a4, c4, rfl, hP4, hA4, -⟩ := ho4.shape
          have HA4 : Hid (∀ b off, a4 = some ⟨b, off, none⟩ → wr.heap.size ≤ b) := Lib.hid (fun b off e9 => (hA4 b off e9).1)
          have hO4 := HO9.out.below hb4
          rcases HMn.out with ⟨h0, h1⟩ | ⟨h0, h1⟩
          · subst h0
            have hA0 : A = [] := List.length_eq_zero_iff.1 HRow.out.2
            have hl0 : (spansC A).length = 0 := by rw [hA0]; simp [spansC, spI, sortI, addsS]
            have hend : Hid (P (.returned (.bool true)) w4) := Lib.hid (by rw [← HP.out]; exact ⟨rfl, HB1.out.trans (hO4.bel.mono HB1.out.size)⟩)
            rw [hl0] at hP4 ⊢
            clear hP4 hA4 ho4 hb4 hO4 hA0 hl0
            go_wp2_with fail
            all_goals exact hend.out
          · have h1' : N = m := h1.symm
            subst h1'
            have hS : spansC A = [((f : Int), (f : Int) + N)] := by
              have h9 := spans_row (m := N) HRow.out.1 ⟨by omega, hfI⟩ (by rw [HRow.out.2]; omega) (by rw [HRow.out.2]; omega)
              rw [HRow.out.2] at h9
              exact h9
            have hl1 : (spansC A).length = 1 := by rw [hS]; rfl
            rw [hl1] at hP4 ⊢
            rw [hS] at hP4
            obtain ⟨b4, o4, rfl, hbl4, hi4⟩ := hP4.at_.resolve_left (by simp)
            have s0 := (hi4 0 _ rfl).1
            have s1 := (hi4 0 _ rfl).2
            obtain ⟨M9, G9, hC9, hM9, hB9⟩ := HO9.out
            have hb4n : b4 ∉ M9 := fun hm => by
              have h9 := hC9.lt.1 b4 hm
              have h10 := HA4.out b4 o4 rfl
              omega
            have hx0 : 0 ≤ (f : Int) + N ∧ (f : Int) + N ≤ 1152921504606846976 := ⟨by omega, by omega⟩
            have hpf := put_full (A := A) (m := N) (i := (f : Int) + N) HRow.out.2 h0 hx0 (fun z hz e9 => by
              have h9 := (HRow.out.1.mem z.1).1 (List.mem_map.2 ⟨z, hz, rfl⟩)
              rw [HRow.out.2] at h9
              omega)
            have hhd : (A.headD (0, [])).1 = (f : Int) := by
              cases hA9 : A with
              | nil => have h9 := HRow.out.2; rw [hA9] at h9; simp at h9; omega
              | cons x A' =>
                have h9 := HRow.out.1 0 x (by rw [hA9]; rfl)
                show x.1 = f
                omega
            rw [hhd] at hpf
            have hpu := put_any ((f : Int) + N) (by omega) none 0 0 [] w4 (hC9.below hb4) (no_pairs _ _) (fun _ => rfl) (by decide) (fun _ p o e => by cases e)
            have hwr : IntKind.i64.wrap ((f : Int) + N) = (f : Int) + N := by rw [IntKind.wrap_i64]; omega
            have HPf := Lib.hid hpf
            have HPu := Lib.hid hpu
            have HS0 := Lib.hid s0
            have HS1 := Lib.hid s1
            have HB4 : Hid (Below W1.heap.size W1 w4) := Lib.hid (hB9.trans (hb4.mono hB9.size))
            have HM9 := Lib.hid hM9
            have HBn := Lib.hid hb4n
            have HBl := Lib.hid hbl4
            clear hS hl1 hA4 hP4 hi4 s0 s1 hC9 hM9 hB9 hb4n hx0 hpf hhd hpu ho4 hb4 hO4 HO9 hbl4
            go_wp2_with fail
            refine HPu.out.mono ?_
            rintro r w5 ⟨M5, G5, rfl, -, hk5, -, -⟩
            rw [HPf.out]
            have t0 := (World.cell?_of_block (a := ⟨b4, o4 + 0 * 2, none⟩) (hk5.block b4 HBl.out HBn.out)).trans HS0.out
            have t1 := (World.cell?_of_block (a := ⟨b4, o4 + 0 * 2 + 1, none⟩) (hk5.block b4 HBl.out HBn.out)).trans HS1.out
            simp only [Nat.zero_mul, Nat.add_zero] at t0 t1
            have hend : Hid (P (.returned (.bool true)) w5) := Lib.hid (by
              rw [← HP.out]
              exact ⟨rfl, HB1.out.trans ((hk5.below (base := W1.heap.size) HM9.out HB4.out HB4.out.size).mono HB1.out.size)⟩)
            clear hk5 HPu
            go_wp2_with fail
            all_goals exact hend.out
end Go.Proofs.Ythplghcpjmodeaa.C
