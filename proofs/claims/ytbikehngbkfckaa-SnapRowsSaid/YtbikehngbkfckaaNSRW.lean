/- SnapRows' walk. -/
import Derived.Test.YtbikehngbkfckaaNAwk
import Derived.Test.YtbikehngbkfckaaNRfR
import Derived.Test.YtbikehngbkfckaaNRfP
import Derived.Test.YtbikehngbkfckaaNPkRow
import Derived.Test.YtbikehngbkfckaaMerged3
import Derived.Test.YtbikehngbkfckaaMerged11
import Derived.Test.YtbikehngbkfckaaMerged19
namespace Go.Proofs.Ytbikehngbkfckaa.K
open Go.RowKit Go.Proofs.Ytbikehngbkfckaa.I

def SrOk (a1 : Option Addr) (n1 c1 : Nat) (a2 : Option Addr) (c2 : Nat) (bw : Bool) (p ab bb xb lq eq ls lp : Nat) (tq s pk : ByteArray) : Nat → Value → World → Prop
  | 0, u, _ => u = .agg #[.slice a1 n1 c1, .bool bw]
  | 1, u, _ => u = .agg #[.slice a2 n1 c2, .bool bw]
  | 2, u, _ => u = .bool true
  | 3, u, _ => u = .bool true
  | 4, u, _ => u = .pointer (some ⟨p, 0, none⟩)
  | 5, u, _ => u = .int .i64 (lq : Int)
  | 6, u, _ => u = .pointer (some ⟨xb, 0, none⟩)
  | 7, u, _ => u = .string tq
  | 8, u, _ => u = .int .i64 (lq : Int)
  | 9, u, _ => u = .bool true
  | 10, u, _ => u = .bool true
  | 11, u, _ => u = .bool true
  | 12, u, _ => u = .pointer (some ⟨p, 0, none⟩)
  | 13, u, _ => u = .int .i64 (eq : Int)
  | 14, u, _ => u = .pointer (some ⟨xb, 1, none⟩)
  | 15, u, _ => u = .int .i64 (eq : Int)
  | 16, u, _ => u = .bool true
  | 17, u, _ => u = .bool true
  | 18, u, _ => u = .bool true
  | 19, u, _ => u = .agg #[.slice a1 n1 c1, .bool bw]
  | 20, u, _ => u = .string pk
  | 21, u, _ => u = .agg #[.slice a2 n1 c2, .bool bw]
  | 22, u, _ => u = .string pk
  | 23, u, _ => u = .bool true
  | 24, u, _ => u = .bool true
  | 25, u, _ => u = .bool true
  | 26, u, _ => u = .pointer (some ⟨xb, 1, none⟩)
  | 27, u, _ => u = .int .i64 (eq : Int)
  | 28, u, _ => u = .bool false
  | 29, u, _ => u = .bool false
  | 30, u, _ => u = .agg #[.slice a1 n1 c1, .bool bw]
  | 31, u, _ => u = .string pk
  | 32, u, _ => u = .string s
  | 33, u, _ => u = .string s
  | 34, u, _ => u = .int .i64 (ls : Int)
  | 35, u, _ => u = .pointer (some ⟨xb, 0, none⟩)
  | 36, u, _ => u = .string tq
  | 37, u, _ => u = .int .i64 (lq : Int)
  | 38, u, _ => u = .int .i64 (lp : Int)
  | 39, u, _ => u = .string pk
  | 40, u, _ => u = .bool true
  | 41, u, _ => u = .bool true
  | 42, u, _ => u = .bool true
  | 43, u, _ => u = .bool true
  | _, _, _ => True
def SrEr (a1 : Option Addr) (n1 c1 : Nat) (a2 : Option Addr) (c2 : Nat) (bw : Bool) (p ab bb xb lq eq ls lp : Nat) (tq s pk : ByteArray) : Nat → Value → World → Prop
  | 0, u, _ => u = .agg #[.slice a1 n1 c1, .bool bw]
  | 1, u, _ => u = .agg #[.slice a2 n1 c2, .bool bw]
  | 2, u, _ => u = .bool true
  | 3, u, _ => u = .bool true
  | 4, u, _ => u = .pointer (some ⟨p, 0, none⟩)
  | 5, u, _ => u = .int .i64 (lq : Int)
  | 6, u, _ => u = .pointer (some ⟨xb, 0, none⟩)
  | 7, u, _ => u = .string tq
  | 8, u, _ => u = .int .i64 (lq : Int)
  | 9, u, _ => u = .bool true
  | 10, u, _ => u = .bool true
  | 11, u, _ => u = .bool true
  | 12, u, _ => u = .pointer (some ⟨p, 0, none⟩)
  | 13, u, _ => u = .int .i64 (eq : Int)
  | 14, u, _ => u = .pointer (some ⟨xb, 1, none⟩)
  | 15, u, _ => u = .int .i64 (eq : Int)
  | 16, u, _ => u = .bool true
  | 17, u, _ => u = .bool true
  | 18, u, _ => u = .bool true
  | 19, u, _ => u = .agg #[.slice a1 n1 c1, .bool bw]
  | 20, u, _ => u = .string pk
  | 21, u, _ => u = .agg #[.slice a2 n1 c2, .bool bw]
  | 22, u, _ => u = .string pk
  | 23, u, _ => u = .bool true
  | 24, u, _ => u = .bool true
  | 25, u, _ => u = .bool true
  | 26, u, _ => u = .pointer (some ⟨xb, 1, none⟩)
  | 27, u, _ => u = .int .i64 (eq : Int)
  | 28, u, _ => u = .bool true
  | 29, u, _ => u = .bool true
  | 30, _, _ => True
  | 31, _, _ => True
  | 32, _, _ => True
  | 33, _, _ => True
  | 34, _, _ => True
  | 35, _, _ => True
  | 36, _, _ => True
  | 37, _, _ => True
  | 38, _, _ => True
  | 39, _, _ => True
  | 40, _, _ => True
  | 41, u, _ => u = .bool true
  | 42, u, _ => u = .bool true
  | 43, u, _ => u = .bool true
  | _, _, _ => True
theorem rd_back {s : List UInt8} {w : Nat} (h : (readR (s, 0) w).1.2 = 0) : s = packR (readR (s, 0) w).2 ++ (readR (s, 0) w).1.1 := (readR_zero h).2.1
set_option maxRecDepth 100000 in
set_option maxHeartbeats 16000000 in
theorem snapRows_walk (s0 : ByteArray) (hs0 : (s0.size : Int) ≤ 9223372036854775807) (W0 : Int) (hW1 : -9223372036854775808 ≤ W0) (hW2 : W0 ≤ 9223372036854775807) (w : World) : Calls Try.prog 4 #[.string s0, .int .i64 W0] w fun e w' => e = .returned (.bool true) ∧ Below w.heap.size w w' := by
  obtain ⟨P, hP⟩ : ∃ P : Ending → World → Prop, (fun e w' => e = .returned (.bool true) ∧ Below w.heap.size w w') = P := ⟨_, rfl⟩
  rw [hP]
  have HEnd : Hid (∀ v, Below w.heap.size w v → P (.returned (.bool true)) v) := Lib.hid (fun v hb => by rw [← hP]; exact ⟨rfl, hb⟩)
  have HA := Lib.hid (nawake_any w)
  have HCu : Hid (∀ v, Calls Try.prog 8 #[.string s0, .int .i64 120] v fun e w' => (∃ t : ByteArray, e = .returned (.string t) ∧ (t.size : Int) ≤ 120 ∧ t.data.toList = s0.data.toList.take 120) ∧ v = w') := Lib.hid (fun v => cut_any s0 120 hs0 (by decide) v)
  clear hP
  go_enter Try.func4, Try.ntmps4
  go_wp2_with fail
  refine HA.out.mono ?_
  rintro e w1 ⟨rfl, hb1⟩
  have HB1 := Lib.hid hb1
  have HCu1 := Lib.hid (HCu.out w1)
  clear hb1
  go_wp2_with fail
  refine HCu1.out.mono ?_
  rintro e w2 ⟨⟨s, rfl, hs, -⟩, rfl⟩
  have HSz := Lib.hid hs
  obtain ⟨W, hW, hWa, hWb⟩ : ∃ W : Int, max (-1) (min W0 50) = W ∧ -1 ≤ W ∧ W ≤ 50 := ⟨_, rfl, by omega, by omega⟩
  have HO := Lib.hid (of_any s (by omega) w1)
  have HWd := Lib.hid hW
  clear hs HA HCu HCu1
  go_upto_region 5 with fail
  try rw [HWd.out]
  go_wp2_with fail
  refine HO.out.mono ?_
  rintro e w3 ⟨rfl, hi3, hw3⟩
  obtain ⟨p, hp⟩ : ∃ p, w1.heap.size = p := ⟨_, rfl⟩
  rw [hp] at hi3 ⊢
  have hb3 : Below w.heap.size w w3 := by rw [hw3]; exact HB1.out.alloc HB1.out.size _
  have HI3 := Lib.hid hi3
  have HB3 := Lib.hid hb3
  have hps : p < w3.heap.size := by rw [hw3, World.size_alloc]; omega
  have hpw : w.heap.size ≤ p := by rw [← hp]; exact HB1.out.size
  have HPs := Lib.hid hps
  have HPw := Lib.hid hpw
  obtain ⟨q, hq⟩ : ∃ q, readR (s.data.toList, 0) W.toNat = q := ⟨_, rfl⟩
  have hok := readR_ok (st := (s.data.toList, 0)) (fun h => absurd rfl h) W.toNat
  have hlen := readR_len (s.data.toList, 0) W.toNat
  have hrng := readR_rng (s.data.toList, 0) W.toNat
  have hbk := fun h => rd_back (s := s.data.toList) (w := W.toNat) h
  have hR := readRow_any p (s.data.toList, 0) W (by omega) (by omega) w3 hi3
  have hF := fun v => nrfrow_any s (by have := HSz.out; omega) (s.data.toList, 0) rfl (fun h => absurd rfl h) W (by omega) (by omega) v
  rw [hq] at hR hF hok hlen hrng hbk
  obtain ⟨⟨lq0, eq⟩, ⟨lr, bw⟩⟩ := q
  simp only at hok hlen hrng hbk
  have HR := Lib.hid hR
  have hF' : ∀ v, Calls Try.prog 15 #[.agg #[.string s, .int .i64 0], .int .i64 W] v (RfPost ((lq0, eq), ⟨lr, bw⟩) v) := hF
  have HF := Lib.hid hF'
  have HRng := Lib.hid hrng
  have HBk := Lib.hid hbk
  have HLen : Hid (lr.length ≤ 50) := Lib.hid (by omega)
  clear hi3 hw3 hp hb3 hps hpw hq hok hlen hrng hbk hR hF hF' HO
  go_wp2_with fail
  refine HR.out.mono ?_
  rintro e w4 ⟨v1, rfl, ho4, hi4, hg4⟩
  obtain ⟨a1, c1, rfl, hin4, -, hnl4, hft4, htp4⟩ := ho4.shape
  simp only at hin4 hft4 hi4 ⊢
  obtain ⟨n1, hn1⟩ : ∃ n, lr.length = n := ⟨_, rfl⟩
  have hb4 : Below w.heap.size w w4 := HB3.out.grown hg4 (HB3.out.size) (fun q e => by have := Option.some.inj e; have := HPw.out; omega)
  have hv4 : RowV .i32 (.agg #[.slice a1 n1 c1, .bool bw]) ⟨lr, bw⟩ w4 := ⟨a1, c1, by rw [← hn1], hin4, hnl4, hft4, htp4⟩
  rw [hn1]
  obtain ⟨ab, hab⟩ : ∃ ab, w4.heap.size = ab := ⟨_, rfl⟩
  obtain ⟨w5, hw5⟩ : ∃ w5, w4.alloc (.cells #[.slice a1 n1 c1, .bool bw] 45) = w5 := ⟨_, rfl⟩
  have hb5 : Below w4.heap.size w4 w5 := by rw [← hw5]; exact (Below.refl _ _).alloc (Nat.le_refl _) _
  have hz5 : w5.heap[ab]? = some (.cells #[.slice a1 n1 c1, .bool bw] 45 (0, 0)) := by rw [← hw5, ← hab]; exact heap_alloc_new w4 _
  have HV5 := Lib.hid (hv4.belowAll hb5)
  have HI5 := Lib.hid (inst_below hi4 hb5)
  have HB5 := Lib.hid (hb4.trans (hb5.mono hb4.size))
  have HZ5 := Lib.hid hz5
  have HW5 := Lib.hid hw5
  have HAb := Lib.hid hab
  have HN1 := Lib.hid hn1
  have HF5 := Lib.hid (HF.out w5)
  clear ho4 hi4 hg4 hin4 hnl4 hft4 htp4 hn1 hb4 hv4 hab hw5 hb5 hz5 HR HI3
  go_upto_region 9 with fail
  rw [HW5.out, HAb.out]
  go_wp2_with fail
  refine HF5.out.mono ?_
  rintro e w6 ⟨tq, v2, rfl, htq, -, ho6, hb6⟩
  obtain ⟨a2, c2, rfl, hin6, -, hnl6, hft6, htp6⟩ := ho6.shape
  simp only at htq hin6 hft6 ⊢
  rw [HN1.out] at hin6 hft6 ⊢
  have hv6 : RowV .i64 (.agg #[.slice a2 n1 c2, .bool bw]) ⟨lr, bw⟩ w6 := ⟨a2, c2, by rw [HN1.out], by rw [HN1.out]; exact hin6, hnl6, by rw [HN1.out]; exact hft6, htp6⟩
  obtain ⟨xb, hxb⟩ : ∃ ab, w6.heap.size = ab := ⟨_, rfl⟩
  obtain ⟨wg, hwg⟩ : ∃ wg, (w6.alloc (.cells #[.string tq, .int .i64 (eq : Int)] 48)).alloc (.cells #[.slice a2 n1 c2, .bool bw] 51) = wg := ⟨_, rfl⟩
  have hbg : Below w6.heap.size w6 wg := by rw [← hwg]; exact ((Below.refl _ _).alloc (Nat.le_refl _) _).alloc (by simp only [World.size_alloc]; omega) _
  have hzx : wg.heap[xb]? = some (.cells #[.string tq, .int .i64 (eq : Int)] 48 (0, 0)) := by
    rw [← hwg, ← hxb, Below.heap_alloc _ _ _ (by rw [World.size_alloc]; omega)]
    exact heap_alloc_new w6 _
  have hzb : wg.heap[xb + 1]? = some (.cells #[.slice a2 n1 c2, .bool bw] 51 (0, 0)) := by
    have h := heap_alloc_new (w6.alloc (.cells #[.string tq, .int .i64 (eq : Int)] 48)) (.cells #[.slice a2 n1 c2, .bool bw] 51)
    rw [World.size_alloc, hxb, hwg] at h
    exact h
  have hbg5 := hb6.trans (hbg.mono hb6.size)
  have hza := (hbg5.block ab (Array.getElem?_eq_some_iff.1 HZ5.out).1).trans HZ5.out
  have hcl : ∀ {b : Nat} {T : TypeId} {x y : Value} (h : wg.heap[b]? = some (.cells #[x, y] T (0, 0))) (v : World), Below wg.heap.size wg v → v.cell? ⟨b, 0, none⟩ = some x ∧ v.cell? ⟨b, 1, none⟩ = some y := fun {b T x y} h v hb => by
    have h2 := (hb.block b (Array.getElem?_eq_some_iff.1 h).1).trans h
    exact ⟨by rw [cell_block h2]; rfl, by rw [cell_block h2]; rfl⟩
  have HAc := Lib.hid (hcl hza)
  have HBc := Lib.hid (hcl hzb)
  have HXc := Lib.hid (hcl hzx)
  have hiG := inst_below HI5.out hbg5
  have hvA := HV5.out.belowAll hbg5
  have hvB := hv6.belowAll hbg
  have HLe : Hid (∀ v, Below wg.heap.size wg v → Calls Try.prog 17 #[.pointer (some ⟨p, 0, none⟩)] v fun en w' => en = .returned (.int .i64 (lq0.length : Int)) ∧ v = w') := Lib.hid (fun v hb => left_any p lq0 eq v (inst_below hiG hb))
  have HEr : Hid (∀ v, Below wg.heap.size wg v → Calls Try.prog 18 #[.pointer (some ⟨p, 0, none⟩)] v fun en w' => en = .returned (.int .i64 (eq : Int)) ∧ v = w') := Lib.hid (fun v hb => err_any p lq0 eq v (inst_below hiG hb))
  have HIs : Hid (∀ v, Below wg.heap.size wg v → Calls Try.prog 16 #[.agg #[.slice a1 n1 c1, .bool bw], .agg #[.slice a2 n1 c2, .bool bw]] v fun e w' => e = .returned (.bool true) ∧ Below v.heap.size v w') := Lib.hid (fun v hb => by
    have h := isRow_any (hvA.belowAll hb) (hvB.belowAll hb) (okC_rng HRng.out) (by have := HLen.out; simp only; omega) (by have := HLen.out; simp only; omega)
    rw [show decide ((⟨lr, bw⟩ : Ro) = ⟨lr, bw⟩) = true by simp] at h
    exact h)
  obtain ⟨pk, hpk⟩ : ∃ pk : ByteArray, (⟨(packR ⟨lr, bw⟩).toArray⟩ : ByteArray) = pk := ⟨_, rfl⟩
  have hpl : pk.data.toList = packR ⟨lr, bw⟩ := by rw [← hpk]
  have HPk : Hid (∀ v, Below wg.heap.size wg v → Calls Try.prog 19 #[.agg #[.slice a1 n1 c1, .bool bw]] v fun e w' => e = .returned (.string pk) ∧ Below v.heap.size v w') := Lib.hid (fun v hb => by
    have h := packRow_any a1 n1 c1 bw ⟨lr, bw⟩ v (hvA.belowAll hb) HRng.out (by have := HLen.out; have := HN1.out; omega)
    rw [hpk] at h
    exact h)
  have HPf : Hid (∀ v, Below wg.heap.size wg v → Calls Try.prog 20 #[.agg #[.slice a2 n1 c2, .bool bw]] v fun e w' => e = .returned (.string pk) ∧ Below v.heap.size v w') := Lib.hid (fun v hb => by
    refine (refPackRow_any a2 n1 c2 bw ⟨lr, bw⟩ v (hvB.belowAll hb) (by have := HLen.out; have := HN1.out; omega)).mono ?_
    rintro e w' ⟨t, rfl, ht, hb'⟩
    exact ⟨by rw [show t = pk from bytes_eq (by rw [ht, hpl])], hb'⟩)
  obtain ⟨lq, hlq⟩ : ∃ n, lq0.length = n := ⟨_, rfl⟩
  rw [hlq] at HLe
  have HTz : Hid (tq.size = lq) := Lib.hid (by rw [← hlq, ← htq]; rfl)
  obtain ⟨ls, hls⟩ : ∃ n, s.size = n := ⟨_, rfl⟩
  have HSs := Lib.hid hls
  have HBg := Lib.hid (HB5.out.trans (hbg5.mono HB5.out.size))
  have HEnd2 : Hid (∀ v, Below wg.heap.size wg v → P (.returned (.bool true)) v) := Lib.hid (fun v hb => HEnd.out v (HBg.out.trans (hb.mono HBg.out.size)))
  have HWg := Lib.hid hwg
  have HXb := Lib.hid hxb
  obtain ⟨bb, hbb⟩ : ∃ b, xb + 1 = b := ⟨_, rfl⟩
  rw [hbb] at HBc
  have HBb := Lib.hid hbb
  have HPl := Lib.hid hpl
  have HLq := Lib.hid hlq
  have HTq := Lib.hid htq
  clear htq ho6 hb6 hin6 hnl6 hft6 htp6 hv6 hxb hwg hbg hzx hzb hbg5 hza hcl hiG hvA hvB hpk hpl hlq hls hbb HF5 HF HB5
  go_upto_region 10 with fail
  rw [HWg.out, HXb.out]
  first | rw [HBb.out] | skip
  by_cases he : eq = 0
  · have hbk := HBk.out he
    have hpll : pk.size + lq = ls := by
      have h := congrArg List.length hbk
      rw [List.length_append, ← HPl.out, HLq.out] at h
      have h2 : s.data.toList.length = s.size := rfl
      have h3 : pk.data.toList.length = pk.size := rfl
      have := HSs.out
      omega
    obtain ⟨lp, hlp⟩ : ∃ n, pk.size = n := ⟨_, rfl⟩
    rw [hlp] at hpll
    have HLs : Hid (lq ≤ ls) := Lib.hid (by omega)
    have HLsb : Hid (lp + lq = ls ∧ ls ≤ 120) := Lib.hid ⟨hpll, by have := HSs.out; have := HSz.out; omega⟩
    have HCut : Hid (s.extract 0 lp = pk) := Lib.hid (by
      apply bytes_eq
      have h : (s.extract 0 lp).data.toList = s.data.toList.take lp := by simp
      rw [h, hbk, ← HPl.out, ← hlp]
      show (pk.data.toList ++ lq0).take pk.data.toList.length = _
      rw [List.take_left])
    have qe : ((eq : Int) != 0) = false := by rw [he]; rfl
    clear hbk hpll hlp he
    refine Go.Proofs.Ytbikehngbkfckaa.R.wp_region_due [] [0, 0, 0, 0, 0, 0, 0, 0, 0, 0, 0, 0, 0, 0, 0, 0, 0, 0, 0, 0, 0, 0, 0, 0, 0, 0, 0, 0, 0, 0, 0, 0, 0, 0, 0, 0, 0, 0, 0, 0, 0, 0, 0, 0] (by kernel_rfl) (fun _ _ u => Below wg.heap.size wg u) (fun u u2 => Below u.heap.size u u2) (SrOk a1 n1 c1 a2 c2 bw p ab bb xb lq eq ls lp tq s pk) (by rfl) (by kernel_rfl) (by kernel_rfl) (by kernel_rfl) (by kernel_rfl) ?hcong ?hOk ?hop ?hdone ?h0
    case hcong => exact fun k f f2 u hs hst => hst
    case hOk => intro i u w1 w2 h hr; unfold SrOk at h ⊢; split <;> first | exact True.intro | exact h
    case h0 => exact (Below.refl _ _).drew
    case hop =>
      refine ⟨?_, ?_, ?_, ?_, ?_, ?_, ?_, ?_, ?_, ?_, ?_, ?_, ?_, ?_, ?_, ?_, ?_, ?_, ?_, ?_, ?_, ?_, ?_, ?_, ?_, ?_, ?_, ?_, ?_, ?_, ?_, ?_, ?_, ?_, ?_, ?_, ?_, ?_, ?_, ?_, ?_, ?_, ?_, ?_, trivial⟩
      · intro k z v hk hst hag hdep
        refine .inl ⟨rfl, fun K hK => ?_⟩
        have d6 : z.tmps.getD 6 undef = .pointer (some ⟨ab, 0, none⟩) := hag.2.2 6 (by kernel_rfl)
        have e6 := d6
        rw [Array.getD_eq_getD_getElem?] at e6
        have hb : Below wg.heap.size wg v := hst
        obtain ⟨l0, l1⟩ := HAc.out v hb
        clear hb
        have HSt := Lib.hid hst
        clear hdep hag hst
        go_simp
        exact hK _ _ (Below.refl _ _) rfl HSt.out
      · intro k z v hk hst hag hdep
        refine .inl ⟨rfl, fun K hK => ?_⟩
        have d8 : z.tmps.getD 8 undef = .pointer (some ⟨bb, 0, none⟩) := hag.2.2 8 (by kernel_rfl)
        have e8 := d8
        rw [Array.getD_eq_getD_getElem?] at e8
        have hb : Below wg.heap.size wg v := hst
        obtain ⟨l0, l1⟩ := HBc.out v hb
        clear hb
        have HSt := Lib.hid hst
        clear hdep hag hst
        go_simp
        exact hK _ _ (Below.refl _ _) rfl HSt.out
      · intro k z v hk hst hag hdep
        refine .inl ⟨rfl, fun K hK => ?_⟩
        have d30 : z.tmps.getD 30 undef = .agg #[.slice a1 n1 c1, .bool bw] := hdep { on := 0, ground := .data } (by simp) rfl _ _ rfl rfl
        have e30 := d30
        rw [Array.getD_eq_getD_getElem?] at e30
        have d31 : z.tmps.getD 31 undef = .agg #[.slice a2 n1 c2, .bool bw] := hdep { on := 1, ground := .data } (by simp) rfl _ _ rfl rfl
        have e31 := d31
        rw [Array.getD_eq_getD_getElem?] at e31
        have hb : Below wg.heap.size wg v := hst
        have HC := Lib.hid (HIs.out v hb)
        have HBv := Lib.hid hb
        clear hdep hag hst hb
        go_simp
        refine HC.out.mono ?_
        rintro e w' ⟨rfl, h9⟩
        exact hK _ _ h9 rfl (HBv.out.trans (h9.mono HBv.out.size))
      · intro k z v hk hst hag hdep
        refine .inl ⟨rfl, fun K hK => ?_⟩
        have d32 : z.tmps.getD 32 undef = .bool true := hdep { on := 2, ground := .data } (by simp) rfl _ _ rfl rfl
        have e32 := d32
        rw [Array.getD_eq_getD_getElem?] at e32
        have HSt := Lib.hid hst
        clear hdep hag hst
        go_simp
        exact hK _ _ (Below.refl _ _) rfl HSt.out
      · intro k z v hk hst hag hdep
        have dg : SrOk a1 n1 c1 a2 c2 bw p ab bb xb lq eq ls lp tq s pk 3 (z.tmps.getD 33 undef) v := hdep { on := 3, ground := .guard } (by simp) rfl _ _ rfl rfl
        simp only [SrOk] at dg
        refine .inl ⟨Go.Proofs.Ytbikehngbkfckaa.R.wanted_of (j := 3) rfl rfl rfl dg (by rw [hag.2.1]; show 33 < 73; decide), fun K hK => ?_⟩
        have d5 : z.tmps.getD 5 undef = .pointer (some ⟨p, 0, none⟩) := hag.2.2 5 (by kernel_rfl)
        have e5 := d5
        rw [Array.getD_eq_getD_getElem?] at e5
        have HSt := Lib.hid hst
        clear hdep hag hst
        go_simp
        exact hK _ _ (Below.refl _ _) rfl HSt.out
      · intro k z v hk hst hag hdep
        have dg : SrOk a1 n1 c1 a2 c2 bw p ab bb xb lq eq ls lp tq s pk 3 (z.tmps.getD 33 undef) v := hdep { on := 3, ground := .guard } (by simp) rfl _ _ rfl rfl
        simp only [SrOk] at dg
        refine .inl ⟨Go.Proofs.Ytbikehngbkfckaa.R.wanted_of (j := 3) rfl rfl rfl dg (by rw [hag.2.1]; show 33 < 73; decide), fun K hK => ?_⟩
        have d34 : z.tmps.getD 34 undef = .pointer (some ⟨p, 0, none⟩) := hdep { on := 4, ground := .data } (by simp) rfl _ _ rfl rfl
        have e34 := d34
        rw [Array.getD_eq_getD_getElem?] at e34
        have hb : Below wg.heap.size wg v := hst
        have HC := Lib.hid (HLe.out v hb)
        have HBv := Lib.hid hb
        clear hdep hag hst hb
        go_simp
        refine HC.out.mono ?_
        rintro e w' ⟨rfl, rfl⟩
        exact hK _ _ (Below.refl _ _) rfl HBv.out
      · intro k z v hk hst hag hdep
        have dg : SrOk a1 n1 c1 a2 c2 bw p ab bb xb lq eq ls lp tq s pk 3 (z.tmps.getD 33 undef) v := hdep { on := 3, ground := .guard } (by simp) rfl _ _ rfl rfl
        simp only [SrOk] at dg
        refine .inl ⟨Go.Proofs.Ytbikehngbkfckaa.R.wanted_of (j := 3) rfl rfl rfl dg (by rw [hag.2.1]; show 33 < 73; decide), fun K hK => ?_⟩
        have d7 : z.tmps.getD 7 undef = .pointer (some ⟨xb, 0, none⟩) := hag.2.2 7 (by kernel_rfl)
        have e7 := d7
        rw [Array.getD_eq_getD_getElem?] at e7
        have HSt := Lib.hid hst
        clear hdep hag hst
        go_simp
        exact hK _ _ (Below.refl _ _) rfl HSt.out
      · intro k z v hk hst hag hdep
        have dg : SrOk a1 n1 c1 a2 c2 bw p ab bb xb lq eq ls lp tq s pk 3 (z.tmps.getD 33 undef) v := hdep { on := 3, ground := .guard } (by simp) rfl _ _ rfl rfl
        simp only [SrOk] at dg
        refine .inl ⟨Go.Proofs.Ytbikehngbkfckaa.R.wanted_of (j := 3) rfl rfl rfl dg (by rw [hag.2.1]; show 33 < 73; decide), fun K hK => ?_⟩
        have d36 : z.tmps.getD 36 undef = .pointer (some ⟨xb, 0, none⟩) := hdep { on := 6, ground := .data } (by simp) rfl _ _ rfl rfl
        have e36 := d36
        rw [Array.getD_eq_getD_getElem?] at e36
        have hb : Below wg.heap.size wg v := hst
        obtain ⟨l0, l1⟩ := HXc.out v hb
        clear hb
        have HSt := Lib.hid hst
        clear hdep hag hst
        go_simp
        exact hK _ _ (Below.refl _ _) rfl HSt.out
      · intro k z v hk hst hag hdep
        have dg : SrOk a1 n1 c1 a2 c2 bw p ab bb xb lq eq ls lp tq s pk 3 (z.tmps.getD 33 undef) v := hdep { on := 3, ground := .guard } (by simp) rfl _ _ rfl rfl
        simp only [SrOk] at dg
        refine .inl ⟨Go.Proofs.Ytbikehngbkfckaa.R.wanted_of (j := 3) rfl rfl rfl dg (by rw [hag.2.1]; show 33 < 73; decide), fun K hK => ?_⟩
        have d37 : z.tmps.getD 37 undef = .string tq := hdep { on := 7, ground := .data } (by simp) rfl _ _ rfl rfl
        have e37 := d37
        rw [Array.getD_eq_getD_getElem?] at e37
        have HSt := Lib.hid hst
        clear hdep hag hst
        go_simp
        rw [HTz.out]
        exact hK _ _ (Below.refl _ _) rfl HSt.out
      · intro k z v hk hst hag hdep
        have dg : SrOk a1 n1 c1 a2 c2 bw p ab bb xb lq eq ls lp tq s pk 3 (z.tmps.getD 33 undef) v := hdep { on := 3, ground := .guard } (by simp) rfl _ _ rfl rfl
        simp only [SrOk] at dg
        refine .inl ⟨Go.Proofs.Ytbikehngbkfckaa.R.wanted_of (j := 3) rfl rfl rfl dg (by rw [hag.2.1]; show 33 < 73; decide), fun K hK => ?_⟩
        have d35 : z.tmps.getD 35 undef = .int .i64 (lq : Int) := hdep { on := 5, ground := .data } (by simp) rfl _ _ rfl rfl
        have e35 := d35
        rw [Array.getD_eq_getD_getElem?] at e35
        have d38 : z.tmps.getD 38 undef = .int .i64 (lq : Int) := hdep { on := 8, ground := .data } (by simp) rfl _ _ rfl rfl
        have e38 := d38
        rw [Array.getD_eq_getD_getElem?] at e38
        have HSt := Lib.hid hst
        clear hdep hag hst
        go_simp
        exact hK _ _ (Below.refl _ _) rfl HSt.out
      · intro k z v hk hst hag hdep
        refine .inl ⟨rfl, fun K hK => ?_⟩
        have d33 : z.tmps.getD 33 undef = .bool true := hdep { on := 3, ground := .data } (by simp) rfl _ _ rfl rfl
        have e33 := d33
        rw [Array.getD_eq_getD_getElem?] at e33
        have d39 : z.tmps.getD 39 undef = .bool true := hdep { on := 9, ground := .data } (by simp) rfl _ _ rfl rfl
        have e39 := d39
        rw [Array.getD_eq_getD_getElem?] at e39
        have HSt := Lib.hid hst
        clear hdep hag hst
        go_simp
        exact hK _ _ (Below.refl _ _) rfl HSt.out
      · intro k z v hk hst hag hdep
        refine .inl ⟨rfl, fun K hK => ?_⟩
        have d40 : z.tmps.getD 40 undef = .bool true := hdep { on := 10, ground := .data } (by simp) rfl _ _ rfl rfl
        have e40 := d40
        rw [Array.getD_eq_getD_getElem?] at e40
        have HSt := Lib.hid hst
        clear hdep hag hst
        go_simp
        exact hK _ _ (Below.refl _ _) rfl HSt.out
      · intro k z v hk hst hag hdep
        have dg : SrOk a1 n1 c1 a2 c2 bw p ab bb xb lq eq ls lp tq s pk 11 (z.tmps.getD 41 undef) v := hdep { on := 11, ground := .guard } (by simp) rfl _ _ rfl rfl
        simp only [SrOk] at dg
        refine .inl ⟨Go.Proofs.Ytbikehngbkfckaa.R.wanted_of (j := 11) rfl rfl rfl dg (by rw [hag.2.1]; show 41 < 73; decide), fun K hK => ?_⟩
        have d5 : z.tmps.getD 5 undef = .pointer (some ⟨p, 0, none⟩) := hag.2.2 5 (by kernel_rfl)
        have e5 := d5
        rw [Array.getD_eq_getD_getElem?] at e5
        have HSt := Lib.hid hst
        clear hdep hag hst
        go_simp
        exact hK _ _ (Below.refl _ _) rfl HSt.out
      · intro k z v hk hst hag hdep
        have dg : SrOk a1 n1 c1 a2 c2 bw p ab bb xb lq eq ls lp tq s pk 11 (z.tmps.getD 41 undef) v := hdep { on := 11, ground := .guard } (by simp) rfl _ _ rfl rfl
        simp only [SrOk] at dg
        refine .inl ⟨Go.Proofs.Ytbikehngbkfckaa.R.wanted_of (j := 11) rfl rfl rfl dg (by rw [hag.2.1]; show 41 < 73; decide), fun K hK => ?_⟩
        have d42 : z.tmps.getD 42 undef = .pointer (some ⟨p, 0, none⟩) := hdep { on := 12, ground := .data } (by simp) rfl _ _ rfl rfl
        have e42 := d42
        rw [Array.getD_eq_getD_getElem?] at e42
        have hb : Below wg.heap.size wg v := hst
        have HC := Lib.hid (HEr.out v hb)
        have HBv := Lib.hid hb
        clear hdep hag hst hb
        go_simp
        refine HC.out.mono ?_
        rintro e w' ⟨rfl, rfl⟩
        exact hK _ _ (Below.refl _ _) rfl HBv.out
      · intro k z v hk hst hag hdep
        have dg : SrOk a1 n1 c1 a2 c2 bw p ab bb xb lq eq ls lp tq s pk 11 (z.tmps.getD 41 undef) v := hdep { on := 11, ground := .guard } (by simp) rfl _ _ rfl rfl
        simp only [SrOk] at dg
        refine .inl ⟨Go.Proofs.Ytbikehngbkfckaa.R.wanted_of (j := 11) rfl rfl rfl dg (by rw [hag.2.1]; show 41 < 73; decide), fun K hK => ?_⟩
        have d7 : z.tmps.getD 7 undef = .pointer (some ⟨xb, 0, none⟩) := hag.2.2 7 (by kernel_rfl)
        have e7 := d7
        rw [Array.getD_eq_getD_getElem?] at e7
        have HSt := Lib.hid hst
        clear hdep hag hst
        go_simp
        exact hK _ _ (Below.refl _ _) rfl HSt.out
      · intro k z v hk hst hag hdep
        have dg : SrOk a1 n1 c1 a2 c2 bw p ab bb xb lq eq ls lp tq s pk 11 (z.tmps.getD 41 undef) v := hdep { on := 11, ground := .guard } (by simp) rfl _ _ rfl rfl
        simp only [SrOk] at dg
        refine .inl ⟨Go.Proofs.Ytbikehngbkfckaa.R.wanted_of (j := 11) rfl rfl rfl dg (by rw [hag.2.1]; show 41 < 73; decide), fun K hK => ?_⟩
        have d44 : z.tmps.getD 44 undef = .pointer (some ⟨xb, 1, none⟩) := hdep { on := 14, ground := .data } (by simp) rfl _ _ rfl rfl
        have e44 := d44
        rw [Array.getD_eq_getD_getElem?] at e44
        have hb : Below wg.heap.size wg v := hst
        obtain ⟨l0, l1⟩ := HXc.out v hb
        clear hb
        have HSt := Lib.hid hst
        clear hdep hag hst
        go_simp
        exact hK _ _ (Below.refl _ _) rfl HSt.out
      · intro k z v hk hst hag hdep
        have dg : SrOk a1 n1 c1 a2 c2 bw p ab bb xb lq eq ls lp tq s pk 11 (z.tmps.getD 41 undef) v := hdep { on := 11, ground := .guard } (by simp) rfl _ _ rfl rfl
        simp only [SrOk] at dg
        refine .inl ⟨Go.Proofs.Ytbikehngbkfckaa.R.wanted_of (j := 11) rfl rfl rfl dg (by rw [hag.2.1]; show 41 < 73; decide), fun K hK => ?_⟩
        have d43 : z.tmps.getD 43 undef = .int .i64 (eq : Int) := hdep { on := 13, ground := .data } (by simp) rfl _ _ rfl rfl
        have e43 := d43
        rw [Array.getD_eq_getD_getElem?] at e43
        have d45 : z.tmps.getD 45 undef = .int .i64 (eq : Int) := hdep { on := 15, ground := .data } (by simp) rfl _ _ rfl rfl
        have e45 := d45
        rw [Array.getD_eq_getD_getElem?] at e45
        have HSt := Lib.hid hst
        clear hdep hag hst
        go_simp
        exact hK _ _ (Below.refl _ _) rfl HSt.out
      · intro k z v hk hst hag hdep
        refine .inl ⟨rfl, fun K hK => ?_⟩
        have d41 : z.tmps.getD 41 undef = .bool true := hdep { on := 11, ground := .data } (by simp) rfl _ _ rfl rfl
        have e41 := d41
        rw [Array.getD_eq_getD_getElem?] at e41
        have d46 : z.tmps.getD 46 undef = .bool true := hdep { on := 16, ground := .data } (by simp) rfl _ _ rfl rfl
        have e46 := d46
        rw [Array.getD_eq_getD_getElem?] at e46
        have HSt := Lib.hid hst
        clear hdep hag hst
        go_simp
        exact hK _ _ (Below.refl _ _) rfl HSt.out
      · intro k z v hk hst hag hdep
        refine .inl ⟨rfl, fun K hK => ?_⟩
        have d47 : z.tmps.getD 47 undef = .bool true := hdep { on := 17, ground := .data } (by simp) rfl _ _ rfl rfl
        have e47 := d47
        rw [Array.getD_eq_getD_getElem?] at e47
        have HSt := Lib.hid hst
        clear hdep hag hst
        go_simp
        exact hK _ _ (Below.refl _ _) rfl HSt.out
      · intro k z v hk hst hag hdep
        have dg : SrOk a1 n1 c1 a2 c2 bw p ab bb xb lq eq ls lp tq s pk 18 (z.tmps.getD 48 undef) v := hdep { on := 18, ground := .guard } (by simp) rfl _ _ rfl rfl
        simp only [SrOk] at dg
        refine .inl ⟨Go.Proofs.Ytbikehngbkfckaa.R.wanted_of (j := 18) rfl rfl rfl dg (by rw [hag.2.1]; show 48 < 73; decide), fun K hK => ?_⟩
        have d6 : z.tmps.getD 6 undef = .pointer (some ⟨ab, 0, none⟩) := hag.2.2 6 (by kernel_rfl)
        have e6 := d6
        rw [Array.getD_eq_getD_getElem?] at e6
        have hb : Below wg.heap.size wg v := hst
        obtain ⟨l0, l1⟩ := HAc.out v hb
        clear hb
        have HSt := Lib.hid hst
        clear hdep hag hst
        go_simp
        exact hK _ _ (Below.refl _ _) rfl HSt.out
      · intro k z v hk hst hag hdep
        have dg : SrOk a1 n1 c1 a2 c2 bw p ab bb xb lq eq ls lp tq s pk 18 (z.tmps.getD 48 undef) v := hdep { on := 18, ground := .guard } (by simp) rfl _ _ rfl rfl
        simp only [SrOk] at dg
        refine .inl ⟨Go.Proofs.Ytbikehngbkfckaa.R.wanted_of (j := 18) rfl rfl rfl dg (by rw [hag.2.1]; show 48 < 73; decide), fun K hK => ?_⟩
        have d49 : z.tmps.getD 49 undef = .agg #[.slice a1 n1 c1, .bool bw] := hdep { on := 19, ground := .data } (by simp) rfl _ _ rfl rfl
        have e49 := d49
        rw [Array.getD_eq_getD_getElem?] at e49
        have hb : Below wg.heap.size wg v := hst
        have HC := Lib.hid (HPk.out v hb)
        have HBv := Lib.hid hb
        clear hdep hag hst hb
        go_simp
        refine HC.out.mono ?_
        rintro e w' ⟨rfl, h9⟩
        exact hK _ _ h9 rfl (HBv.out.trans (h9.mono HBv.out.size))
      · intro k z v hk hst hag hdep
        have dg : SrOk a1 n1 c1 a2 c2 bw p ab bb xb lq eq ls lp tq s pk 18 (z.tmps.getD 48 undef) v := hdep { on := 18, ground := .guard } (by simp) rfl _ _ rfl rfl
        simp only [SrOk] at dg
        refine .inl ⟨Go.Proofs.Ytbikehngbkfckaa.R.wanted_of (j := 18) rfl rfl rfl dg (by rw [hag.2.1]; show 48 < 73; decide), fun K hK => ?_⟩
        have d8 : z.tmps.getD 8 undef = .pointer (some ⟨bb, 0, none⟩) := hag.2.2 8 (by kernel_rfl)
        have e8 := d8
        rw [Array.getD_eq_getD_getElem?] at e8
        have hb : Below wg.heap.size wg v := hst
        obtain ⟨l0, l1⟩ := HBc.out v hb
        clear hb
        have HSt := Lib.hid hst
        clear hdep hag hst
        go_simp
        exact hK _ _ (Below.refl _ _) rfl HSt.out
      · intro k z v hk hst hag hdep
        have dg : SrOk a1 n1 c1 a2 c2 bw p ab bb xb lq eq ls lp tq s pk 18 (z.tmps.getD 48 undef) v := hdep { on := 18, ground := .guard } (by simp) rfl _ _ rfl rfl
        simp only [SrOk] at dg
        refine .inl ⟨Go.Proofs.Ytbikehngbkfckaa.R.wanted_of (j := 18) rfl rfl rfl dg (by rw [hag.2.1]; show 48 < 73; decide), fun K hK => ?_⟩
        have d51 : z.tmps.getD 51 undef = .agg #[.slice a2 n1 c2, .bool bw] := hdep { on := 21, ground := .data } (by simp) rfl _ _ rfl rfl
        have e51 := d51
        rw [Array.getD_eq_getD_getElem?] at e51
        have hb : Below wg.heap.size wg v := hst
        have HC := Lib.hid (HPf.out v hb)
        have HBv := Lib.hid hb
        clear hdep hag hst hb
        go_simp
        refine HC.out.mono ?_
        rintro e w' ⟨rfl, h9⟩
        exact hK _ _ h9 rfl (HBv.out.trans (h9.mono HBv.out.size))
      · intro k z v hk hst hag hdep
        have dg : SrOk a1 n1 c1 a2 c2 bw p ab bb xb lq eq ls lp tq s pk 18 (z.tmps.getD 48 undef) v := hdep { on := 18, ground := .guard } (by simp) rfl _ _ rfl rfl
        simp only [SrOk] at dg
        refine .inl ⟨Go.Proofs.Ytbikehngbkfckaa.R.wanted_of (j := 18) rfl rfl rfl dg (by rw [hag.2.1]; show 48 < 73; decide), fun K hK => ?_⟩
        have d50 : z.tmps.getD 50 undef = .string pk := hdep { on := 20, ground := .data } (by simp) rfl _ _ rfl rfl
        have e50 := d50
        rw [Array.getD_eq_getD_getElem?] at e50
        have d52 : z.tmps.getD 52 undef = .string pk := hdep { on := 22, ground := .data } (by simp) rfl _ _ rfl rfl
        have e52 := d52
        rw [Array.getD_eq_getD_getElem?] at e52
        have HSt := Lib.hid hst
        clear hdep hag hst
        go_simp
        exact hK _ _ (Below.refl _ _) rfl HSt.out
      · intro k z v hk hst hag hdep
        refine .inl ⟨rfl, fun K hK => ?_⟩
        have d48 : z.tmps.getD 48 undef = .bool true := hdep { on := 18, ground := .data } (by simp) rfl _ _ rfl rfl
        have e48 := d48
        rw [Array.getD_eq_getD_getElem?] at e48
        have d53 : z.tmps.getD 53 undef = .bool true := hdep { on := 23, ground := .data } (by simp) rfl _ _ rfl rfl
        have e53 := d53
        rw [Array.getD_eq_getD_getElem?] at e53
        have HSt := Lib.hid hst
        clear hdep hag hst
        go_simp
        exact hK _ _ (Below.refl _ _) rfl HSt.out
      · intro k z v hk hst hag hdep
        refine .inl ⟨rfl, fun K hK => ?_⟩
        have d54 : z.tmps.getD 54 undef = .bool true := hdep { on := 24, ground := .data } (by simp) rfl _ _ rfl rfl
        have e54 := d54
        rw [Array.getD_eq_getD_getElem?] at e54
        have HSt := Lib.hid hst
        clear hdep hag hst
        go_simp
        exact hK _ _ (Below.refl _ _) rfl HSt.out
      · intro k z v hk hst hag hdep
        have dg : SrOk a1 n1 c1 a2 c2 bw p ab bb xb lq eq ls lp tq s pk 25 (z.tmps.getD 55 undef) v := hdep { on := 25, ground := .guard } (by simp) rfl _ _ rfl rfl
        simp only [SrOk] at dg
        refine .inl ⟨Go.Proofs.Ytbikehngbkfckaa.R.wanted_of (j := 25) rfl rfl rfl dg (by rw [hag.2.1]; show 55 < 73; decide), fun K hK => ?_⟩
        have d7 : z.tmps.getD 7 undef = .pointer (some ⟨xb, 0, none⟩) := hag.2.2 7 (by kernel_rfl)
        have e7 := d7
        rw [Array.getD_eq_getD_getElem?] at e7
        have HSt := Lib.hid hst
        clear hdep hag hst
        go_simp
        exact hK _ _ (Below.refl _ _) rfl HSt.out
      · intro k z v hk hst hag hdep
        have dg : SrOk a1 n1 c1 a2 c2 bw p ab bb xb lq eq ls lp tq s pk 25 (z.tmps.getD 55 undef) v := hdep { on := 25, ground := .guard } (by simp) rfl _ _ rfl rfl
        simp only [SrOk] at dg
        refine .inl ⟨Go.Proofs.Ytbikehngbkfckaa.R.wanted_of (j := 25) rfl rfl rfl dg (by rw [hag.2.1]; show 55 < 73; decide), fun K hK => ?_⟩
        have d56 : z.tmps.getD 56 undef = .pointer (some ⟨xb, 1, none⟩) := hdep { on := 26, ground := .data } (by simp) rfl _ _ rfl rfl
        have e56 := d56
        rw [Array.getD_eq_getD_getElem?] at e56
        have hb : Below wg.heap.size wg v := hst
        obtain ⟨l0, l1⟩ := HXc.out v hb
        clear hb
        have HSt := Lib.hid hst
        clear hdep hag hst
        go_simp
        exact hK _ _ (Below.refl _ _) rfl HSt.out
      · intro k z v hk hst hag hdep
        have dg : SrOk a1 n1 c1 a2 c2 bw p ab bb xb lq eq ls lp tq s pk 25 (z.tmps.getD 55 undef) v := hdep { on := 25, ground := .guard } (by simp) rfl _ _ rfl rfl
        simp only [SrOk] at dg
        refine .inl ⟨Go.Proofs.Ytbikehngbkfckaa.R.wanted_of (j := 25) rfl rfl rfl dg (by rw [hag.2.1]; show 55 < 73; decide), fun K hK => ?_⟩
        have d57 : z.tmps.getD 57 undef = .int .i64 (eq : Int) := hdep { on := 27, ground := .data } (by simp) rfl _ _ rfl rfl
        have e57 := d57
        rw [Array.getD_eq_getD_getElem?] at e57
        have HSt := Lib.hid hst
        clear hdep hag hst
        go_simp
        exact hK _ _ (Below.refl _ _) rfl HSt.out
      · intro k z v hk hst hag hdep
        have dg : SrOk a1 n1 c1 a2 c2 bw p ab bb xb lq eq ls lp tq s pk 25 (z.tmps.getD 55 undef) v := hdep { on := 25, ground := .guard } (by simp) rfl _ _ rfl rfl
        simp only [SrOk] at dg
        refine .inl ⟨Go.Proofs.Ytbikehngbkfckaa.R.wanted_of (j := 25) rfl rfl rfl dg (by rw [hag.2.1]; show 55 < 73; decide), fun K hK => ?_⟩
        have d58 : z.tmps.getD 58 undef = .bool false := hdep { on := 28, ground := .data } (by simp) rfl _ _ rfl rfl
        have e58 := d58
        rw [Array.getD_eq_getD_getElem?] at e58
        have HSt := Lib.hid hst
        clear hdep hag hst
        go_simp
        exact hK _ _ (Below.refl _ _) rfl HSt.out
      · intro k z v hk hst hag hdep
        have dg : SrOk a1 n1 c1 a2 c2 bw p ab bb xb lq eq ls lp tq s pk 29 (z.tmps.getD 59 undef) v := hdep { on := 29, ground := .guard } (by simp) rfl _ _ rfl rfl
        simp only [SrOk] at dg
        refine .inl ⟨Go.Proofs.Ytbikehngbkfckaa.R.wanted_of (j := 29) rfl rfl rfl dg (by rw [hag.2.1]; show 59 < 73; decide), fun K hK => ?_⟩
        have d6 : z.tmps.getD 6 undef = .pointer (some ⟨ab, 0, none⟩) := hag.2.2 6 (by kernel_rfl)
        have e6 := d6
        rw [Array.getD_eq_getD_getElem?] at e6
        have hb : Below wg.heap.size wg v := hst
        obtain ⟨l0, l1⟩ := HAc.out v hb
        clear hb
        have HSt := Lib.hid hst
        clear hdep hag hst
        go_simp
        exact hK _ _ (Below.refl _ _) rfl HSt.out
      · intro k z v hk hst hag hdep
        have dg : SrOk a1 n1 c1 a2 c2 bw p ab bb xb lq eq ls lp tq s pk 29 (z.tmps.getD 59 undef) v := hdep { on := 29, ground := .guard } (by simp) rfl _ _ rfl rfl
        simp only [SrOk] at dg
        refine .inl ⟨Go.Proofs.Ytbikehngbkfckaa.R.wanted_of (j := 29) rfl rfl rfl dg (by rw [hag.2.1]; show 59 < 73; decide), fun K hK => ?_⟩
        have d60 : z.tmps.getD 60 undef = .agg #[.slice a1 n1 c1, .bool bw] := hdep { on := 30, ground := .data } (by simp) rfl _ _ rfl rfl
        have e60 := d60
        rw [Array.getD_eq_getD_getElem?] at e60
        have hb : Below wg.heap.size wg v := hst
        have HC := Lib.hid (HPk.out v hb)
        have HBv := Lib.hid hb
        clear hdep hag hst hb
        go_simp
        refine HC.out.mono ?_
        rintro e w' ⟨rfl, h9⟩
        exact hK _ _ h9 rfl (HBv.out.trans (h9.mono HBv.out.size))
      · intro k z v hk hst hag hdep
        have dg : SrOk a1 n1 c1 a2 c2 bw p ab bb xb lq eq ls lp tq s pk 29 (z.tmps.getD 59 undef) v := hdep { on := 29, ground := .guard } (by simp) rfl _ _ rfl rfl
        simp only [SrOk] at dg
        refine .inl ⟨Go.Proofs.Ytbikehngbkfckaa.R.wanted_of (j := 29) rfl rfl rfl dg (by rw [hag.2.1]; show 59 < 73; decide), fun K hK => ?_⟩
        have d0 : z.tmps.getD 0 undef = .string s := hag.2.2 0 (by kernel_rfl)
        have e0 := d0
        rw [Array.getD_eq_getD_getElem?] at e0
        have HSt := Lib.hid hst
        clear hdep hag hst
        go_simp
        exact hK _ _ (Below.refl _ _) rfl HSt.out
      · intro k z v hk hst hag hdep
        have dg : SrOk a1 n1 c1 a2 c2 bw p ab bb xb lq eq ls lp tq s pk 29 (z.tmps.getD 59 undef) v := hdep { on := 29, ground := .guard } (by simp) rfl _ _ rfl rfl
        simp only [SrOk] at dg
        refine .inl ⟨Go.Proofs.Ytbikehngbkfckaa.R.wanted_of (j := 29) rfl rfl rfl dg (by rw [hag.2.1]; show 59 < 73; decide), fun K hK => ?_⟩
        have d0 : z.tmps.getD 0 undef = .string s := hag.2.2 0 (by kernel_rfl)
        have e0 := d0
        rw [Array.getD_eq_getD_getElem?] at e0
        have HSt := Lib.hid hst
        clear hdep hag hst
        go_simp
        exact hK _ _ (Below.refl _ _) rfl HSt.out
      · intro k z v hk hst hag hdep
        have dg : SrOk a1 n1 c1 a2 c2 bw p ab bb xb lq eq ls lp tq s pk 29 (z.tmps.getD 59 undef) v := hdep { on := 29, ground := .guard } (by simp) rfl _ _ rfl rfl
        simp only [SrOk] at dg
        refine .inl ⟨Go.Proofs.Ytbikehngbkfckaa.R.wanted_of (j := 29) rfl rfl rfl dg (by rw [hag.2.1]; show 59 < 73; decide), fun K hK => ?_⟩
        have d63 : z.tmps.getD 63 undef = .string s := hdep { on := 33, ground := .data } (by simp) rfl _ _ rfl rfl
        have e63 := d63
        rw [Array.getD_eq_getD_getElem?] at e63
        have HSt := Lib.hid hst
        clear hdep hag hst
        go_simp
        rw [HSs.out]
        exact hK _ _ (Below.refl _ _) rfl HSt.out
      · intro k z v hk hst hag hdep
        have dg : SrOk a1 n1 c1 a2 c2 bw p ab bb xb lq eq ls lp tq s pk 29 (z.tmps.getD 59 undef) v := hdep { on := 29, ground := .guard } (by simp) rfl _ _ rfl rfl
        simp only [SrOk] at dg
        refine .inl ⟨Go.Proofs.Ytbikehngbkfckaa.R.wanted_of (j := 29) rfl rfl rfl dg (by rw [hag.2.1]; show 59 < 73; decide), fun K hK => ?_⟩
        have d7 : z.tmps.getD 7 undef = .pointer (some ⟨xb, 0, none⟩) := hag.2.2 7 (by kernel_rfl)
        have e7 := d7
        rw [Array.getD_eq_getD_getElem?] at e7
        have HSt := Lib.hid hst
        clear hdep hag hst
        go_simp
        exact hK _ _ (Below.refl _ _) rfl HSt.out
      · intro k z v hk hst hag hdep
        have dg : SrOk a1 n1 c1 a2 c2 bw p ab bb xb lq eq ls lp tq s pk 29 (z.tmps.getD 59 undef) v := hdep { on := 29, ground := .guard } (by simp) rfl _ _ rfl rfl
        simp only [SrOk] at dg
        refine .inl ⟨Go.Proofs.Ytbikehngbkfckaa.R.wanted_of (j := 29) rfl rfl rfl dg (by rw [hag.2.1]; show 59 < 73; decide), fun K hK => ?_⟩
        have d65 : z.tmps.getD 65 undef = .pointer (some ⟨xb, 0, none⟩) := hdep { on := 35, ground := .data } (by simp) rfl _ _ rfl rfl
        have e65 := d65
        rw [Array.getD_eq_getD_getElem?] at e65
        have hb : Below wg.heap.size wg v := hst
        obtain ⟨l0, l1⟩ := HXc.out v hb
        clear hb
        have HSt := Lib.hid hst
        clear hdep hag hst
        go_simp
        exact hK _ _ (Below.refl _ _) rfl HSt.out
      · intro k z v hk hst hag hdep
        have dg : SrOk a1 n1 c1 a2 c2 bw p ab bb xb lq eq ls lp tq s pk 29 (z.tmps.getD 59 undef) v := hdep { on := 29, ground := .guard } (by simp) rfl _ _ rfl rfl
        simp only [SrOk] at dg
        refine .inl ⟨Go.Proofs.Ytbikehngbkfckaa.R.wanted_of (j := 29) rfl rfl rfl dg (by rw [hag.2.1]; show 59 < 73; decide), fun K hK => ?_⟩
        have d66 : z.tmps.getD 66 undef = .string tq := hdep { on := 36, ground := .data } (by simp) rfl _ _ rfl rfl
        have e66 := d66
        rw [Array.getD_eq_getD_getElem?] at e66
        have HSt := Lib.hid hst
        clear hdep hag hst
        go_simp
        rw [HTz.out]
        exact hK _ _ (Below.refl _ _) rfl HSt.out
      · intro k z v hk hst hag hdep
        have dg : SrOk a1 n1 c1 a2 c2 bw p ab bb xb lq eq ls lp tq s pk 29 (z.tmps.getD 59 undef) v := hdep { on := 29, ground := .guard } (by simp) rfl _ _ rfl rfl
        simp only [SrOk] at dg
        refine .inl ⟨Go.Proofs.Ytbikehngbkfckaa.R.wanted_of (j := 29) rfl rfl rfl dg (by rw [hag.2.1]; show 59 < 73; decide), fun K hK => ?_⟩
        have d64 : z.tmps.getD 64 undef = .int .i64 (ls : Int) := hdep { on := 34, ground := .data } (by simp) rfl _ _ rfl rfl
        have e64 := d64
        rw [Array.getD_eq_getD_getElem?] at e64
        have d67 : z.tmps.getD 67 undef = .int .i64 (lq : Int) := hdep { on := 37, ground := .data } (by simp) rfl _ _ rfl rfl
        have e67 := d67
        rw [Array.getD_eq_getD_getElem?] at e67
        have hls := HLs.out
        have hls2 := HLsb.out
        have hlpI : (lp : Int) ≤ 120 := by omega
        have e38 : IntKind.i64.wrap ((ls : Int) - (lq : Int)) = (lp : Int) := by rw [IntKind.wrap_i64]; omega
        have HSt := Lib.hid hst
        clear hdep hag hst
        go_simp
        first | exact hK _ _ (Below.refl _ _) rfl HSt.out | (rw [e38]; exact hK _ _ (Below.refl _ _) rfl HSt.out)
      · intro k z v hk hst hag hdep
        have dg : SrOk a1 n1 c1 a2 c2 bw p ab bb xb lq eq ls lp tq s pk 29 (z.tmps.getD 59 undef) v := hdep { on := 29, ground := .guard } (by simp) rfl _ _ rfl rfl
        simp only [SrOk] at dg
        refine .inl ⟨Go.Proofs.Ytbikehngbkfckaa.R.wanted_of (j := 29) rfl rfl rfl dg (by rw [hag.2.1]; show 59 < 73; decide), fun K hK => ?_⟩
        have d62 : z.tmps.getD 62 undef = .string s := hdep { on := 32, ground := .data } (by simp) rfl _ _ rfl rfl
        have e62 := d62
        rw [Array.getD_eq_getD_getElem?] at e62
        have d68 : z.tmps.getD 68 undef = .int .i64 (lp : Int) := hdep { on := 38, ground := .data } (by simp) rfl _ _ rfl rfl
        have e68 := d68
        rw [Array.getD_eq_getD_getElem?] at e68
        have hls := HLs.out
        have hls2 := HLsb.out
        have hss := HSs.out
        have hlpl : lp ≤ ls := by omega
        have HSt := Lib.hid hst
        clear hdep hag hst
        go_simp
        first | rw [HCut.out] | rw [if_pos hlpl, HCut.out]
        exact hK _ _ (Below.refl _ _) rfl HSt.out
      · intro k z v hk hst hag hdep
        have dg : SrOk a1 n1 c1 a2 c2 bw p ab bb xb lq eq ls lp tq s pk 29 (z.tmps.getD 59 undef) v := hdep { on := 29, ground := .guard } (by simp) rfl _ _ rfl rfl
        simp only [SrOk] at dg
        refine .inl ⟨Go.Proofs.Ytbikehngbkfckaa.R.wanted_of (j := 29) rfl rfl rfl dg (by rw [hag.2.1]; show 59 < 73; decide), fun K hK => ?_⟩
        have d61 : z.tmps.getD 61 undef = .string pk := hdep { on := 31, ground := .data } (by simp) rfl _ _ rfl rfl
        have e61 := d61
        rw [Array.getD_eq_getD_getElem?] at e61
        have d69 : z.tmps.getD 69 undef = .string pk := hdep { on := 39, ground := .data } (by simp) rfl _ _ rfl rfl
        have e69 := d69
        rw [Array.getD_eq_getD_getElem?] at e69
        have HSt := Lib.hid hst
        clear hdep hag hst
        go_simp
        exact hK _ _ (Below.refl _ _) rfl HSt.out
      · intro k z v hk hst hag hdep
        have dg : SrOk a1 n1 c1 a2 c2 bw p ab bb xb lq eq ls lp tq s pk 25 (z.tmps.getD 55 undef) v := hdep { on := 25, ground := .guard } (by simp) rfl _ _ rfl rfl
        simp only [SrOk] at dg
        refine .inl ⟨Go.Proofs.Ytbikehngbkfckaa.R.wanted_of (j := 25) rfl rfl rfl dg (by rw [hag.2.1]; show 55 < 73; decide), fun K hK => ?_⟩
        have d59 : z.tmps.getD 59 undef = .bool false := hdep { on := 29, ground := .data } (by simp) rfl _ _ rfl rfl
        have e59 := d59
        rw [Array.getD_eq_getD_getElem?] at e59
        have d70 : z.tmps.getD 70 undef = .bool true := hdep { on := 40, ground := .data } (by simp) rfl _ _ rfl rfl
        have e70 := d70
        rw [Array.getD_eq_getD_getElem?] at e70
        have HSt := Lib.hid hst
        clear hdep hag hst
        go_simp
        exact hK _ _ (Below.refl _ _) rfl HSt.out
      · intro k z v hk hst hag hdep
        refine .inl ⟨rfl, fun K hK => ?_⟩
        have d55 : z.tmps.getD 55 undef = .bool true := hdep { on := 25, ground := .data } (by simp) rfl _ _ rfl rfl
        have e55 := d55
        rw [Array.getD_eq_getD_getElem?] at e55
        have d71 : z.tmps.getD 71 undef = .bool true := hdep { on := 41, ground := .data } (by simp) rfl _ _ rfl rfl
        have e71 := d71
        rw [Array.getD_eq_getD_getElem?] at e71
        have HSt := Lib.hid hst
        clear hdep hag hst
        go_simp
        exact hK _ _ (Below.refl _ _) rfl HSt.out
      · intro k z v hk hst hag hdep
        refine .inl ⟨rfl, fun K hK => ?_⟩
        have d72 : z.tmps.getD 72 undef = .bool true := hdep { on := 42, ground := .data } (by simp) rfl _ _ rfl rfl
        have e72 := d72
        rw [Array.getD_eq_getD_getElem?] at e72
        have HSt := Lib.hid hst
        clear hdep hag hst
        go_simp
        exact hK _ _ (Below.refl _ _) rfl HSt.out
    case hdone =>
      intro z v hst hag hok
      have d4 : z.tmps.getD 4 undef = .bool true := hok 43 _ 4 rfl rfl
      have HEv := Lib.hid (HEnd2.out v hst)
      clear hst
      obtain ⟨uu, hu, hzz⟩ := Go.Proofs.Ytbikehngbkfckaa.R.agree_frame [30, 31, 32, 33, 34, 35, 36, 37, 38, 39, 40, 41, 42, 43, 44, 45, 46, 47, 48, 49, 50, 51, 52, 53, 54, 55, 56, 57, 58, 59, 60, 61, 62, 63, 64, 65, 66, 67, 68, 69, 70, 71, 72, 4] rfl hag
      have e4 := (hu 4).trans d4
      subst hzz
      simp only [List.foldl_cons, List.foldl_nil]
      rw [e4]
      clear e4 d4 hu hag hok
      try dsimp only [Exit.then]
      simp only [List.setIfInBounds_toArray, List.set_cons_succ, List.set_cons_zero]
      generalize uu 30 = u30', uu 31 = u31', uu 32 = u32', uu 33 = u33', uu 34 = u34', uu 35 = u35', uu 36 = u36', uu 37 = u37', uu 38 = u38', uu 39 = u39', uu 40 = u40', uu 41 = u41', uu 42 = u42', uu 43 = u43', uu 44 = u44', uu 45 = u45', uu 46 = u46', uu 47 = u47', uu 48 = u48', uu 49 = u49', uu 50 = u50', uu 51 = u51', uu 52 = u52', uu 53 = u53', uu 54 = u54', uu 55 = u55', uu 56 = u56', uu 57 = u57', uu 58 = u58', uu 59 = u59', uu 60 = u60', uu 61 = u61', uu 62 = u62', uu 63 = u63', uu 64 = u64', uu 65 = u65', uu 66 = u66', uu 67 = u67', uu 68 = u68', uu 69 = u69', uu 70 = u70', uu 71 = u71', uu 72 = u72'
      clear uu
      go_wp2_with fail
      exact HEv.out
  · have qe : ((eq : Int) != 0) = true := by rw [bne_iff_ne]; omega
    obtain ⟨lp, hlp⟩ : ∃ n, pk.size = n := ⟨_, rfl⟩
    clear he
    refine Go.Proofs.Ytbikehngbkfckaa.R.wp_region_due [] [0, 0, 0, 0, 0, 0, 0, 0, 0, 0, 0, 0, 0, 0, 0, 0, 0, 0, 0, 0, 0, 0, 0, 0, 0, 0, 0, 0, 0, 0, 0, 0, 0, 0, 0, 0, 0, 0, 0, 0, 0, 0, 0, 0] (by kernel_rfl) (fun _ _ u => Below wg.heap.size wg u) (fun u u2 => Below u.heap.size u u2) (SrEr a1 n1 c1 a2 c2 bw p ab bb xb lq eq ls lp tq s pk) (by rfl) (by kernel_rfl) (by kernel_rfl) (by kernel_rfl) (by kernel_rfl) ?hcong ?hOk ?hop ?hdone ?h0
    case hcong => exact fun k f f2 u hs hst => hst
    case hOk => intro i u w1 w2 h hr; unfold SrEr at h ⊢; split <;> first | exact True.intro | exact h
    case h0 => exact (Below.refl _ _).drew
    case hop =>
      refine ⟨?_, ?_, ?_, ?_, ?_, ?_, ?_, ?_, ?_, ?_, ?_, ?_, ?_, ?_, ?_, ?_, ?_, ?_, ?_, ?_, ?_, ?_, ?_, ?_, ?_, ?_, ?_, ?_, ?_, ?_, ?_, ?_, ?_, ?_, ?_, ?_, ?_, ?_, ?_, ?_, ?_, ?_, ?_, ?_, trivial⟩
      · intro k z v hk hst hag hdep
        refine .inl ⟨rfl, fun K hK => ?_⟩
        have d6 : z.tmps.getD 6 undef = .pointer (some ⟨ab, 0, none⟩) := hag.2.2 6 (by kernel_rfl)
        have e6 := d6
        rw [Array.getD_eq_getD_getElem?] at e6
        have hb : Below wg.heap.size wg v := hst
        obtain ⟨l0, l1⟩ := HAc.out v hb
        clear hb
        have HSt := Lib.hid hst
        clear hdep hag hst
        go_simp
        exact hK _ _ (Below.refl _ _) rfl HSt.out
      · intro k z v hk hst hag hdep
        refine .inl ⟨rfl, fun K hK => ?_⟩
        have d8 : z.tmps.getD 8 undef = .pointer (some ⟨bb, 0, none⟩) := hag.2.2 8 (by kernel_rfl)
        have e8 := d8
        rw [Array.getD_eq_getD_getElem?] at e8
        have hb : Below wg.heap.size wg v := hst
        obtain ⟨l0, l1⟩ := HBc.out v hb
        clear hb
        have HSt := Lib.hid hst
        clear hdep hag hst
        go_simp
        exact hK _ _ (Below.refl _ _) rfl HSt.out
      · intro k z v hk hst hag hdep
        refine .inl ⟨rfl, fun K hK => ?_⟩
        have d30 : z.tmps.getD 30 undef = .agg #[.slice a1 n1 c1, .bool bw] := hdep { on := 0, ground := .data } (by simp) rfl _ _ rfl rfl
        have e30 := d30
        rw [Array.getD_eq_getD_getElem?] at e30
        have d31 : z.tmps.getD 31 undef = .agg #[.slice a2 n1 c2, .bool bw] := hdep { on := 1, ground := .data } (by simp) rfl _ _ rfl rfl
        have e31 := d31
        rw [Array.getD_eq_getD_getElem?] at e31
        have hb : Below wg.heap.size wg v := hst
        have HC := Lib.hid (HIs.out v hb)
        have HBv := Lib.hid hb
        clear hdep hag hst hb
        go_simp
        refine HC.out.mono ?_
        rintro e w' ⟨rfl, h9⟩
        exact hK _ _ h9 rfl (HBv.out.trans (h9.mono HBv.out.size))
      · intro k z v hk hst hag hdep
        refine .inl ⟨rfl, fun K hK => ?_⟩
        have d32 : z.tmps.getD 32 undef = .bool true := hdep { on := 2, ground := .data } (by simp) rfl _ _ rfl rfl
        have e32 := d32
        rw [Array.getD_eq_getD_getElem?] at e32
        have HSt := Lib.hid hst
        clear hdep hag hst
        go_simp
        exact hK _ _ (Below.refl _ _) rfl HSt.out
      · intro k z v hk hst hag hdep
        have dg : SrEr a1 n1 c1 a2 c2 bw p ab bb xb lq eq ls lp tq s pk 3 (z.tmps.getD 33 undef) v := hdep { on := 3, ground := .guard } (by simp) rfl _ _ rfl rfl
        simp only [SrEr] at dg
        refine .inl ⟨Go.Proofs.Ytbikehngbkfckaa.R.wanted_of (j := 3) rfl rfl rfl dg (by rw [hag.2.1]; show 33 < 73; decide), fun K hK => ?_⟩
        have d5 : z.tmps.getD 5 undef = .pointer (some ⟨p, 0, none⟩) := hag.2.2 5 (by kernel_rfl)
        have e5 := d5
        rw [Array.getD_eq_getD_getElem?] at e5
        have HSt := Lib.hid hst
        clear hdep hag hst
        go_simp
        exact hK _ _ (Below.refl _ _) rfl HSt.out
      · intro k z v hk hst hag hdep
        have dg : SrEr a1 n1 c1 a2 c2 bw p ab bb xb lq eq ls lp tq s pk 3 (z.tmps.getD 33 undef) v := hdep { on := 3, ground := .guard } (by simp) rfl _ _ rfl rfl
        simp only [SrEr] at dg
        refine .inl ⟨Go.Proofs.Ytbikehngbkfckaa.R.wanted_of (j := 3) rfl rfl rfl dg (by rw [hag.2.1]; show 33 < 73; decide), fun K hK => ?_⟩
        have d34 : z.tmps.getD 34 undef = .pointer (some ⟨p, 0, none⟩) := hdep { on := 4, ground := .data } (by simp) rfl _ _ rfl rfl
        have e34 := d34
        rw [Array.getD_eq_getD_getElem?] at e34
        have hb : Below wg.heap.size wg v := hst
        have HC := Lib.hid (HLe.out v hb)
        have HBv := Lib.hid hb
        clear hdep hag hst hb
        go_simp
        refine HC.out.mono ?_
        rintro e w' ⟨rfl, rfl⟩
        exact hK _ _ (Below.refl _ _) rfl HBv.out
      · intro k z v hk hst hag hdep
        have dg : SrEr a1 n1 c1 a2 c2 bw p ab bb xb lq eq ls lp tq s pk 3 (z.tmps.getD 33 undef) v := hdep { on := 3, ground := .guard } (by simp) rfl _ _ rfl rfl
        simp only [SrEr] at dg
        refine .inl ⟨Go.Proofs.Ytbikehngbkfckaa.R.wanted_of (j := 3) rfl rfl rfl dg (by rw [hag.2.1]; show 33 < 73; decide), fun K hK => ?_⟩
        have d7 : z.tmps.getD 7 undef = .pointer (some ⟨xb, 0, none⟩) := hag.2.2 7 (by kernel_rfl)
        have e7 := d7
        rw [Array.getD_eq_getD_getElem?] at e7
        have HSt := Lib.hid hst
        clear hdep hag hst
        go_simp
        exact hK _ _ (Below.refl _ _) rfl HSt.out
      · intro k z v hk hst hag hdep
        have dg : SrEr a1 n1 c1 a2 c2 bw p ab bb xb lq eq ls lp tq s pk 3 (z.tmps.getD 33 undef) v := hdep { on := 3, ground := .guard } (by simp) rfl _ _ rfl rfl
        simp only [SrEr] at dg
        refine .inl ⟨Go.Proofs.Ytbikehngbkfckaa.R.wanted_of (j := 3) rfl rfl rfl dg (by rw [hag.2.1]; show 33 < 73; decide), fun K hK => ?_⟩
        have d36 : z.tmps.getD 36 undef = .pointer (some ⟨xb, 0, none⟩) := hdep { on := 6, ground := .data } (by simp) rfl _ _ rfl rfl
        have e36 := d36
        rw [Array.getD_eq_getD_getElem?] at e36
        have hb : Below wg.heap.size wg v := hst
        obtain ⟨l0, l1⟩ := HXc.out v hb
        clear hb
        have HSt := Lib.hid hst
        clear hdep hag hst
        go_simp
        exact hK _ _ (Below.refl _ _) rfl HSt.out
      · intro k z v hk hst hag hdep
        have dg : SrEr a1 n1 c1 a2 c2 bw p ab bb xb lq eq ls lp tq s pk 3 (z.tmps.getD 33 undef) v := hdep { on := 3, ground := .guard } (by simp) rfl _ _ rfl rfl
        simp only [SrEr] at dg
        refine .inl ⟨Go.Proofs.Ytbikehngbkfckaa.R.wanted_of (j := 3) rfl rfl rfl dg (by rw [hag.2.1]; show 33 < 73; decide), fun K hK => ?_⟩
        have d37 : z.tmps.getD 37 undef = .string tq := hdep { on := 7, ground := .data } (by simp) rfl _ _ rfl rfl
        have e37 := d37
        rw [Array.getD_eq_getD_getElem?] at e37
        have HSt := Lib.hid hst
        clear hdep hag hst
        go_simp
        rw [HTz.out]
        exact hK _ _ (Below.refl _ _) rfl HSt.out
      · intro k z v hk hst hag hdep
        have dg : SrEr a1 n1 c1 a2 c2 bw p ab bb xb lq eq ls lp tq s pk 3 (z.tmps.getD 33 undef) v := hdep { on := 3, ground := .guard } (by simp) rfl _ _ rfl rfl
        simp only [SrEr] at dg
        refine .inl ⟨Go.Proofs.Ytbikehngbkfckaa.R.wanted_of (j := 3) rfl rfl rfl dg (by rw [hag.2.1]; show 33 < 73; decide), fun K hK => ?_⟩
        have d35 : z.tmps.getD 35 undef = .int .i64 (lq : Int) := hdep { on := 5, ground := .data } (by simp) rfl _ _ rfl rfl
        have e35 := d35
        rw [Array.getD_eq_getD_getElem?] at e35
        have d38 : z.tmps.getD 38 undef = .int .i64 (lq : Int) := hdep { on := 8, ground := .data } (by simp) rfl _ _ rfl rfl
        have e38 := d38
        rw [Array.getD_eq_getD_getElem?] at e38
        have HSt := Lib.hid hst
        clear hdep hag hst
        go_simp
        exact hK _ _ (Below.refl _ _) rfl HSt.out
      · intro k z v hk hst hag hdep
        refine .inl ⟨rfl, fun K hK => ?_⟩
        have d33 : z.tmps.getD 33 undef = .bool true := hdep { on := 3, ground := .data } (by simp) rfl _ _ rfl rfl
        have e33 := d33
        rw [Array.getD_eq_getD_getElem?] at e33
        have d39 : z.tmps.getD 39 undef = .bool true := hdep { on := 9, ground := .data } (by simp) rfl _ _ rfl rfl
        have e39 := d39
        rw [Array.getD_eq_getD_getElem?] at e39
        have HSt := Lib.hid hst
        clear hdep hag hst
        go_simp
        exact hK _ _ (Below.refl _ _) rfl HSt.out
      · intro k z v hk hst hag hdep
        refine .inl ⟨rfl, fun K hK => ?_⟩
        have d40 : z.tmps.getD 40 undef = .bool true := hdep { on := 10, ground := .data } (by simp) rfl _ _ rfl rfl
        have e40 := d40
        rw [Array.getD_eq_getD_getElem?] at e40
        have HSt := Lib.hid hst
        clear hdep hag hst
        go_simp
        exact hK _ _ (Below.refl _ _) rfl HSt.out
      · intro k z v hk hst hag hdep
        have dg : SrEr a1 n1 c1 a2 c2 bw p ab bb xb lq eq ls lp tq s pk 11 (z.tmps.getD 41 undef) v := hdep { on := 11, ground := .guard } (by simp) rfl _ _ rfl rfl
        simp only [SrEr] at dg
        refine .inl ⟨Go.Proofs.Ytbikehngbkfckaa.R.wanted_of (j := 11) rfl rfl rfl dg (by rw [hag.2.1]; show 41 < 73; decide), fun K hK => ?_⟩
        have d5 : z.tmps.getD 5 undef = .pointer (some ⟨p, 0, none⟩) := hag.2.2 5 (by kernel_rfl)
        have e5 := d5
        rw [Array.getD_eq_getD_getElem?] at e5
        have HSt := Lib.hid hst
        clear hdep hag hst
        go_simp
        exact hK _ _ (Below.refl _ _) rfl HSt.out
      · intro k z v hk hst hag hdep
        have dg : SrEr a1 n1 c1 a2 c2 bw p ab bb xb lq eq ls lp tq s pk 11 (z.tmps.getD 41 undef) v := hdep { on := 11, ground := .guard } (by simp) rfl _ _ rfl rfl
        simp only [SrEr] at dg
        refine .inl ⟨Go.Proofs.Ytbikehngbkfckaa.R.wanted_of (j := 11) rfl rfl rfl dg (by rw [hag.2.1]; show 41 < 73; decide), fun K hK => ?_⟩
        have d42 : z.tmps.getD 42 undef = .pointer (some ⟨p, 0, none⟩) := hdep { on := 12, ground := .data } (by simp) rfl _ _ rfl rfl
        have e42 := d42
        rw [Array.getD_eq_getD_getElem?] at e42
        have hb : Below wg.heap.size wg v := hst
        have HC := Lib.hid (HEr.out v hb)
        have HBv := Lib.hid hb
        clear hdep hag hst hb
        go_simp
        refine HC.out.mono ?_
        rintro e w' ⟨rfl, rfl⟩
        exact hK _ _ (Below.refl _ _) rfl HBv.out
      · intro k z v hk hst hag hdep
        have dg : SrEr a1 n1 c1 a2 c2 bw p ab bb xb lq eq ls lp tq s pk 11 (z.tmps.getD 41 undef) v := hdep { on := 11, ground := .guard } (by simp) rfl _ _ rfl rfl
        simp only [SrEr] at dg
        refine .inl ⟨Go.Proofs.Ytbikehngbkfckaa.R.wanted_of (j := 11) rfl rfl rfl dg (by rw [hag.2.1]; show 41 < 73; decide), fun K hK => ?_⟩
        have d7 : z.tmps.getD 7 undef = .pointer (some ⟨xb, 0, none⟩) := hag.2.2 7 (by kernel_rfl)
        have e7 := d7
        rw [Array.getD_eq_getD_getElem?] at e7
        have HSt := Lib.hid hst
        clear hdep hag hst
        go_simp
        exact hK _ _ (Below.refl _ _) rfl HSt.out
      · intro k z v hk hst hag hdep
        have dg : SrEr a1 n1 c1 a2 c2 bw p ab bb xb lq eq ls lp tq s pk 11 (z.tmps.getD 41 undef) v := hdep { on := 11, ground := .guard } (by simp) rfl _ _ rfl rfl
        simp only [SrEr] at dg
        refine .inl ⟨Go.Proofs.Ytbikehngbkfckaa.R.wanted_of (j := 11) rfl rfl rfl dg (by rw [hag.2.1]; show 41 < 73; decide), fun K hK => ?_⟩
        have d44 : z.tmps.getD 44 undef = .pointer (some ⟨xb, 1, none⟩) := hdep { on := 14, ground := .data } (by simp) rfl _ _ rfl rfl
        have e44 := d44
        rw [Array.getD_eq_getD_getElem?] at e44
        have hb : Below wg.heap.size wg v := hst
        obtain ⟨l0, l1⟩ := HXc.out v hb
        clear hb
        have HSt := Lib.hid hst
        clear hdep hag hst
        go_simp
        exact hK _ _ (Below.refl _ _) rfl HSt.out
      · intro k z v hk hst hag hdep
        have dg : SrEr a1 n1 c1 a2 c2 bw p ab bb xb lq eq ls lp tq s pk 11 (z.tmps.getD 41 undef) v := hdep { on := 11, ground := .guard } (by simp) rfl _ _ rfl rfl
        simp only [SrEr] at dg
        refine .inl ⟨Go.Proofs.Ytbikehngbkfckaa.R.wanted_of (j := 11) rfl rfl rfl dg (by rw [hag.2.1]; show 41 < 73; decide), fun K hK => ?_⟩
        have d43 : z.tmps.getD 43 undef = .int .i64 (eq : Int) := hdep { on := 13, ground := .data } (by simp) rfl _ _ rfl rfl
        have e43 := d43
        rw [Array.getD_eq_getD_getElem?] at e43
        have d45 : z.tmps.getD 45 undef = .int .i64 (eq : Int) := hdep { on := 15, ground := .data } (by simp) rfl _ _ rfl rfl
        have e45 := d45
        rw [Array.getD_eq_getD_getElem?] at e45
        have HSt := Lib.hid hst
        clear hdep hag hst
        go_simp
        exact hK _ _ (Below.refl _ _) rfl HSt.out
      · intro k z v hk hst hag hdep
        refine .inl ⟨rfl, fun K hK => ?_⟩
        have d41 : z.tmps.getD 41 undef = .bool true := hdep { on := 11, ground := .data } (by simp) rfl _ _ rfl rfl
        have e41 := d41
        rw [Array.getD_eq_getD_getElem?] at e41
        have d46 : z.tmps.getD 46 undef = .bool true := hdep { on := 16, ground := .data } (by simp) rfl _ _ rfl rfl
        have e46 := d46
        rw [Array.getD_eq_getD_getElem?] at e46
        have HSt := Lib.hid hst
        clear hdep hag hst
        go_simp
        exact hK _ _ (Below.refl _ _) rfl HSt.out
      · intro k z v hk hst hag hdep
        refine .inl ⟨rfl, fun K hK => ?_⟩
        have d47 : z.tmps.getD 47 undef = .bool true := hdep { on := 17, ground := .data } (by simp) rfl _ _ rfl rfl
        have e47 := d47
        rw [Array.getD_eq_getD_getElem?] at e47
        have HSt := Lib.hid hst
        clear hdep hag hst
        go_simp
        exact hK _ _ (Below.refl _ _) rfl HSt.out
      · intro k z v hk hst hag hdep
        have dg : SrEr a1 n1 c1 a2 c2 bw p ab bb xb lq eq ls lp tq s pk 18 (z.tmps.getD 48 undef) v := hdep { on := 18, ground := .guard } (by simp) rfl _ _ rfl rfl
        simp only [SrEr] at dg
        refine .inl ⟨Go.Proofs.Ytbikehngbkfckaa.R.wanted_of (j := 18) rfl rfl rfl dg (by rw [hag.2.1]; show 48 < 73; decide), fun K hK => ?_⟩
        have d6 : z.tmps.getD 6 undef = .pointer (some ⟨ab, 0, none⟩) := hag.2.2 6 (by kernel_rfl)
        have e6 := d6
        rw [Array.getD_eq_getD_getElem?] at e6
        have hb : Below wg.heap.size wg v := hst
        obtain ⟨l0, l1⟩ := HAc.out v hb
        clear hb
        have HSt := Lib.hid hst
        clear hdep hag hst
        go_simp
        exact hK _ _ (Below.refl _ _) rfl HSt.out
      · intro k z v hk hst hag hdep
        have dg : SrEr a1 n1 c1 a2 c2 bw p ab bb xb lq eq ls lp tq s pk 18 (z.tmps.getD 48 undef) v := hdep { on := 18, ground := .guard } (by simp) rfl _ _ rfl rfl
        simp only [SrEr] at dg
        refine .inl ⟨Go.Proofs.Ytbikehngbkfckaa.R.wanted_of (j := 18) rfl rfl rfl dg (by rw [hag.2.1]; show 48 < 73; decide), fun K hK => ?_⟩
        have d49 : z.tmps.getD 49 undef = .agg #[.slice a1 n1 c1, .bool bw] := hdep { on := 19, ground := .data } (by simp) rfl _ _ rfl rfl
        have e49 := d49
        rw [Array.getD_eq_getD_getElem?] at e49
        have hb : Below wg.heap.size wg v := hst
        have HC := Lib.hid (HPk.out v hb)
        have HBv := Lib.hid hb
        clear hdep hag hst hb
        go_simp
        refine HC.out.mono ?_
        rintro e w' ⟨rfl, h9⟩
        exact hK _ _ h9 rfl (HBv.out.trans (h9.mono HBv.out.size))
      · intro k z v hk hst hag hdep
        have dg : SrEr a1 n1 c1 a2 c2 bw p ab bb xb lq eq ls lp tq s pk 18 (z.tmps.getD 48 undef) v := hdep { on := 18, ground := .guard } (by simp) rfl _ _ rfl rfl
        simp only [SrEr] at dg
        refine .inl ⟨Go.Proofs.Ytbikehngbkfckaa.R.wanted_of (j := 18) rfl rfl rfl dg (by rw [hag.2.1]; show 48 < 73; decide), fun K hK => ?_⟩
        have d8 : z.tmps.getD 8 undef = .pointer (some ⟨bb, 0, none⟩) := hag.2.2 8 (by kernel_rfl)
        have e8 := d8
        rw [Array.getD_eq_getD_getElem?] at e8
        have hb : Below wg.heap.size wg v := hst
        obtain ⟨l0, l1⟩ := HBc.out v hb
        clear hb
        have HSt := Lib.hid hst
        clear hdep hag hst
        go_simp
        exact hK _ _ (Below.refl _ _) rfl HSt.out
      · intro k z v hk hst hag hdep
        have dg : SrEr a1 n1 c1 a2 c2 bw p ab bb xb lq eq ls lp tq s pk 18 (z.tmps.getD 48 undef) v := hdep { on := 18, ground := .guard } (by simp) rfl _ _ rfl rfl
        simp only [SrEr] at dg
        refine .inl ⟨Go.Proofs.Ytbikehngbkfckaa.R.wanted_of (j := 18) rfl rfl rfl dg (by rw [hag.2.1]; show 48 < 73; decide), fun K hK => ?_⟩
        have d51 : z.tmps.getD 51 undef = .agg #[.slice a2 n1 c2, .bool bw] := hdep { on := 21, ground := .data } (by simp) rfl _ _ rfl rfl
        have e51 := d51
        rw [Array.getD_eq_getD_getElem?] at e51
        have hb : Below wg.heap.size wg v := hst
        have HC := Lib.hid (HPf.out v hb)
        have HBv := Lib.hid hb
        clear hdep hag hst hb
        go_simp
        refine HC.out.mono ?_
        rintro e w' ⟨rfl, h9⟩
        exact hK _ _ h9 rfl (HBv.out.trans (h9.mono HBv.out.size))
      · intro k z v hk hst hag hdep
        have dg : SrEr a1 n1 c1 a2 c2 bw p ab bb xb lq eq ls lp tq s pk 18 (z.tmps.getD 48 undef) v := hdep { on := 18, ground := .guard } (by simp) rfl _ _ rfl rfl
        simp only [SrEr] at dg
        refine .inl ⟨Go.Proofs.Ytbikehngbkfckaa.R.wanted_of (j := 18) rfl rfl rfl dg (by rw [hag.2.1]; show 48 < 73; decide), fun K hK => ?_⟩
        have d50 : z.tmps.getD 50 undef = .string pk := hdep { on := 20, ground := .data } (by simp) rfl _ _ rfl rfl
        have e50 := d50
        rw [Array.getD_eq_getD_getElem?] at e50
        have d52 : z.tmps.getD 52 undef = .string pk := hdep { on := 22, ground := .data } (by simp) rfl _ _ rfl rfl
        have e52 := d52
        rw [Array.getD_eq_getD_getElem?] at e52
        have HSt := Lib.hid hst
        clear hdep hag hst
        go_simp
        exact hK _ _ (Below.refl _ _) rfl HSt.out
      · intro k z v hk hst hag hdep
        refine .inl ⟨rfl, fun K hK => ?_⟩
        have d48 : z.tmps.getD 48 undef = .bool true := hdep { on := 18, ground := .data } (by simp) rfl _ _ rfl rfl
        have e48 := d48
        rw [Array.getD_eq_getD_getElem?] at e48
        have d53 : z.tmps.getD 53 undef = .bool true := hdep { on := 23, ground := .data } (by simp) rfl _ _ rfl rfl
        have e53 := d53
        rw [Array.getD_eq_getD_getElem?] at e53
        have HSt := Lib.hid hst
        clear hdep hag hst
        go_simp
        exact hK _ _ (Below.refl _ _) rfl HSt.out
      · intro k z v hk hst hag hdep
        refine .inl ⟨rfl, fun K hK => ?_⟩
        have d54 : z.tmps.getD 54 undef = .bool true := hdep { on := 24, ground := .data } (by simp) rfl _ _ rfl rfl
        have e54 := d54
        rw [Array.getD_eq_getD_getElem?] at e54
        have HSt := Lib.hid hst
        clear hdep hag hst
        go_simp
        exact hK _ _ (Below.refl _ _) rfl HSt.out
      · intro k z v hk hst hag hdep
        have dg : SrEr a1 n1 c1 a2 c2 bw p ab bb xb lq eq ls lp tq s pk 25 (z.tmps.getD 55 undef) v := hdep { on := 25, ground := .guard } (by simp) rfl _ _ rfl rfl
        simp only [SrEr] at dg
        refine .inl ⟨Go.Proofs.Ytbikehngbkfckaa.R.wanted_of (j := 25) rfl rfl rfl dg (by rw [hag.2.1]; show 55 < 73; decide), fun K hK => ?_⟩
        have d7 : z.tmps.getD 7 undef = .pointer (some ⟨xb, 0, none⟩) := hag.2.2 7 (by kernel_rfl)
        have e7 := d7
        rw [Array.getD_eq_getD_getElem?] at e7
        have HSt := Lib.hid hst
        clear hdep hag hst
        go_simp
        exact hK _ _ (Below.refl _ _) rfl HSt.out
      · intro k z v hk hst hag hdep
        have dg : SrEr a1 n1 c1 a2 c2 bw p ab bb xb lq eq ls lp tq s pk 25 (z.tmps.getD 55 undef) v := hdep { on := 25, ground := .guard } (by simp) rfl _ _ rfl rfl
        simp only [SrEr] at dg
        refine .inl ⟨Go.Proofs.Ytbikehngbkfckaa.R.wanted_of (j := 25) rfl rfl rfl dg (by rw [hag.2.1]; show 55 < 73; decide), fun K hK => ?_⟩
        have d56 : z.tmps.getD 56 undef = .pointer (some ⟨xb, 1, none⟩) := hdep { on := 26, ground := .data } (by simp) rfl _ _ rfl rfl
        have e56 := d56
        rw [Array.getD_eq_getD_getElem?] at e56
        have hb : Below wg.heap.size wg v := hst
        obtain ⟨l0, l1⟩ := HXc.out v hb
        clear hb
        have HSt := Lib.hid hst
        clear hdep hag hst
        go_simp
        exact hK _ _ (Below.refl _ _) rfl HSt.out
      · intro k z v hk hst hag hdep
        have dg : SrEr a1 n1 c1 a2 c2 bw p ab bb xb lq eq ls lp tq s pk 25 (z.tmps.getD 55 undef) v := hdep { on := 25, ground := .guard } (by simp) rfl _ _ rfl rfl
        simp only [SrEr] at dg
        refine .inl ⟨Go.Proofs.Ytbikehngbkfckaa.R.wanted_of (j := 25) rfl rfl rfl dg (by rw [hag.2.1]; show 55 < 73; decide), fun K hK => ?_⟩
        have d57 : z.tmps.getD 57 undef = .int .i64 (eq : Int) := hdep { on := 27, ground := .data } (by simp) rfl _ _ rfl rfl
        have e57 := d57
        rw [Array.getD_eq_getD_getElem?] at e57
        have HSt := Lib.hid hst
        clear hdep hag hst
        go_simp
        exact hK _ _ (Below.refl _ _) rfl HSt.out
      · intro k z v hk hst hag hdep
        have dg : SrEr a1 n1 c1 a2 c2 bw p ab bb xb lq eq ls lp tq s pk 25 (z.tmps.getD 55 undef) v := hdep { on := 25, ground := .guard } (by simp) rfl _ _ rfl rfl
        simp only [SrEr] at dg
        refine .inl ⟨Go.Proofs.Ytbikehngbkfckaa.R.wanted_of (j := 25) rfl rfl rfl dg (by rw [hag.2.1]; show 55 < 73; decide), fun K hK => ?_⟩
        have d58 : z.tmps.getD 58 undef = .bool true := hdep { on := 28, ground := .data } (by simp) rfl _ _ rfl rfl
        have e58 := d58
        rw [Array.getD_eq_getD_getElem?] at e58
        have HSt := Lib.hid hst
        clear hdep hag hst
        go_simp
        exact hK _ _ (Below.refl _ _) rfl HSt.out
      · intro k z v hk hst hag hdep
        have dg : SrEr a1 n1 c1 a2 c2 bw p ab bb xb lq eq ls lp tq s pk 29 (z.tmps.getD 59 undef) v := hdep { on := 29, ground := .guard } (by simp) rfl _ _ rfl rfl
        simp only [SrEr] at dg
        exact .inr ⟨Go.Proofs.Ytbikehngbkfckaa.R.unwanted_of (j := 29) rfl rfl rfl dg (by decide) (by rw [hag.2.1]; show 59 < 73; decide), (Below.refl _ _), True.intro⟩
      · intro k z v hk hst hag hdep
        have dg : SrEr a1 n1 c1 a2 c2 bw p ab bb xb lq eq ls lp tq s pk 29 (z.tmps.getD 59 undef) v := hdep { on := 29, ground := .guard } (by simp) rfl _ _ rfl rfl
        simp only [SrEr] at dg
        exact .inr ⟨Go.Proofs.Ytbikehngbkfckaa.R.unwanted_of (j := 29) rfl rfl rfl dg (by decide) (by rw [hag.2.1]; show 59 < 73; decide), (Below.refl _ _), True.intro⟩
      · intro k z v hk hst hag hdep
        have dg : SrEr a1 n1 c1 a2 c2 bw p ab bb xb lq eq ls lp tq s pk 29 (z.tmps.getD 59 undef) v := hdep { on := 29, ground := .guard } (by simp) rfl _ _ rfl rfl
        simp only [SrEr] at dg
        exact .inr ⟨Go.Proofs.Ytbikehngbkfckaa.R.unwanted_of (j := 29) rfl rfl rfl dg (by decide) (by rw [hag.2.1]; show 59 < 73; decide), (Below.refl _ _), True.intro⟩
      · intro k z v hk hst hag hdep
        have dg : SrEr a1 n1 c1 a2 c2 bw p ab bb xb lq eq ls lp tq s pk 29 (z.tmps.getD 59 undef) v := hdep { on := 29, ground := .guard } (by simp) rfl _ _ rfl rfl
        simp only [SrEr] at dg
        exact .inr ⟨Go.Proofs.Ytbikehngbkfckaa.R.unwanted_of (j := 29) rfl rfl rfl dg (by decide) (by rw [hag.2.1]; show 59 < 73; decide), (Below.refl _ _), True.intro⟩
      · intro k z v hk hst hag hdep
        have dg : SrEr a1 n1 c1 a2 c2 bw p ab bb xb lq eq ls lp tq s pk 29 (z.tmps.getD 59 undef) v := hdep { on := 29, ground := .guard } (by simp) rfl _ _ rfl rfl
        simp only [SrEr] at dg
        exact .inr ⟨Go.Proofs.Ytbikehngbkfckaa.R.unwanted_of (j := 29) rfl rfl rfl dg (by decide) (by rw [hag.2.1]; show 59 < 73; decide), (Below.refl _ _), True.intro⟩
      · intro k z v hk hst hag hdep
        have dg : SrEr a1 n1 c1 a2 c2 bw p ab bb xb lq eq ls lp tq s pk 29 (z.tmps.getD 59 undef) v := hdep { on := 29, ground := .guard } (by simp) rfl _ _ rfl rfl
        simp only [SrEr] at dg
        exact .inr ⟨Go.Proofs.Ytbikehngbkfckaa.R.unwanted_of (j := 29) rfl rfl rfl dg (by decide) (by rw [hag.2.1]; show 59 < 73; decide), (Below.refl _ _), True.intro⟩
      · intro k z v hk hst hag hdep
        have dg : SrEr a1 n1 c1 a2 c2 bw p ab bb xb lq eq ls lp tq s pk 29 (z.tmps.getD 59 undef) v := hdep { on := 29, ground := .guard } (by simp) rfl _ _ rfl rfl
        simp only [SrEr] at dg
        exact .inr ⟨Go.Proofs.Ytbikehngbkfckaa.R.unwanted_of (j := 29) rfl rfl rfl dg (by decide) (by rw [hag.2.1]; show 59 < 73; decide), (Below.refl _ _), True.intro⟩
      · intro k z v hk hst hag hdep
        have dg : SrEr a1 n1 c1 a2 c2 bw p ab bb xb lq eq ls lp tq s pk 29 (z.tmps.getD 59 undef) v := hdep { on := 29, ground := .guard } (by simp) rfl _ _ rfl rfl
        simp only [SrEr] at dg
        exact .inr ⟨Go.Proofs.Ytbikehngbkfckaa.R.unwanted_of (j := 29) rfl rfl rfl dg (by decide) (by rw [hag.2.1]; show 59 < 73; decide), (Below.refl _ _), True.intro⟩
      · intro k z v hk hst hag hdep
        have dg : SrEr a1 n1 c1 a2 c2 bw p ab bb xb lq eq ls lp tq s pk 29 (z.tmps.getD 59 undef) v := hdep { on := 29, ground := .guard } (by simp) rfl _ _ rfl rfl
        simp only [SrEr] at dg
        exact .inr ⟨Go.Proofs.Ytbikehngbkfckaa.R.unwanted_of (j := 29) rfl rfl rfl dg (by decide) (by rw [hag.2.1]; show 59 < 73; decide), (Below.refl _ _), True.intro⟩
      · intro k z v hk hst hag hdep
        have dg : SrEr a1 n1 c1 a2 c2 bw p ab bb xb lq eq ls lp tq s pk 29 (z.tmps.getD 59 undef) v := hdep { on := 29, ground := .guard } (by simp) rfl _ _ rfl rfl
        simp only [SrEr] at dg
        exact .inr ⟨Go.Proofs.Ytbikehngbkfckaa.R.unwanted_of (j := 29) rfl rfl rfl dg (by decide) (by rw [hag.2.1]; show 59 < 73; decide), (Below.refl _ _), True.intro⟩
      · intro k z v hk hst hag hdep
        have dg : SrEr a1 n1 c1 a2 c2 bw p ab bb xb lq eq ls lp tq s pk 29 (z.tmps.getD 59 undef) v := hdep { on := 29, ground := .guard } (by simp) rfl _ _ rfl rfl
        simp only [SrEr] at dg
        exact .inr ⟨Go.Proofs.Ytbikehngbkfckaa.R.unwanted_of (j := 29) rfl rfl rfl dg (by decide) (by rw [hag.2.1]; show 59 < 73; decide), (Below.refl _ _), True.intro⟩
      · intro k z v hk hst hag hdep
        have dg : SrEr a1 n1 c1 a2 c2 bw p ab bb xb lq eq ls lp tq s pk 25 (z.tmps.getD 55 undef) v := hdep { on := 25, ground := .guard } (by simp) rfl _ _ rfl rfl
        simp only [SrEr] at dg
        refine .inl ⟨Go.Proofs.Ytbikehngbkfckaa.R.wanted_of (j := 25) rfl rfl rfl dg (by rw [hag.2.1]; show 55 < 73; decide), fun K hK => ?_⟩
        have d59 : z.tmps.getD 59 undef = .bool true := hdep { on := 29, ground := .data } (by simp) rfl _ _ rfl rfl
        have e59 := d59
        rw [Array.getD_eq_getD_getElem?] at e59
        have HSt := Lib.hid hst
        clear hdep hag hst
        go_simp
        exact hK _ _ (Below.refl _ _) rfl HSt.out
      · intro k z v hk hst hag hdep
        refine .inl ⟨rfl, fun K hK => ?_⟩
        have d55 : z.tmps.getD 55 undef = .bool true := hdep { on := 25, ground := .data } (by simp) rfl _ _ rfl rfl
        have e55 := d55
        rw [Array.getD_eq_getD_getElem?] at e55
        have d71 : z.tmps.getD 71 undef = .bool true := hdep { on := 41, ground := .data } (by simp) rfl _ _ rfl rfl
        have e71 := d71
        rw [Array.getD_eq_getD_getElem?] at e71
        have HSt := Lib.hid hst
        clear hdep hag hst
        go_simp
        exact hK _ _ (Below.refl _ _) rfl HSt.out
      · intro k z v hk hst hag hdep
        refine .inl ⟨rfl, fun K hK => ?_⟩
        have d72 : z.tmps.getD 72 undef = .bool true := hdep { on := 42, ground := .data } (by simp) rfl _ _ rfl rfl
        have e72 := d72
        rw [Array.getD_eq_getD_getElem?] at e72
        have HSt := Lib.hid hst
        clear hdep hag hst
        go_simp
        exact hK _ _ (Below.refl _ _) rfl HSt.out
    case hdone =>
      intro z v hst hag hok
      have d4 : z.tmps.getD 4 undef = .bool true := hok 43 _ 4 rfl rfl
      have HEv := Lib.hid (HEnd2.out v hst)
      clear hst
      obtain ⟨uu, hu, hzz⟩ := Go.Proofs.Ytbikehngbkfckaa.R.agree_frame [30, 31, 32, 33, 34, 35, 36, 37, 38, 39, 40, 41, 42, 43, 44, 45, 46, 47, 48, 49, 50, 51, 52, 53, 54, 55, 56, 57, 58, 59, 60, 61, 62, 63, 64, 65, 66, 67, 68, 69, 70, 71, 72, 4] rfl hag
      have e4 := (hu 4).trans d4
      subst hzz
      simp only [List.foldl_cons, List.foldl_nil]
      rw [e4]
      clear e4 d4 hu hag hok
      try dsimp only [Exit.then]
      simp only [List.setIfInBounds_toArray, List.set_cons_succ, List.set_cons_zero]
      generalize uu 30 = u30', uu 31 = u31', uu 32 = u32', uu 33 = u33', uu 34 = u34', uu 35 = u35', uu 36 = u36', uu 37 = u37', uu 38 = u38', uu 39 = u39', uu 40 = u40', uu 41 = u41', uu 42 = u42', uu 43 = u43', uu 44 = u44', uu 45 = u45', uu 46 = u46', uu 47 = u47', uu 48 = u48', uu 49 = u49', uu 50 = u50', uu 51 = u51', uu 52 = u52', uu 53 = u53', uu 54 = u54', uu 55 = u55', uu 56 = u56', uu 57 = u57', uu 58 = u58', uu 59 = u59', uu 60 = u60', uu 61 = u61', uu 62 = u62', uu 63 = u63', uu 64 = u64', uu 65 = u65', uu 66 = u66', uu 67 = u67', uu 68 = u68', uu 69 = u69', uu 70 = u70', uu 71 = u71', uu 72 = u72'
      clear uu
      go_wp2_with fail
      exact HEv.out
end Go.Proofs.Ytbikehngbkfckaa.K
