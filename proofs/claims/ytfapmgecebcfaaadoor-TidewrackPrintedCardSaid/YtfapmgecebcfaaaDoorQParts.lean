/- SeqParts: in whatever parts bytes come, they say the same: the walk. -/
import Derived.Test.YtfapmgecebcfaaaDoorMerged8
import Derived.Test.YtfapmgecebcfaaaDoorQIsO
import Derived.Test.YtfapmgecebcfaaaDoorMerged9
import Derived.Test.YtfapmgecebcfaaaDoorQPrints
import Derived.Test.YtfapmgecebcfaaaDoorRelL
import Derived.Test.YtfapmgecebcfaaaDoorRelU
import Derived.Lib.MinMax
import Derived.Deep.DeepCutAuto
namespace Go.Proofs.YtfapmgecebcfaaaDoor.Q
open Go.RowKit
open Go.Proofs.YtfapmgecebcfaaaDoor.W (OwnI OwnR IntsIn RunesIn ArgI)
open Go.Proofs.YtfapmgecebcfaaaDoor.Y (Tab)

theorem and15 (n : Int) : bits BinOp.and IntKind.i64 n 15 = n % 16 := by
  have key : (BitVec.ofInt 64 n &&& BitVec.ofInt 64 15).toNat = (n % ((2 ^ 64 : Nat) : Int)).toNat % 2 ^ 4 := by
    rw [BitVec.toNat_and, BitVec.toNat_ofInt, BitVec.toNat_ofInt]
    exact Nat.and_two_pow_sub_one_eq_mod _ 4
  show IntKind.i64.wrap ((BitVec.ofInt 64 n &&& BitVec.ofInt 64 15).toNat : Nat) = n % 16
  rw [key]
  have h1 : (n % ((2 ^ 64 : Nat) : Int)).toNat % 2 ^ 4 < 16 := Nat.mod_lt _ (by decide)
  rw [IntWalk.i64_in _ (by omega)]
  omega
/-- where the parts stand -/
structure Par (rb b0 : Nat) (w : World) (T : List UInt8) (m : Nat) (all left : Value) (wr : World) : Prop where
  below : Below b0 w wr
  p : PBlk rb (feedS (fresh 0) (T.take m)).1 wr
  own : OwnA (rb + 1) all (feedS (fresh 0) (T.take m)).2 wr
  left : ∃ lf : ByteArray, left = .string lf ∧ lf.data.toList = T.drop m
  le : m ≤ T.length
/-- within the region: p fed, d fed -/
structure PartS (rb dk b0 : Nat) (w : World) (p0 p1 : PS) (all : Value) (acts0 : List Say) (f3 f8 : Bool) (u : World) : Prop where
  below : Below b0 w u
  pb : PBlk rb (if f3 then p1 else p0) u
  pd : PBlk dk (if f8 then p1 else p0) u
  own : OwnA (rb + 1) all acts0 u
  ne : rb < dk
  lb : b0 ≤ rb
def PartC (rb dk b0 : Nat) (w : World) (p0 p1 : PS) (all : Value) (acts0 : List Say) (L : Nat → Bool) (u : World) : Prop := PartS rb dk b0 w p0 p1 all acts0 (L 3) (L 8) u
def ParR (u v : World) : Prop := ∃ k p, PBlk k p u ∧ u.grownBy v (some k)
theorem OwnA.parR {base : Nat} {x : Value} {l : List Say} {u v : World} (h : OwnA base x l u) (hr : ParR u v) : OwnA base x l v := by
  obtain ⟨k, p, h1, h2⟩ := hr
  exact h.turned h1 h2
theorem PartC.rrefl {rb dk b0 : Nat} {w u : World} {p0 p1 : PS} {all : Value} {acts0 : List Say} {L : Nat → Bool} (h : PartC rb dk b0 w p0 p1 all acts0 L u) : ParR u u := ⟨rb, _, h.pb, grefl u _⟩
theorem OwnA.len {base : Nat} {v : Value} {l : List Say} {w : World} (h : OwnA base v l w) : ∃ a c, v = .slice a l.length c := by
  obtain ⟨e, a, c, hv, _⟩ | ⟨g2, c2, e, _⟩ := h.shape
  · exact ⟨a, c, by rw [hv, e]; rfl⟩
  · exact ⟨_, c2, e⟩
section
variable {rb dk b0 : Nat} {w u v : World} {p0 p1 : PS} {all : Value} {acts0 : List Say}
theorem PartS.size {f3 f8 : Bool} (h : PartS rb dk b0 w p0 p1 all acts0 f3 f8 u) : rb + 1 ≤ u.heap.size := h.pb.lt
theorem PartS.tab {f3 f8 : Bool} (h : PartS rb dk b0 w p0 p1 all acts0 f3 f8 u) (hT : Tab w) (hb : w.heap.size = b0) : Tab u := hT.belowAll (by rw [hb]; exact h.below)
theorem PartS.fed3 {f8 : Bool} (h : PartS rb dk b0 w p0 p1 all acts0 false f8 u) (h2 : PBlk rb p1 v) (hg : u.grownBy v (some rb)) : PartS rb dk b0 w p0 p1 all acts0 true f8 v :=
  ⟨h.below.grown hg (by have := h.size; have := h.lb; omega) (fun q hq => by cases hq; exact h.lb), h2, (hg.block dk h.pd.lt (fun e => by have := h.ne; have := Option.some.inj e; omega)).trans h.pd, h.own.turned h.pb hg, h.ne, h.lb⟩
theorem PartS.fed8 {f3 : Bool} (h : PartS rb dk b0 w p0 p1 all acts0 f3 false u) (h2 : PBlk dk p1 v) (hg : u.grownBy v (some dk)) : PartS rb dk b0 w p0 p1 all acts0 f3 true v :=
  ⟨h.below.grown hg (by have := h.size; have := h.lb; omega) (fun q hq => by cases hq; have := h.lb; have := h.ne; omega), (hg.block rb h.pb.lt (fun e => by have := h.ne; have := Option.some.inj e; omega)).trans h.pb, h2, h.own.turned h.pd hg, h.ne, h.lb⟩
end
def PartOk (rb dk N : Nat) (lf pc : ByteArray) (acts : List Say) : Nat → Value → World → Prop
  | 0, u, _ => u = .string lf
  | 1, u, _ => u = .int .i64 (N : Int)
  | 2, u, _ => u = .string pc
  | 3, u, w => OwnA (rb + 1) u acts w
  | 4, u, _ => u = .pointer (some ⟨dk, 0, none⟩)
  | 5, u, _ => u = .string lf
  | 6, u, _ => u = .int .i64 (N : Int)
  | 7, u, _ => u = .string pc
  | 8, u, w => OwnA (rb + 1) u acts w
  | 9, u, w => OwnA (rb + 1) u acts w
  | 10, u, w => OwnA (rb + 1) u acts w
  | _, _, _ => True
set_option maxRecDepth 100000 in
set_option maxHeartbeats 16000000 in
theorem parts_walk (s : ByteArray) (hs : (s.size : Int) ≤ 9223372036854775807) (a1 : Option Addr) (len1 cap1 : Nat) (zs1 : List Int) (w : World) (hT : Tab w) (hA : ArgI a1 len1 cap1 zs1 w) :
    Calls Tryd.prog 4 #[.string s, .slice a1 len1 cap1] w fun e w' => e = .returned (.bool true) ∧ Below w.heap.size w w' := by
  have HT := Lib.hid hT
  have HA := Lib.hid hA
  have hl1 : (len1 : Int) ≤ 9223372036854775807 := by have := hA.fit; have := hA.top; omega
  obtain ⟨b0, hb0⟩ : ∃ b0, w.heap.size = b0 := ⟨_, rfl⟩
  have HB0 := Lib.hid hb0
  have H1 := Lib.hid (awake_any w hT)
  clear hT hb0 hA
  go_enter Tryd.func4, Tryd.ntmps4
  go_wp2_with fail
  refine H1.out.mono ?_
  rintro e w1 ⟨rfl, hb1⟩
  obtain ⟨rb, hrb⟩ : ∃ rb, w1.heap.size = rb := ⟨_, rfl⟩
  obtain ⟨w2, hw2⟩ : ∃ w2, w1.alloc (.cells zeroP 31) = w2 := ⟨_, rfl⟩
  have hb2 : Below rb w1 w2 := by rw [← hw2, ← hrb]; exact (Below.refl _ _).alloc (Nat.le_refl _) _
  have hB2 : PBlk rb (fresh 0) w2 := by rw [← hw2, ← hrb]; exact PBlk.zero w1
  have h0 : 0 < rb := by rw [← hrb]; exact (HT.out.belowAll hb1).pos
  have hne : 0 ≠ rb := by omega
  have hrb0 : b0 ≤ rb := by rw [← hrb, ← HB0.out]; exact hb1.size
  have HBB : Hid (Below b0 w w2) := Lib.hid ((by rw [← HB0.out]; exact hb1 : Below b0 w w1).trans (hb2.mono hrb0))
  have HP2 := Lib.hid hB2
  unfold zeroP at hw2
  have HW2 := Lib.hid hw2
  have HRb := Lib.hid hrb
  have HH0 := Lib.hid h0
  clear hb1 hb2 hB2 h0 hw2 hrb H1
  go_wp2_with fail
  refine (Y.cut_any s 200 hs (by decide) _).mono ?_
  rintro e w' ⟨⟨t, rfl, hts, htl⟩, rfl⟩
  clear htl
  go_upto_region 5 with fail
  rw [HW2.out, HRb.out]
  obtain ⟨T, hTt⟩ : ∃ T, t.data.toList = T := ⟨_, rfl⟩
  have hTl : T.length ≤ 200 := by rw [← hTt]; have : t.data.toList.length = t.size := rfl; omega
  have HTt := Lib.hid hTt
  have HStart : Hid (Par rb b0 w T 0 (.slice none 0 0) (.string t) w2) := Lib.hid ⟨HBB.out, HP2.out, OwnA.nil _ _, ⟨t, rfl, hTt⟩, Nat.zero_le _⟩
  clear hTt HBB HP2 HW2 HRb
  go_wp2_with fail
  go_loopw [6, 7, 21] (fun al lf i wr => ∃ j : Nat, i = .int .i64 (j : Int) ∧ j ≤ len1 ∧ Hid (∃ m, Par rb b0 w T m al lf wr)) (fun _ _ i _ => len1 - (intOf i).toNat)
  case atStart => exact ⟨0, rfl, by omega, Lib.hid ⟨0, HStart.out⟩⟩
  case round =>
    obtain ⟨j, rfl, hj, HP⟩ := hrel
    obtain ⟨m, hP⟩ := HP.out
    obtain ⟨lf, hlf, hlfl⟩ := hP.left
    subst hlf
    have hlz : (lf.size : Int) ≤ 200 := by
      have h1 : lf.size = (T.drop m).length := by rw [← hlfl]; rfl
      rw [List.length_drop] at h1
      omega
    have HLf := Lib.hid hlfl
    have HPar := Lib.hid hP
    clear HP hP hlfl
    by_cases hlt : j < len1
    · have hd1 : decide (j < len1) = true := by simp; omega
      have hjl : j < zs1.length := by have := HA.out.rs.1; omega
      obtain ⟨b, off, rfl, hbl, hI⟩ := HA.out.rs.2.resolve_left (by intro e; rw [e] at hjl; simp at hjl)
      have hbb : b < b0 := by rw [← HB0.out]; exact hbl
      have hc := (HPar.out.below.cell (p := ⟨b, off + j, none⟩) hbb).trans (hI j hjl)
      obtain ⟨z, hz⟩ : ∃ z, zs1.getD j 0 = z := ⟨_, rfl⟩
      rw [hz] at hc
      have hand := and15 z
      obtain ⟨K, hK⟩ : ∃ K : Nat, z % 16 = (K : Int) := ⟨(z % 16).toNat, by omega⟩
      rw [hK] at hand
      have hK16 : (K : Int) < 16 := by omega
      obtain ⟨N, hN⟩ : ∃ N : Nat, min (1 + (K : Int)) (lf.size : Int) = (N : Int) := ⟨min (1 + K) lf.size, by omega⟩
      have hNle : (N : Int) ≤ lf.size := by omega
      have HCl := Lib.hid (clone_any rb _ wr HPar.out.p)
      clear hI hz hK hbl hjl
      go_wp2_with fail
      refine HCl.out.mono ?_
      rintro e w3 ⟨rfl, hPd, hb3⟩
      obtain ⟨dk, hdk⟩ : ∃ dk, wr.heap.size = dk := ⟨_, rfl⟩
      rw [hdk] at hPd ⊢
      have hrbdk : rb < dk := by rw [← hdk]; exact HPar.out.p.lt
      have hned : 0 ≠ dk := by have := HH0.out; omega
      obtain ⟨q0, hq0⟩ : ∃ q0, feedS (fresh 0) (T.take m) = q0 := ⟨_, rfl⟩
      obtain ⟨p0, acts0⟩ := q0
      have hok0 : Ok p0 := by have := feed_ok (T.take m) (fresh 0) (fresh_ok 0 (by decide)); rw [hq0] at this; exact this
      obtain ⟨pc, hpc⟩ : ∃ pc, lf.extract 0 N = pc := ⟨_, rfl⟩
      have hpcl : pc.data.toList = (T.drop m).take N := by rw [← hpc, ext_list (bytes_ext HLf.out) 0 N, List.drop_zero]
      have hpcs : (pc.size : Int) ≤ 200 := by
        have h1 : pc.size = ((T.drop m).take N).length := by rw [← hpcl]; rfl
        rw [List.length_take, List.length_drop] at h1
        omega
      obtain ⟨q1, hq1⟩ : ∃ q1, feedS p0 pc.data.toList = q1 := ⟨_, rfl⟩
      obtain ⟨p1, acts⟩ := q1
      have hstep : feedS (fresh 0) (T.take (m + N)) = (p1, acts0 ++ acts) := by
        rw [List.take_add, feedS_append, hq0, ← hpcl, hq1]
      have hC0 : PartC rb dk b0 w p0 p1 u6 acts0 (fun _ => false) w3 := by
        have h := HPar.out
        have h1 := h.p
        have h2 := h.own
        rw [hq0] at h1 h2 hPd
        exact ⟨h.below.trans (hb3.mono (by have := h.below.size; rw [HB0.out] at this; exact this)), h1.belowAll hb3, hPd, h2.belowAll hb3, hrbdk, hrb0⟩
      have HC0 := Lib.hid hC0
      have HOk := Lib.hid hok0
      have HPc := Lib.hid hpc
      have HAc : Hid ((feedS p0 pc.data.toList).2 = acts) := Lib.hid (by rw [hq1])
      have HP1 : Hid ((feedS p0 pc.data.toList).1 = p1) := Lib.hid (by rw [hq1])
      have HStep := Lib.hid hstep
      have HPcl := Lib.hid hpcl
      clear hPd hb3 hdk hq0 hok0 hpc hpcl hq1 hstep hC0 HCl
      go_upto_region 14 with fail
      refine R.wp_region_relL (by kernel_rfl) (PartC rb dk b0 w p0 p1 u6 acts0) ParR (PartOk rb dk N lf pc acts) (by rfl) (by kernel_rfl) (by kernel_rfl) ?hOk ?hop ?hdone ?h0
      case h0 => exact ⟨HC0.out.below.drew, HC0.out.pb.belowAll (Below.refl _ _).drew, HC0.out.pd.belowAll (Below.refl _ _).drew, HC0.out.own.belowAll (Below.refl _ _).drew, HC0.out.ne, HC0.out.lb⟩
      case hOk =>
        intro i x v v' hv hr
        unfold PartOk at hv ⊢
        split at hv
        all_goals first | exact hv | exact OwnA.parR hv hr | trivial
      case hop =>
        refine ⟨?_, ?_, ?_, ?_, ?_, ?_, ?_, ?_, ?_, ?_, ?_, trivial⟩
        · intro L z v hL hdp hz hag hdep
          refine .inl ⟨rfl, fun K hK => ?_⟩
          have d7 : z.tmps.getD 7 undef = .string lf := hag.2.2 7 (by kernel_rfl)
          have e7 := d7
          rw [Array.getD_eq_getD_getElem?] at e7
          clear hdep hag
          go_simp
          exact hK _ _ hz.rrefl rfl hz
        · intro L z v hL hdp hz hag hdep
          refine .inl ⟨rfl, fun K hK => ?_⟩
          have d10 : z.tmps.getD 10 undef = .int .i64 (N : Int) := hag.2.2 10 (by kernel_rfl)
          have e10 := d10
          rw [Array.getD_eq_getD_getElem?] at e10
          clear hdep hag
          go_simp
          exact hK _ _ hz.rrefl rfl hz
        · intro L z v hL hdp hz hag hdep
          refine .inl ⟨rfl, fun K hK => ?_⟩
          have d34 : PartOk rb dk N lf pc acts 0 (z.tmps.getD 34 undef) v := hdep { on := 0, ground := .data } (by simp) rfl _ _ rfl rfl
          simp only [PartOk] at d34
          have e34 := d34
          rw [Array.getD_eq_getD_getElem?] at e34
          have d35 : PartOk rb dk N lf pc acts 1 (z.tmps.getD 35 undef) v := hdep { on := 1, ground := .data } (by simp) rfl _ _ rfl rfl
          simp only [PartOk] at d35
          have e35 := d35
          rw [Array.getD_eq_getD_getElem?] at e35
          clear hdep hag
          have hle := hNle
          go_simp
          exact hK _ _ hz.rrefl (by show _ = Value.string pc; rw [← HPc.out]) hz
        · intro L z v hL hdp hz hag hdep
          refine .inl ⟨rfl, fun K hK => ?_⟩
          have d5 : z.tmps.getD 5 undef = .pointer (some ⟨rb, 0, none⟩) := hag.2.2 5 (by kernel_rfl)
          have e5 := d5
          rw [Array.getD_eq_getD_getElem?] at e5
          have d36 : PartOk rb dk N lf pc acts 2 (z.tmps.getD 36 undef) v := hdep { on := 2, ground := .data } (by simp) rfl _ _ rfl rfl
          simp only [PartOk] at d36
          have e36 := d36
          rw [Array.getD_eq_getD_getElem?] at e36
          clear hdep hag
          have hz3 := hz
          unfold PartC at hz3
          rw [hL] at hz3
          have HC := Lib.hid (feed_any rb p0 pc (by omega) v hz3.pb HOk.out (hz3.tab HT.out HB0.out) hne)
          have HZ := Lib.hid hz3
          clear hz3
          go_simp
          refine HC.out.mono ?_
          rintro e w' ⟨v', rfl, h1, h2, h3⟩
          rw [HAc.out] at h1
          rw [HP1.out] at h2
          exact hK _ _ ⟨rb, p0, HZ.out.pb, grown_kept h3⟩ (h1.weaken HZ.out.size) (HZ.out.fed3 h2 (grown_kept h3))
        · intro L z v hL hdp hz hag hdep
          refine .inl ⟨rfl, fun K hK => ?_⟩
          have d11 : z.tmps.getD 11 undef = .pointer (some ⟨dk, 0, none⟩) := hag.2.2 11 (by kernel_rfl)
          have e11 := d11
          rw [Array.getD_eq_getD_getElem?] at e11
          clear hdep hag
          go_simp
          exact hK _ _ hz.rrefl rfl hz
        · intro L z v hL hdp hz hag hdep
          refine .inl ⟨rfl, fun K hK => ?_⟩
          have d7 : z.tmps.getD 7 undef = .string lf := hag.2.2 7 (by kernel_rfl)
          have e7 := d7
          rw [Array.getD_eq_getD_getElem?] at e7
          clear hdep hag
          go_simp
          exact hK _ _ hz.rrefl rfl hz
        · intro L z v hL hdp hz hag hdep
          refine .inl ⟨rfl, fun K hK => ?_⟩
          have d10 : z.tmps.getD 10 undef = .int .i64 (N : Int) := hag.2.2 10 (by kernel_rfl)
          have e10 := d10
          rw [Array.getD_eq_getD_getElem?] at e10
          clear hdep hag
          go_simp
          exact hK _ _ hz.rrefl rfl hz
        · intro L z v hL hdp hz hag hdep
          refine .inl ⟨rfl, fun K hK => ?_⟩
          have d39 : PartOk rb dk N lf pc acts 5 (z.tmps.getD 39 undef) v := hdep { on := 5, ground := .data } (by simp) rfl _ _ rfl rfl
          simp only [PartOk] at d39
          have e39 := d39
          rw [Array.getD_eq_getD_getElem?] at e39
          have d40 : PartOk rb dk N lf pc acts 6 (z.tmps.getD 40 undef) v := hdep { on := 6, ground := .data } (by simp) rfl _ _ rfl rfl
          simp only [PartOk] at d40
          have e40 := d40
          rw [Array.getD_eq_getD_getElem?] at e40
          clear hdep hag
          have hle := hNle
          go_simp
          exact hK _ _ hz.rrefl (by show _ = Value.string pc; rw [← HPc.out]) hz
        · intro L z v hL hdp hz hag hdep
          refine .inl ⟨rfl, fun K hK => ?_⟩
          have d38 : PartOk rb dk N lf pc acts 4 (z.tmps.getD 38 undef) v := hdep { on := 4, ground := .data } (by simp) rfl _ _ rfl rfl
          simp only [PartOk] at d38
          have e38 := d38
          rw [Array.getD_eq_getD_getElem?] at e38
          have d41 : PartOk rb dk N lf pc acts 7 (z.tmps.getD 41 undef) v := hdep { on := 7, ground := .data } (by simp) rfl _ _ rfl rfl
          simp only [PartOk] at d41
          have e41 := d41
          rw [Array.getD_eq_getD_getElem?] at e41
          clear hdep hag
          have hz3 := hz
          unfold PartC at hz3
          rw [hL] at hz3
          have HC := Lib.hid (feed_any dk p0 pc (by omega) v hz3.pd HOk.out (hz3.tab HT.out HB0.out) hned)
          have HZ := Lib.hid hz3
          clear hz3
          go_simp
          refine HC.out.mono ?_
          rintro e w' ⟨v', rfl, h1, h2, h3⟩
          rw [HAc.out] at h1
          rw [HP1.out] at h2
          exact hK _ _ ⟨dk, p0, HZ.out.pd, grown_kept h3⟩ (h1.weaken HZ.out.size) (HZ.out.fed8 h2 (grown_kept h3))
        · intro L z v hL hdp hz hag hdep
          refine .inl ⟨rfl, fun K hK => ?_⟩
          have d37 : PartOk rb dk N lf pc acts 3 (z.tmps.getD 37 undef) v := hdep { on := 3, ground := .data } (by simp) rfl _ _ rfl rfl
          simp only [PartOk] at d37
          obtain ⟨x37, e37⟩ : ∃ x, z.tmps.getD 37 undef = x := ⟨_, rfl⟩
          rw [e37] at d37
          rw [Array.getD_eq_getD_getElem?] at e37
          clear hdep hag
          go_simp
          exact hK _ _ hz.rrefl (by show OwnA (rb + 1) _ acts v; exact d37) hz
        · intro L z v hL hdp hz hag hdep
          refine .inl ⟨rfl, fun K hK => ?_⟩
          have d42 : PartOk rb dk N lf pc acts 8 (z.tmps.getD 42 undef) v := hdep { on := 8, ground := .data } (by simp) rfl _ _ rfl rfl
          simp only [PartOk] at d42
          obtain ⟨x42, e42⟩ : ∃ x, z.tmps.getD 42 undef = x := ⟨_, rfl⟩
          rw [e42] at d42
          rw [Array.getD_eq_getD_getElem?] at e42
          clear hdep hag
          go_simp
          exact hK _ _ hz.rrefl (by show OwnA (rb + 1) _ acts v; exact d42) hz
      case hdone =>
        intro z0 u hz hag hall
        have d12 : PartOk rb dk N lf pc acts 9 (z0.tmps.getD 12 undef) u := hall 9 _ _ rfl rfl
        have d13 : PartOk rb dk N lf pc acts 10 (z0.tmps.getD 13 undef) u := hall 10 _ _ rfl rfl
        simp only [PartOk] at d12 d13
        obtain ⟨va, hva⟩ : ∃ va, z0.tmps.getD 12 undef = va := ⟨_, rfl⟩
        obtain ⟨vb, hvb⟩ : ∃ vb, z0.tmps.getD 13 undef = vb := ⟨_, rfl⟩
        rw [hva] at d12
        rw [hvb] at d13
        obtain ⟨aa, ca, rfl⟩ := d12.len
        obtain ⟨ab, cb, rfl⟩ := d13.len
        obtain ⟨uu, huu, hzz⟩ := Go.Proofs.YtfapmgecebcfaaaDoor.R.agree_frame [34, 35, 36, 37, 38, 39, 40, 41, 42, 12, 13] rfl hag
        have e12 := (huu 12).trans hva
        have e13 := (huu 13).trans hvb
        subst hzz
        have hz1 : PartS rb dk b0 w p0 p1 u6 acts0 true true u := hz
        have hok1 : Ok p1 := by have := feed_ok pc.data.toList p0 HOk.out; rw [HP1.out] at this; exact this
        have HF9 := Lib.hid (feed_any dk p1 ⟨#[27, 91, 57]⟩ (by decide) u hz1.pd hok1 (hz1.tab HT.out HB0.out) hned)
        have HZ1 := Lib.hid hz1
        have HVa := Lib.hid d12
        have hcn : (acts.length : Int) ≤ 1000000 := by
          have h1 := feed_count pc.data.toList p0
          rw [HAc.out] at h1
          have h2 : pc.data.toList.length = pc.size := rfl
          omega
        have hcn0 : (acts0.length : Int) ≤ 1000000 := by
          have h1 := feed_count (T.take (m + N)) (fresh 0)
          rw [HStep.out, List.length_append] at h1
          have h2 := List.length_take_le (m + N) T
          have h3 := List.length_take_le' (m + N) T
          omega
        have HCn := Lib.hid hcn
        have HCn0 := Lib.hid hcn0
        obtain ⟨NA, hNA⟩ : ∃ NA, acts.length = NA := ⟨_, rfl⟩
        rw [hNA] at e12 e13 HVa
        clear d12 d13 hva hvb hag hall hz hz1 hok1 huu hcn hcn0 hNA
        simp only [List.foldl_cons, List.foldl_nil]
        rw [e12, e13]
        clear e12 e13
        go_wp2_with fail
        refine HF9.out.mono ?_
        rintro e w4 ⟨v9, rfl, _, hPd9, hK9⟩
        have hg9 := grown_kept hK9
        have hO4 : OwnA (rb + 1) u6 acts0 w4 := HZ1.out.own.turned HZ1.out.pd hg9
        have hA4 : OwnA (rb + 1) (.slice aa NA ca) acts w4 := HVa.out.turned HZ1.out.pd hg9
        have hB4 : Below b0 w w4 := HZ1.out.below.grown hg9 (by have := HZ1.out.size; omega) (fun q hq => by cases hq; omega)
        have hP4 : PBlk rb p1 w4 := (hg9.block rb HZ1.out.pb.lt (fun e => by have := Option.some.inj e; omega)).trans HZ1.out.pb
        have HO4 := Lib.hid hO4
        have HA4 := Lib.hid hA4
        have HB4 := Lib.hid hB4
        have HP4 := Lib.hid hP4
        clear hPd9 hK9 hg9 hO4 hA4 hB4 hP4 HF9
        go_wp2_with (at_builtin; refine wpList_append_as rfl _ _ rfl rfl (rb + 1) _ _ acts0 acts rfl rfl HO4.out HA4.out HCn0.out HCn.out HP4.out.lt ?_)
        intro v5 w5 hown5 hgr5
        have hPar : Par rb b0 w T (m + N) v5 (.string (lf.extract N lf.size)) w5 := by
          have hbl : ∀ q, u6.ownBlock = some q → rb + 1 ≤ q := fun q hq => HO4.out.ownBlock q hq
          refine ⟨HB4.out.grown hgr5 (by have := HP4.out.lt; omega) (fun q hq => by have := hbl q hq; omega), ?_, ?_, ⟨_, rfl, ?_⟩, ?_⟩
          · rw [HStep.out]
            exact (hgr5.block rb HP4.out.lt (fun e => by have := hbl _ e.symm; omega)).trans HP4.out
          · rw [HStep.out]; exact hown5
          · have hl : lf.size = (T.drop m).length := by rw [← HLf.out]; rfl
            rw [ext_list (bytes_ext HLf.out) N lf.size, hl, List.take_length, List.drop_drop]
          · have hl : lf.size = (T.drop m).length := by rw [← HLf.out]; rfl
            rw [List.length_drop] at hl
            have := HPar.out.le
            omega
        have HPar5 := Lib.hid hPar
        clear hown5 hgr5 hPar
        go_wp2
        go_roundw
        case rel => exact ⟨j + 1, by go_num, by omega, Lib.hid ⟨m + N, HPar5.out⟩⟩
        case measure => simp [intOf]; omega
    · obtain rfl : j = len1 := by omega
      have hd1 : decide (j < j) = false := by simp
      obtain ⟨q0, hq0⟩ : ∃ q0, feedS (fresh 0) (T.take m) = q0 := ⟨_, rfl⟩
      obtain ⟨p0, acts0⟩ := q0
      have hok0 : Ok p0 := by have := feed_ok (T.take m) (fresh 0) (fresh_ok 0 (by decide)); rw [hq0] at this; exact this
      have hp0 := HPar.out.p
      have ho0 := HPar.out.own
      rw [hq0] at hp0 ho0
      obtain ⟨q1, hq1⟩ : ∃ q1, feedS p0 lf.data.toList = q1 := ⟨_, rfl⟩
      obtain ⟨p1, acts⟩ := q1
      have hall : (feedS (fresh 0) T).2 = acts0 ++ acts := by
        have h1 : T = T.take m ++ T.drop m := (List.take_append_drop m T).symm
        rw [h1, feedS_append, hq0, ← HLf.out, hq1]
      have hF := feed_any rb p0 lf (by omega) wr hp0 hok0 (HT.out.belowAll (by rw [HB0.out]; exact HPar.out.below)) hne
      unfold MPost at hF
      rw [hq1] at hF
      have HF := Lib.hid hF
      have HO0 := Lib.hid ho0
      have HP0 := Lib.hid hp0
      have hcnt := feed_count T (fresh 0)
      have hfit := fit_feed T (fresh 0) (fresh_ok 0 (by decide))
      have HRd := Lib.hid (fun w => read_any t (by omega) w)
      rw [HTt.out] at HRd
      rw [hall] at hcnt hfit HRd
      rw [List.length_append] at hcnt
      have hn0 : (acts0.length : Int) ≤ 1000000 := by omega
      have hn1 : (acts.length : Int) ≤ 1000000 := by omega
      have hn2 : ((acts0 ++ acts).length : Int) ≤ 100000 := by rw [List.length_append]; omega
      have HN0 := Lib.hid hn0
      have HN1 := Lib.hid hn1
      have HN2 := Lib.hid hn2
      have HFit := Lib.hid hfit
      clear hq0 hok0 hp0 ho0 hq1 hall hF hcnt hfit hn0 hn1 hn2
      go_wp2_with fail
      refine HF.out.mono ?_
      rintro e w3 ⟨v3, rfl, hO3, hP3, hK3⟩
      have hg3 := grown_kept hK3
      have HO3 := Lib.hid (hO3.weaken (show rb + 1 ≤ wr.heap.size from HP0.out.lt))
      have HA3 := Lib.hid (HO0.out.turned HP0.out hg3)
      have HB3 : Hid (Below b0 w w3) := Lib.hid (HPar.out.below.grown hg3 (by have := HP0.out.lt; omega) (fun q hq => by cases hq; omega))
      have HS3 : Hid (rb + 1 ≤ w3.heap.size) := Lib.hid hP3.lt
      clear hO3 hP3 hK3 hg3 HF
      go_wp2_with (at_builtin; refine wpList_append_as rfl _ _ rfl rfl (rb + 1) _ _ acts0 acts rfl rfl HA3.out HO3.out HN0.out HN1.out HS3.out ?_)
      intro v5 w5 hown5 hgr5
      have HO5 := Lib.hid hown5
      have HB5 : Hid (Below b0 w w5) := Lib.hid (HB3.out.grown hgr5 (by have := HS3.out; omega) (fun q hq => by have := HA3.out.ownBlock q hq; omega))
      have hlt5 : b0 ≤ w5.heap.size := by have := HS3.out; have := hgr5.size; omega
      have HRd5 := Lib.hid (HRd.out w5)
      clear hown5 hgr5 HRd
      go_wp2_with fail
      refine HRd5.out.mono ?_
      rintro e w6 ⟨v6, rfl, hX, hb6⟩
      have HB6 : Hid (Below b0 w w6) := Lib.hid (HB5.out.trans (hb6.mono hlt5))
      have HIs := Lib.hid (is_any _ _ v5 v6 (acts0 ++ acts) w6 (HO5.out.belowAll hb6) hX HN2.out HFit.out)
      have hlt6 : b0 ≤ w6.heap.size := Nat.le_trans hlt5 hb6.size
      clear hX hb6 HRd5
      go_wp2_with fail
      refine HIs.out.mono ?_
      rintro e w7 ⟨rfl, hb7⟩
      have HB7 : Hid (Below b0 w w7) := Lib.hid (HB6.out.trans (hb7.mono hlt6))
      clear hb7 HIs
      go_wp2
      go_ret
      exact ⟨rfl, by rw [HB0.out]; exact HB7.out⟩
end Go.Proofs.YtfapmgecebcfaaaDoor.Q
