/- StyleTwice: numbers that are set in two parts set what they set together: the walk. -/
import Derived.Test.YtfapmgecebcfaaaZTwiceM
import Derived.Deep.DeepCutAuto
import Derived.RegionTactic
import Derived.Deep.RegionWith
import Derived.Test.YtfapmgecebcfaaaRelV
namespace Go.Proofs.Ytfapmgecebcfaaa.Z
open Go.RowKit
open Go.Proofs.Ytfapmgecebcfaaa.W (OwnI IntsIn ArgI inV ints_one)

theorem SBlk.grown {t : TypeId} {p : Nat} {s : Sty} {w w' : World} {row : Option Nat} (h : SBlk t p s w) (hg : w.grownBy w' row) (hn : row ≠ some p) : SBlk t p s w' := (hg.block p h.lt (fun e => hn e.symm)).trans h
/-- where the loops stand -/
structure Tw (rb : Nat) (s : Sty) (w : World) (av bv : Value) (A B : List Int) (wr : World) : Prop where
  below : Below rb w wr
  a : OwnI (rb + 1) av A wr
  b : OwnI (rb + 1) bv B wr
  apart : ∀ q, av.ownBlock = some q → bv.ownBlock ≠ some q
  s : SBlk 23 rb s wr
  lt : rb + 1 ≤ wr.heap.size
theorem own_some {base : Nat} {v : Value} {x : Int} {zs : List Int} {w : World} (h : OwnI base v (x :: zs) w) : ∃ g cap, v = .slice (some ⟨g, 0, none⟩) (zs.length + 1) cap ∧ base ≤ g ∧ g < w.heap.size ∧ zs.length + 1 ≤ cap ∧ (cap : Int) ≤ 9223372036854775807 := by
  rcases h.2 with ⟨_, h0⟩ | ⟨g, cap, cur, rfl, hbase, hg, hc, hm, hs, ht⟩
  · cases h0
  · exact ⟨g, cap, rfl, hbase, (Array.getElem?_eq_some_iff.1 hg).1, hc, by unfold maxLen at hm; omega⟩
theorem Tw.start {rb : Nat} {s : Sty} {w w2 : World} (hb : Below rb w w2) (hs : SBlk 23 rb s w2) :
    Tw rb s w (.slice (some ⟨w2.heap.size, 0, none⟩) 1 1) (.slice (some ⟨w2.heap.size + 1, 0, none⟩) 1 1) [7] [0] ((w2.alloc (.cells #[.int .i64 7] 3)).alloc (.cells #[.int .i64 0] 3)) := by
  have hlt := hs.lt
  refine ⟨(hb.alloc (by omega) _).alloc (by simp; omega) _, ?_, ?_, (fun q h1 h2 => by simp [Value.ownBlock] at h1 h2; omega), (hs.alloc _).alloc _, by simp; omega⟩
  · have h : OwnI (rb + 1) (.slice (some ⟨w2.heap.size, 0, none⟩) 1 1) [7] (w2.alloc (.cells #[.int .i64 7] 3)) := World.ownsRow_lit w2 #[.int .i64 7] 1 (by omega) (by decide) rfl
    exact h.alloc _
  · have h := World.ownsRow_lit (e := 3) (base := rb + 1) (size := 1) (w2.alloc (.cells #[.int .i64 7] 3)) #[.int .i64 0] 1 (by simp; omega) (by decide) rfl
    rw [World.size_alloc] at h
    exact h
theorem apart_after {base b2 : Nat} {v v' bv : Value} {out B : List Int} {w w1 w' : World} (ha : Added base v out w1 v' w') (hb : OwnI b2 bv B w) (hw : w.heap.size ≤ w1.heap.size) (h : ∀ q, v.ownBlock = some q → bv.ownBlock ≠ some q) : ∀ q, v'.ownBlock = some q → bv.ownBlock ≠ some q := by
  intro q hq hq2
  rcases ha.block q hq with h1 | h1
  · exact h q h1 hq2
  · have := (World.ownsRow.lt hb q hq2).2
    omega
theorem Tw.moreA {rb : Nat} {s : Sty} {w wr w1 w' : World} {av av' bv : Value} {A B zs : List Int} (h : Tw rb s w av bv A B wr) (hb : Below wr.heap.size wr w1) (ha : Added (rb + 1) av (A ++ zs) w1 av' w') : Tw rb s w av' bv (A ++ zs) B w' := by
  have h0 : Below rb w w1 := h.below.trans (hb.mono (by have := h.lt; omega))
  have hbl : ∀ q, av.ownBlock = some q → rb + 1 ≤ q := fun q hq => h.a.ownBlock q hq
  refine ⟨h0.grown ha.grown (by have := h.lt; have := hb.size; omega) (fun q hq => by have := hbl q hq; omega), ha.own, ?_, apart_after ha h.b hb.size h.apart, (h.s.below hb h.s.lt).grown ha.grown (fun e => by have := hbl _ e; omega), Nat.le_trans h.lt (Nat.le_trans hb.size ha.grown.size)⟩
  refine World.ownsRow.kept (h.b.belowAll hb) ha.grown ?_
  cases hq : bv.ownBlock with
  | none => exact .inl rfl
  | some q => exact .inr (fun e => h.apart q e.symm hq)
theorem Tw.moreB {rb : Nat} {s : Sty} {w wr w1 w' : World} {av bv bv' : Value} {A B zs : List Int} (h : Tw rb s w av bv A B wr) (hb : Below wr.heap.size wr w1) (ha : Added (rb + 1) bv (B ++ zs) w1 bv' w') : Tw rb s w av bv' A (B ++ zs) w' := by
  have h' : Tw rb s w bv av B A wr := ⟨h.below, h.b, h.a, fun q h1 h2 => h.apart q h2 h1, h.s, h.lt⟩
  have k := h'.moreA hb ha
  exact ⟨k.below, k.b, k.a, fun q h1 h2 => k.apart q h2 h1, k.s, k.lt⟩
theorem Tw.drew {rb : Nat} {s : Sty} {w wr : World} {av bv : Value} {A B : List Int} (h : Tw rb s w av bv A B wr) : Tw rb s w av bv A B wr.drew :=
  ⟨h.below.drew, h.a.belowAll (Below.refl _ _).drew, h.b.belowAll (Below.refl _ _).drew, h.apart, h.s.below (Below.refl _ _).drew h.s.lt, h.lt⟩
/-- a step: new memory alone, or an append upon bv -/
def AddR (base : Nat) (bv : Value) (out : List Int) (u v : World) : Prop := Below u.heap.size u v ∨ ∃ v', Added base bv out u v' v
theorem AddR.size {base : Nat} {bv : Value} {out : List Int} {u v : World} (h : AddR base bv out u v) : u.heap.size ≤ v.heap.size := by
  rcases h with h | ⟨_, h⟩
  · exact h.size
  · exact h.grown.size
theorem AddR.ints {base : Nat} {bv : Value} {out : List Int} {u v : World} (h : AddR base bv out u v) {g n : Nat} {zs : List Int} (hi : IntsIn (some ⟨g, 0, none⟩) n zs u) (hne : ∀ q, bv.ownBlock = some q → q ≠ g) : IntsIn (some ⟨g, 0, none⟩) n zs v := by
  rcases h with h | ⟨_, h⟩
  · exact hi.belowAll h
  · refine ⟨hi.1, hi.2.imp id ?_⟩
    rintro ⟨b, off, e, hb, hc⟩
    cases e
    have hk : v.heap[g]? = u.heap[g]? := h.grown.block g hb (fun e => hne g e.symm rfl)
    exact ⟨g, 0, rfl, Nat.lt_of_lt_of_le hb h.grown.size, fun i hi' => by rw [← hc i hi']; simp [World.cell?, hk]⟩
theorem Tw.keepR {rb : Nat} {s : Sty} {w u v : World} {av bv x : Value} {A X out : List Int} (h : Tw rb s w av x A X u) (hap : ∀ q, av.ownBlock = some q → bv.ownBlock ≠ some q) (hbl : ∀ q, bv.ownBlock = some q → rb + 1 ≤ q) (hr : AddR (rb + 1) bv out u v) (hX : X <+: out) : Tw rb s w av x A X v := by
  rcases hr with hr | ⟨_, hr⟩
  · exact ⟨h.below.trans (hr.mono (by have := h.lt; omega)), h.a.belowAll hr, h.b.belowAll hr, h.apart, h.s.below hr h.s.lt, Nat.le_trans h.lt hr.size⟩
  · refine ⟨h.below.grown hr.grown (by have := h.lt; omega) (fun q hq => by have := hbl q hq; omega), ?_, hr.keeps _ _ hX h.b, h.apart, h.s.grown hr.grown (fun e => by have := hbl _ e; omega), Nat.le_trans h.lt hr.grown.size⟩
    refine World.ownsRow.kept h.a hr.grown ?_
    cases hq : av.ownBlock with
    | none => exact .inl rfl
    | some q => exact .inr (fun e => hap q hq e.symm)
/-- numbers upon none, in new memory -/
theorem append_new (base g : Nat) (a : Option Addr) (m c : Nat) (zs : List Int) (w : World) (h : IntsIn a m zs w) (hz0 : zs ≠ []) (hz : (zs.length : Int) ≤ 1000000) (hbase : base ≤ w.heap.size) :
    ∃ v' w', (Builtin.append_ #[24, 24] 24 #[.slice (some ⟨g, 0, none⟩) 0 0, .slice a m c]).run Try.prog w = .ok v' w' ∧ OwnI base v' zs w' ∧ Below w.heap.size w w' := by
  obtain ⟨i0, hi, hz1, hz2, hz3⟩ := info_parts W.infoInt
  obtain ⟨b, off, rfl, hb, hI⟩ := h.2.resolve_left hz0
  have hl := h.1
  have hpos : 0 < m := by rw [hl]; exact List.length_pos_iff.2 hz0
  obtain ⟨v', w', hr, hown, hgr⟩ := run_append_arg_grows w 24 24 3 i0 (.int .i64 0) 1 8 Try.underlying24 hi hz1 hz2 hz3 rfl (by decide) ⟨g, 0, none⟩ 0 0 [] rfl (fun j u hj => by simp at hj) ⟨b, off, none⟩ m c (zs.map inV) (by simp [hl])
    (fun j u hj => by
      have hadd : ((⟨b, off, none⟩ : Addr).add j) = ⟨b, off + j, none⟩ := by unfold Addr.add; split <;> simp_all
      rw [hadd]
      have hlt : j < zs.length := by have := (List.getElem?_eq_some_iff.1 hj).1; simpa using this
      rw [hI j hlt]
      simp [hlt] at hj ⊢
      exact hj) (by omega) (by unfold maxLen; omega) (by omega)
  rw [Nat.zero_add, List.nil_append, hl] at hown
  exact ⟨v', w', hr, own_weaken hown hbase, ⟨hgr.os, hgr.tape, hgr.output, hgr.size, fun k hk => hgr.block k hk (by simp)⟩⟩
/-- a step of the last line -/
def Ad2R (base : Nat) (out : List Int) (u v : World) : Prop := Below u.heap.size u v ∨ ∃ x v', (∀ q, x.ownBlock = some q → base ≤ q) ∧ base ≤ u.heap.size ∧ Added base x out u v' v
theorem Ad2R.below {base : Nat} {out : List Int} {w u v : World} (h : Ad2R base out u v) (hu : Below base w u) (hb : base ≤ u.heap.size) : Below base w v := by
  rcases h with h | ⟨x, _, h1, _, h2⟩
  · exact hu.trans (h.mono hb)
  · exact hu.grown h2.grown hb h1
theorem Ad2R.keeps {base : Nat} {out : List Int} {u v : World} (h : Ad2R base out u v) {x : Value} {ys : List Int} (hx : OwnI base x ys u) (hp : ys <+: out) : OwnI base x ys v := by
  rcases h with h | ⟨_, _, _, _, h⟩
  · exact hx.belowAll h
  · exact h.keeps x ys hp hx
structure Fin5 (rb : Nat) (s : Sty) (w wf : World) (ga NA gB oB mB : Nat) (A Bf : List Int) : Prop where
  a : IntsIn (some ⟨ga, 0, none⟩) NA (7 :: A) wf
  b : IntsIn (some ⟨gB, oB, none⟩) mB Bf wf
  sb : SBlk 23 rb s wf
  below : Below rb w wf
  set : setS (setS s (7 :: A)) Bf = setS s ((7 :: A) ++ Bf)
  n : mB = Bf.length
theorem take_snocI (zs : List Int) (j : Nat) (h : j < zs.length) : zs.take (j + 1) = zs.take j ++ [zs.getD j 0] := by
  rw [List.take_succ_eq_append_getElem h]; simp [List.getD_eq_getElem?_getD, h]

def AddOk (rb : Nat) (s : Sty) (w0 : World) (av : Value) (A B : List Int) (y : Int) (base g NB cap : Nat) (b off len2 cap2 j : Nat) : Nat → Value → World → Prop
  | 0, u, _ => u = .slice (some ⟨g, 0, none⟩) NB cap
  | 1, u, _ => u = .slice (some ⟨g, 0, none⟩) NB cap
  | 2, u, _ => u = .int .i64 (NB : Int)
  | 3, u, _ => u = .int .i64 (NB : Int)
  | 4, u, _ => u = .slice (some ⟨g, 0, none⟩) NB cap
  | 5, u, _ => u = .slice (some ⟨b, off, none⟩) len2 cap2
  | 6, u, _ => u = .int .i64 (j : Int)
  | 7, u, _ => u = .pointer (some ⟨b, off + j, none⟩)
  | 8, u, _ => u = .int .i64 y
  | 9, u, w => ∃ gn, u = .slice (some ⟨gn, 0, none⟩) 1 1 ∧ base ≤ gn ∧ IntsIn (some ⟨gn, 0, none⟩) 1 [y] w
  | 10, u, w => Tw rb s w0 av u A (B ++ [y]) w
  | _, _, _ => True
def TwiceOk (base : Nat) (s R1 R2 : Sty) (A B : List Int) (ga NA capA gB oB mB cB : Nat) : Nat → Value → World → Prop
  | 0, u, _ => u = sV s
  | 1, u, _ => u = .slice (some ⟨ga, 0, none⟩) NA capA
  | 2, u, _ => u = sV R1
  | 3, u, _ => u = .slice (some ⟨gB, oB, none⟩) mB cB
  | 4, u, _ => u = sV R2
  | 5, u, _ => u = sV s
  | 6, u, w => ∃ g, u = .slice (some ⟨g, 0, none⟩) 0 0
  | 7, u, _ => u = .slice (some ⟨ga, 0, none⟩) NA capA
  | 8, u, w => OwnI base u A w
  | 9, u, _ => u = .slice (some ⟨gB, oB, none⟩) mB cB
  | 10, u, w => OwnI base u (A ++ B) w
  | 11, u, _ => u = sV R2
  | 12, u, _ => u = .bool true
  | 13, u, _ => u = .bool true
  | _, _, _ => True
set_option maxRecDepth 100000 in
set_option maxHeartbeats 16000000 in
theorem twice_walk (s : Sty) (a1 : Option Addr) (len1 cap1 : Nat) (zs1 : List Int) (a2 : Option Addr) (len2 cap2 : Nat) (zs2 : List Int) (w : World) (hA1 : ArgI a1 len1 cap1 zs1 w) (hA2 : ArgI a2 len2 cap2 zs2 w) :
    Calls Try.prog 6 #[sV s, .slice a1 len1 cap1, .slice a2 len2 cap2] w fun e w' => e = .returned (.bool true) ∧ Below w.heap.size w w' := by
  obtain ⟨rb, hrb⟩ : ∃ rb, w.heap.size = rb := ⟨_, rfl⟩
  obtain ⟨w1, hw1⟩ : ∃ w1, w.alloc (.cells #[.int .i64 s.fore, .int .i64 s.back, .bool s.bold, .bool s.under, .bool s.inv] 23) = w1 := ⟨_, rfl⟩
  have hb1 : Below rb w w1 := by rw [← hw1, ← hrb]; exact (Below.refl _ _).alloc (Nat.le_refl _) _
  have hd1 : SBlk 23 rb s w1 := by rw [← hw1, ← hrb]; exact SBlk.new _ _ _
  have hlt1 : rb < w1.heap.size := hd1.lt
  have HB1 := Lib.hid hb1
  have HD1 := Lib.hid hd1
  have HW1 := Lib.hid hw1
  have HRb := Lib.hid hrb
  have HAw := Lib.hid (fun w => awake_any w)
  have HA1 := Lib.hid hA1
  have HA2 := Lib.hid hA2
  have hl1 : (len1 : Int) ≤ 9223372036854775807 := by have := hA1.fit; have := hA1.top; omega
  have hl2 : (len2 : Int) ≤ 9223372036854775807 := by have := hA2.fit; have := hA2.top; omega
  clear hb1 hd1 hw1 hrb hA1 hA2
  unfold sV
  go_enter Try.func6, Try.ntmps6
  go_upto_region 1 with fail
  rw [HW1.out, HRb.out]
  go_wp2_with fail
  refine (HAw.out _).mono ?_
  rintro e w2 ⟨rfl, hb2⟩
  have HB2 : Hid (Below rb w w2) := Lib.hid (HB1.out.trans (hb2.mono (by omega)))
  have HTw := Lib.hid (Tw.start HB2.out (HD1.out.below hb2 hlt1))
  obtain ⟨n2, hn2⟩ : ∃ n2, w2.heap.size = n2 := ⟨_, rfl⟩
  rw [hn2] at HTw
  have HN2 := Lib.hid hn2
  obtain ⟨w3, hw3⟩ : ∃ w3, (w2.alloc (.cells #[.int .i64 7] 3)).alloc (.cells #[.int .i64 0] 3) = w3 := ⟨_, rfl⟩
  rw [hw3] at HTw
  have HW3 := Lib.hid hw3
  clear hb2 HAw hn2 hw3
  go_upto_region 4 with fail
  rw [HW3.out, HN2.out]
  go_upto_block 0 with (fail)
  go_cut [7] (fun av wx => Hid (∃ A : List Int, Tw rb s w av (.slice (some ⟨n2 + 1, 0, none⟩) 1 1) (7 :: A) [0] wx ∧ A.length ≤ 12 ∧ ∀ x ∈ (7 : Int) :: A, ¬ taker x))
  case first =>
    go_wp2_with fail
    go_loopw [7, 9] (fun av i wr => ∃ j : Nat, i = .int .i64 (j : Int) ∧ j ≤ len1 ∧ j ≤ 12 ∧ Hid (Tw rb s w av (.slice (some ⟨n2 + 1, 0, none⟩) 1 1) (7 :: calm (zs1.take j)) [0] wr)) (fun _ i _ => 12 - (intOf i).toNat)
    case atStart => exact ⟨0, rfl, by omega, by omega, HTw⟩
    case round =>
      obtain ⟨j, rfl, hj, hj12, HT⟩ := hrel
      by_cases hlt : j < len1 ∧ j < 12
      · obtain ⟨hlt1', hlt2⟩ := hlt
        have hd1 : decide (j < len1) = true := by simp; omega
        have hd2 : decide ((j : Int) < 12) = true := by simp; omega
        have hjl : j < zs1.length := by have := HA1.out.rs.1; omega
        obtain ⟨b, off, rfl, hbl, hI⟩ := HA1.out.rs.2.resolve_left (by intro e; rw [e] at hjl; simp at hjl)
        have hbb : b < rb := by rw [← HRb.out]; exact hbl
        have hc := (HT.out.below.cell (p := ⟨b, off + j, none⟩) hbb).trans (hI j hjl)
        have hts := take_snocI zs1 j hjl
        obtain ⟨z, hz⟩ : ∃ z, zs1.getD j 0 = z := ⟨_, rfl⟩
        rw [hz] at hc hts
        have hcs := calm_snoc (zs1.take j) z
        rw [← hts] at hcs
        have HCs := Lib.hid hcs
        have hlen : (((7 : Int) :: calm (zs1.take j)).length : Int) ≤ 1000 := by
          have h1 := calm_len (zs1.take j)
          have h2 := List.length_take_le j zs1
          simp only [List.length_cons]; omega
        have HLen := Lib.hid hlen
        clear hI hts hz hcs hlen hbl hjl
        by_cases hk : z ≠ 38 ∧ z ≠ 48
        · have q1 : (z != 38) = true := by rw [bne_iff_ne]; exact hk.1
          have q2 : (z != 48) = true := by rw [bne_iff_ne]; exact hk.2
          have hE : calm (zs1.take (j + 1)) = calm (zs1.take j) ++ [z] := by rw [HCs.out, if_pos hk]
          have HE := Lib.hid hE
          obtain ⟨g, cap, rfl, hg1, hg2, hg3, hg4⟩ := own_some HT.out.a
          clear hk hE
          go_wp2_with (at_builtin; refine wpList_append_keeps rfl _ _ rfl rfl (rb + 1) _ (7 :: calm (zs1.take j)) (some ⟨wr.heap.size, 0, none⟩) 1 1 [z] rfl rfl (HT.out.a.alloc _) (ints_one _ _ _) (fun e => by cases e) (by have := HLen.out; omega) (by simp) (by have := HT.out.lt; simp; omega) ?_)
          intro v' w' hadd
          have HT' : Hid (Tw rb s w v' (.slice (some ⟨n2 + 1, 0, none⟩) 1 1) (7 :: calm (zs1.take (j + 1))) [0] w') := Lib.hid (by rw [HE.out]; exact HT.out.moreA ((Below.refl _ _).alloc (Nat.le_refl _) _) hadd)
          clear hadd
          go_wp2
          go_roundw
          case rel => exact ⟨j + 1, by go_num, by omega, by omega, HT'⟩
          case measure => simp [intOf]; omega
        · have hE : calm (zs1.take (j + 1)) = calm (zs1.take j) := by rw [HCs.out, if_neg hk, List.append_nil]
          have HT' : Hid (Tw rb s w u7 (.slice (some ⟨n2 + 1, 0, none⟩) 1 1) (7 :: calm (zs1.take (j + 1))) [0] wr) := Lib.hid (by rw [hE]; exact HT.out)
          have hk2 : z = 38 ∨ z = 48 := by omega
          clear hE hk
          rcases hk2 with rfl | rfl
          all_goals
            go_wp2
            go_roundw
            case rel => exact ⟨j + 1, by go_num, by omega, by omega, HT'⟩
            case measure => simp [intOf]; omega
      · have hcond : decide (j < len1) = false ∨ (decide (j < len1) = true ∧ decide ((j : Int) < 12) = false) := by
          by_cases h : j < len1
          · right; exact ⟨by simp; omega, by simp; omega⟩
          · left; simp; omega
        have HT' : Hid (∃ A : List Int, Tw rb s w u7 (.slice (some ⟨n2 + 1, 0, none⟩) 1 1) (7 :: A) [0] wr ∧ A.length ≤ 12 ∧ ∀ x ∈ (7 : Int) :: A, ¬ taker x) := Lib.hid ⟨calm (zs1.take j), HT.out, by
          have h1 := calm_len (zs1.take j)
          have h2 := List.length_take_le j zs1
          omega, calm_ok _⟩
        rcases hcond with h1 | ⟨h1, h2⟩
        all_goals
          go_wp2
          go_meet
          exact HT'
  case rest =>
  obtain ⟨A, hTw, hAl, hAc⟩ := hcut.out
  obtain ⟨av, hav⟩ : ∃ av, av = u7 := ⟨_, rfl⟩
  subst hav
  obtain ⟨w4, hw4⟩ : ∃ w4, w4 = wc := ⟨_, rfl⟩
  subst hw4
  have HTa := Lib.hid hTw
  have HAc := Lib.hid hAc
  have HAl := Lib.hid hAl
  clear hcut hTw hAc hAl HTw HW3 HA1 HB2 HN2 HD1 HB1
  go_upto_block 2 with (fail)
  go_cut [8] (fun bv wx => Hid (∃ B : List Int, Tw rb s w av bv (7 :: A) (0 :: B) wx ∧ B.length ≤ 12))
  case first =>
    go_wp2_with fail
    go_loopw [8, 10] (fun bv i wr => ∃ j : Nat, i = .int .i64 (j : Int) ∧ j ≤ len2 ∧ j ≤ 12 ∧ Hid (∃ B : List Int, B.length = j ∧ Tw rb s w av bv (7 :: A) (0 :: B) wr)) (fun _ i _ => 12 - (intOf i).toNat)
    case atStart => exact ⟨0, rfl, by omega, by omega, Lib.hid ⟨[], rfl, HTa.out⟩⟩
    case round =>
      obtain ⟨j, rfl, hj, hj12, HT⟩ := hrel
      obtain ⟨B, hBj, hT⟩ := HT.out
      by_cases hlt : j < len2 ∧ j < 12
      · obtain ⟨hlt1', hlt2⟩ := hlt
        have hd1 : decide (j < len2) = true := by simp; omega
        have hd2 : decide ((j : Int) < 12) = true := by simp; omega
        have hjl : j < zs2.length := by have := HA2.out.rs.1; omega
        obtain ⟨b, off, rfl, hbl, hI⟩ := HA2.out.rs.2.resolve_left (by intro e; rw [e] at hjl; simp at hjl)
        have hbb : b < rb := by rw [← HRb.out]; exact hbl
        have HC := Lib.hid (hI j hjl)
        obtain ⟨y, hz⟩ : ∃ y, zs2.getD j 0 = y := ⟨_, rfl⟩
        rw [hz] at HC
        obtain ⟨g, cap, hbv, hg1, hg2, hg3, hg4⟩ := own_some hT.b
        obtain ⟨NB, hNB⟩ : ∃ NB, B.length + 1 = NB := ⟨_, rfl⟩
        rw [hNB] at hbv hg3
        subst hbv
        have hNBj : NB = j + 1 := by omega
        have HNBj := Lib.hid hNBj
        have hNB1 : 1 ≤ NB := by omega
        have hNB13 : NB ≤ 13 := by omega
        have HT1 := Lib.hid hT
        obtain ⟨base, hbase⟩ : ∃ base, wr.heap.size = base := ⟨_, rfl⟩
        have HBase := Lib.hid hbase
        have hg2' : g < base := by omega
        clear hI hz hbl hjl hT HT hNB hbase hg2 hNBj
        go_wp2_with fail
        refine R.wp_region_tailV 11 (by kernel_rfl) (fun u => Tw rb s w av (.slice (some ⟨g, 0, none⟩) NB cap) (7 :: A) (0 :: B) u ∧ base ≤ u.heap.size) (AddR (rb + 1) (.slice (some ⟨g, 0, none⟩) NB cap) (0 :: (B ++ [y]))) (AddOk rb s w av (7 :: A) (0 :: B) y base g NB cap b off len2 cap2 j) (by rfl) (by kernel_rfl) (by decide) (by kernel_rfl) (by kernel_rfl) (by kernel_rfl) ?hC ?hOk ?hop ?hdone ⟨HT1.out.drew, Nat.le_of_eq HBase.out.symm⟩
        case hC => exact fun u v hu huv => ⟨hu.1.keepR HT1.out.apart HT1.out.b.ownBlock huv ⟨[y], by simp⟩, Nat.le_trans hu.2 huv.size⟩
        case hOk =>
          intro i x u u' hv huu
          unfold AddOk at hv ⊢
          split at hv
          all_goals first | exact hv | trivial | skip
          · obtain ⟨gn, h1, h2, h3⟩ := hv
            refine ⟨gn, h1, h2, huu.ints h3 (fun q hq => ?_)⟩
            have : q = g := by simpa [Value.ownBlock] using hq.symm
            omega
          · exact hv.keepR HT1.out.apart HT1.out.b.ownBlock huu ⟨[], by simp⟩
        case hop =>
          refine ⟨?_, ?_, ?_, ?_, ?_, ?_, ?_, ?_, ?_, ?_, ?_, trivial⟩
          · intro z v hz hag hdep
            refine .inl ⟨rfl, fun K hK => ?_⟩
            have d8 : z.tmps.getD 8 undef = .slice (some ⟨g, 0, none⟩) NB cap := hag.2.2 8 (by kernel_rfl)
            have e8 := d8
            rw [Array.getD_eq_getD_getElem?] at e8
            clear hdep hag
            go_simp
            exact hK _ _ (.inl (Below.refl _ _)) rfl
          · intro z v hz hag hdep
            refine .inl ⟨rfl, fun K hK => ?_⟩
            have d8 : z.tmps.getD 8 undef = .slice (some ⟨g, 0, none⟩) NB cap := hag.2.2 8 (by kernel_rfl)
            have e8 := d8
            rw [Array.getD_eq_getD_getElem?] at e8
            clear hdep hag
            go_simp
            exact hK _ _ (.inl (Below.refl _ _)) rfl
          · intro z v hz hag hdep
            refine .inl ⟨rfl, fun K hK => ?_⟩
            have d55 : AddOk rb s w av (7 :: A) (0 :: B) y base g NB cap b off len2 cap2 j 1 (z.tmps.getD 55 undef) v := hdep { on := 1, ground := .data } (by simp) rfl _ _ rfl rfl
            simp only [AddOk] at d55
            have e55 := d55
            rw [Array.getD_eq_getD_getElem?] at e55
            clear hdep hag
            go_simp
            exact hK _ _ (.inl (Below.refl _ _)) rfl
          · intro z v hz hag hdep
            refine .inl ⟨rfl, fun K hK => ?_⟩
            have d56 : AddOk rb s w av (7 :: A) (0 :: B) y base g NB cap b off len2 cap2 j 2 (z.tmps.getD 56 undef) v := hdep { on := 2, ground := .data } (by simp) rfl _ _ rfl rfl
            simp only [AddOk] at d56
            have e56 := d56
            rw [Array.getD_eq_getD_getElem?] at e56
            clear hdep hag
            have hmx : max (1 : Int) (NB : Int) = (NB : Int) := by omega
            go_simp
            exact hK _ _ (.inl (Below.refl _ _)) rfl
          · intro z v hz hag hdep
            refine .inl ⟨rfl, fun K hK => ?_⟩
            have d54 : AddOk rb s w av (7 :: A) (0 :: B) y base g NB cap b off len2 cap2 j 0 (z.tmps.getD 54 undef) v := hdep { on := 0, ground := .data } (by simp) rfl _ _ rfl rfl
            simp only [AddOk] at d54
            have e54 := d54
            rw [Array.getD_eq_getD_getElem?] at e54
            have d57 : AddOk rb s w av (7 :: A) (0 :: B) y base g NB cap b off len2 cap2 j 3 (z.tmps.getD 57 undef) v := hdep { on := 3, ground := .data } (by simp) rfl _ _ rfl rfl
            simp only [AddOk] at d57
            have e57 := d57
            rw [Array.getD_eq_getD_getElem?] at e57
            clear hdep hag
            have hle : (NB : Int) ≤ cap := by omega
            go_simp
            exact hK _ _ (.inl (Below.refl _ _)) rfl
          · intro z v hz hag hdep
            refine .inl ⟨rfl, fun K hK => ?_⟩
            have d2 : z.tmps.getD 2 undef = .slice (some ⟨b, off, none⟩) len2 cap2 := hag.2.2 2 (by kernel_rfl)
            have e2 := d2
            rw [Array.getD_eq_getD_getElem?] at e2
            clear hdep hag
            go_simp
            exact hK _ _ (.inl (Below.refl _ _)) rfl
          · intro z v hz hag hdep
            refine .inl ⟨rfl, fun K hK => ?_⟩
            have d10 : z.tmps.getD 10 undef = .int .i64 (j : Int) := hag.2.2 10 (by kernel_rfl)
            have e10 := d10
            rw [Array.getD_eq_getD_getElem?] at e10
            clear hdep hag
            go_simp
            exact hK _ _ (.inl (Below.refl _ _)) rfl
          · intro z v hz hag hdep
            refine .inl ⟨rfl, fun K hK => ?_⟩
            have d59 : AddOk rb s w av (7 :: A) (0 :: B) y base g NB cap b off len2 cap2 j 5 (z.tmps.getD 59 undef) v := hdep { on := 5, ground := .data } (by simp) rfl _ _ rfl rfl
            simp only [AddOk] at d59
            have e59 := d59
            rw [Array.getD_eq_getD_getElem?] at e59
            have d60 : AddOk rb s w av (7 :: A) (0 :: B) y base g NB cap b off len2 cap2 j 6 (z.tmps.getD 60 undef) v := hdep { on := 6, ground := .data } (by simp) rfl _ _ rfl rfl
            simp only [AddOk] at d60
            have e60 := d60
            rw [Array.getD_eq_getD_getElem?] at e60
            clear hdep hag
            go_simp
            exact hK _ _ (.inl (Below.refl _ _)) rfl
          · intro z v hz hag hdep
            refine .inl ⟨rfl, fun K hK => ?_⟩
            have d61 : AddOk rb s w av (7 :: A) (0 :: B) y base g NB cap b off len2 cap2 j 7 (z.tmps.getD 61 undef) v := hdep { on := 7, ground := .data } (by simp) rfl _ _ rfl rfl
            simp only [AddOk] at d61
            have e61 := d61
            rw [Array.getD_eq_getD_getElem?] at e61
            clear hdep hag
            have hcl := (hz.1.below.cell (p := ⟨b, off + j, none⟩) hbb).trans HC.out
            go_simp
            exact hK _ _ (.inl (Below.refl _ _)) rfl
          · intro z v hz hag hdep
            refine .inl ⟨rfl, fun K hK => ?_⟩
            have d62 : AddOk rb s w av (7 :: A) (0 :: B) y base g NB cap b off len2 cap2 j 8 (z.tmps.getD 62 undef) v := hdep { on := 8, ground := .data } (by simp) rfl _ _ rfl rfl
            simp only [AddOk] at d62
            have e62 := d62
            rw [Array.getD_eq_getD_getElem?] at e62
            clear hdep hag
            go_simp
            exact hK _ _ (.inl ((Below.refl _ _).alloc (Nat.le_refl _) _)) ⟨_, rfl, hz.2, ints_one _ _ _⟩
          · intro z v hz hag hdep
            refine .inl ⟨rfl, fun K hK => ?_⟩
            have d58 : AddOk rb s w av (7 :: A) (0 :: B) y base g NB cap b off len2 cap2 j 4 (z.tmps.getD 58 undef) v := hdep { on := 4, ground := .data } (by simp) rfl _ _ rfl rfl
            simp only [AddOk] at d58
            have e58 := d58
            rw [Array.getD_eq_getD_getElem?] at e58
            have d63 : AddOk rb s w av (7 :: A) (0 :: B) y base g NB cap b off len2 cap2 j 9 (z.tmps.getD 63 undef) v := hdep { on := 9, ground := .data } (by simp) rfl _ _ rfl rfl
            simp only [AddOk] at d63
            obtain ⟨x63, e63⟩ : ∃ x, z.tmps.getD 63 undef = x := ⟨_, rfl⟩
            rw [e63] at d63
            rw [Array.getD_eq_getD_getElem?] at e63
            obtain ⟨gn63, rfl, hg63, hi63⟩ := d63
            clear hdep hag
            obtain ⟨v', w', hr, hadd⟩ := append_keeps (rb + 1) (.slice (some ⟨g, 0, none⟩) NB cap) (0 :: B) (some ⟨gn63, 0, none⟩) 1 1 [y] v hz.1.b hi63 (fun e => by cases e) (by simp only [List.length_cons]; omega) (by simp) (by have := hz.1.lt; omega)
            unfold Oper.wp execOp
            simp only [resolve, invoke, builtin, Sem.run_bind, Sem.run_pure, Result.andThen_ok, List.map_toArray, List.map_cons, List.map_nil, Act.eval, d58, Array.getD_eq_getD_getElem?, e63, hr]
            exact hK _ _ (.inr ⟨_, hadd⟩) (hz.1.moreB (Below.refl _ _) hadd)
        case hdone =>
          intro z0 u hu hag hok hno
          clear hno
          have d64 : AddOk rb s w av (7 :: A) (0 :: B) y base g NB cap b off len2 cap2 j 10 (z0.tmps.getD 64 undef) u := hok 10 _ 64 (by decide) rfl rfl
          simp only [AddOk] at d64
          obtain ⟨uu, huu, hzz⟩ := Go.Proofs.Ytfapmgecebcfaaa.R.agree_frame [54, 55, 56, 57, 58, 59, 60, 61, 62, 63, 64] rfl hag
          obtain ⟨v', hv'⟩ : ∃ v', z0.tmps.getD 64 undef = v' := ⟨_, rfl⟩
          rw [hv'] at d64
          have e64 := (huu 64).trans hv'
          subst hzz
          have HR : Hid (∃ B' : List Int, B'.length = j + 1 ∧ Tw rb s w av v' (7 :: A) (0 :: B') u) := Lib.hid ⟨B ++ [y], by simp; omega, d64⟩
          clear d64 hag hok hu huu hv'
          simp only [List.foldl_cons, List.foldl_nil]
          rw [e64]
          clear e64
          dsimp only [List.drop]
          go_wp2
          go_roundw
          case rel => exact ⟨j + 1, by go_num, by omega, by omega, HR⟩
          case measure => simp [intOf]; omega
      · have hcond : decide (j < len2) = false ∨ (decide (j < len2) = true ∧ decide ((j : Int) < 12) = false) := by
          by_cases h : j < len2
          · right; exact ⟨by simp; omega, by simp; omega⟩
          · left; simp; omega
        have HT' : Hid (∃ B : List Int, Tw rb s w av u8 (7 :: A) (0 :: B) wr ∧ B.length ≤ 12) := Lib.hid ⟨B, hT, by omega⟩
        clear hT HT
        rcases hcond with h1 | ⟨h1, h2⟩
        all_goals
          go_wp2
          go_meet
          exact HT'
  case rest =>
  obtain ⟨B, hTw, hBl⟩ := hcut.out
  obtain ⟨w5, hw5⟩ : ∃ w5, w5 = wc := ⟨_, rfl⟩
  subst hw5
  obtain ⟨ga, capA, hav, hga1, hga2, hga3, hga4⟩ := own_some hTw.a
  obtain ⟨gb, capB, hbv, hgb1, hgb2, hgb3, hgb4⟩ := own_some hTw.b
  obtain ⟨NA, hNA⟩ : ∃ NA, A.length + 1 = NA := ⟨_, rfl⟩
  obtain ⟨NB, hNB⟩ : ∃ NB, B.length + 1 = NB := ⟨_, rfl⟩
  rw [hNA] at hav hga3
  rw [hNB] at hbv hgb3
  obtain rfl := hav
  obtain rfl := hbv
  have HT5 := Lib.hid hTw
  have HNA := Lib.hid hNA
  have HNB := Lib.hid hNB
  have hNA13 : NA ≤ 13 := by have := HAl.out; omega
  have hNB13 : NB ≤ 13 := by omega
  have hNB1 : 1 ≤ NB := by omega
  clear hcut hTw hNA hNB hBl
  by_cases hB : NB = 1
  · have hB1 := Lib.hid hB
    subst hB
    go_upto_region 16 with fail
    obtain ⟨wf, hwf⟩ : ∃ wf, w5.alloc (.cells #[.int .i64 4] 3) = wf := ⟨_, rfl⟩
    have hTf : Fin5 rb s w wf ga NA w5.heap.size 0 1 A [4] := by
      obtain ⟨_, _, he, hIa, _⟩ := HT5.out.a.shape
      cases he
      have hbel : Below w5.heap.size w5 wf := by rw [← hwf]; exact (Below.refl _ _).alloc (Nat.le_refl _) _
      have hi4 : IntsIn (some ⟨w5.heap.size, 0, none⟩) 1 [4] wf := by rw [← hwf]; exact ints_one _ _ _
      refine ⟨?_, hi4, HT5.out.s.below hbel HT5.out.s.lt, HT5.out.below.trans (hbel.mono (by have := HT5.out.lt; omega)), set_twice s (7 :: A) [4] HAc.out (by simp) (by simp), rfl⟩
      rw [← HNA.out]
      exact hIa.belowAll hbel
    obtain ⟨gB, hgB⟩ : ∃ gB, w5.heap.size = gB := ⟨_, rfl⟩
    rw [hwf, hgB]
    rw [hgB] at hTf
    have HIa := Lib.hid hTf.a
    have HIb := Lib.hid hTf.b
    have HSb := Lib.hid hTf.sb
    have HBf := Lib.hid hTf.below
    have HSet := Lib.hid hTf.set
    have HBn := Lib.hid hTf.n
    have HA13 : Hid (((7 : Int) :: A).length ≤ 13) := Lib.hid (by have := HAl.out; simp only [List.length_cons]; omega)
    have HB13 : Hid (([4] : List Int).length ≤ 13) := Lib.hid (by rw [← HBn.out]; omega)
    have hlz : rb < wf.heap.size := HSb.out.lt
    clear hTf
    refine R.wp_region_rel (by kernel_rfl) (fun u => Below wf.heap.size wf u) (Ad2R wf.heap.size ((7 :: A) ++ [4])) (TwiceOk wf.heap.size s (setS s (7 :: A)) (setS s ((7 :: A) ++ [4])) (7 :: A) [4] ga NA capA gB 0 1 1) (by rfl) (by kernel_rfl) (by kernel_rfl) ?hC ?hOk ?hop ?hdone ((Below.refl _ _).drew)
    case hC => exact fun u v hu huv => huv.below hu hu.size
    case hOk =>
      intro i x u u' hv huu
      unfold TwiceOk at hv ⊢
      split at hv
      all_goals first | exact hv | exact huu.keeps hv ⟨[4], rfl⟩ | exact huu.keeps hv ⟨[], by simp⟩ | trivial
    case hop =>
      refine ⟨?_, ?_, ?_, ?_, ?_, ?_, ?_, ?_, ?_, ?_, ?_, ?_, ?_, ?_, trivial⟩
      · intro z v hz hag hdep
        refine .inl ⟨rfl, fun K hK => ?_⟩
        have d3 : z.tmps.getD 3 undef = .pointer (some ⟨rb, 0, none⟩) := hag.2.2 3 (by kernel_rfl)
        have e3 := d3
        rw [Array.getD_eq_getD_getElem?] at e3
        clear hdep hag
        have hsb := HSb.out.below hz hlz
        have c0 := hsb.c0
        have c1 := hsb.c1
        have c2 := hsb.c2
        have c3 := hsb.c3
        have c4 := hsb.c4
        clear hsb
        go_simp
        exact hK _ _ (.inl (Below.refl _ _)) rfl
      · intro z v hz hag hdep
        refine .inl ⟨rfl, fun K hK => ?_⟩
        have d7 : z.tmps.getD 7 undef = .slice (some ⟨ga, 0, none⟩) NA capA := hag.2.2 7 (by kernel_rfl)
        have e7 := d7
        rw [Array.getD_eq_getD_getElem?] at e7
        clear hdep hag
        go_simp
        exact hK _ _ (.inl (Below.refl _ _)) rfl
      · intro z v hz hag hdep
        refine .inl ⟨rfl, fun K hK => ?_⟩
        have d71 : TwiceOk wf.heap.size s (setS s (7 :: A)) (setS s ((7 :: A) ++ [4])) (7 :: A) [4] ga NA capA gB 0 1 1 0 (z.tmps.getD 71 undef) v := hdep { on := 0, ground := .data } (by simp) rfl _ _ rfl rfl
        simp only [TwiceOk] at d71
        have e71 := d71
        rw [Array.getD_eq_getD_getElem?] at e71
        have d72 : TwiceOk wf.heap.size s (setS s (7 :: A)) (setS s ((7 :: A) ++ [4])) (7 :: A) [4] ga NA capA gB 0 1 1 1 (z.tmps.getD 72 undef) v := hdep { on := 1, ground := .data } (by simp) rfl _ _ rfl rfl
        simp only [TwiceOk] at d72
        have e72 := d72
        rw [Array.getD_eq_getD_getElem?] at e72
        clear hdep hag
        have HCl := Lib.hid (set_any s (some ⟨ga, 0, none⟩) NA capA (7 :: A) (by omega) (by omega) v (HIa.out.belowAll hz))
        go_simp
        refine HCl.out.mono ?_
        rintro e w' ⟨rfl, hb⟩
        exact hK _ _ (.inl hb) rfl
      · intro z v hz hag hdep
        refine .inl ⟨rfl, fun K hK => ?_⟩
        have d8 : z.tmps.getD 8 undef = .slice (some ⟨gB, 0, none⟩) (1) (1) := hag.2.2 8 (by kernel_rfl)
        have e8 := d8
        rw [Array.getD_eq_getD_getElem?] at e8
        clear hdep hag
        go_simp
        exact hK _ _ (.inl (Below.refl _ _)) rfl
      · intro z v hz hag hdep
        refine .inl ⟨rfl, fun K hK => ?_⟩
        have d73 : TwiceOk wf.heap.size s (setS s (7 :: A)) (setS s ((7 :: A) ++ [4])) (7 :: A) [4] ga NA capA gB 0 1 1 2 (z.tmps.getD 73 undef) v := hdep { on := 2, ground := .data } (by simp) rfl _ _ rfl rfl
        simp only [TwiceOk] at d73
        have e73 := d73
        rw [Array.getD_eq_getD_getElem?] at e73
        have d74 : TwiceOk wf.heap.size s (setS s (7 :: A)) (setS s ((7 :: A) ++ [4])) (7 :: A) [4] ga NA capA gB 0 1 1 3 (z.tmps.getD 74 undef) v := hdep { on := 3, ground := .data } (by simp) rfl _ _ rfl rfl
        simp only [TwiceOk] at d74
        have e74 := d74
        rw [Array.getD_eq_getD_getElem?] at e74
        clear hdep hag
        have HCl := Lib.hid (set_any (setS s (7 :: A)) (some ⟨gB, 0, none⟩) (1) (1) [4] (by omega) (by omega) v (HIb.out.belowAll hz))
        rw [HSet.out] at HCl
        go_simp
        refine HCl.out.mono ?_
        rintro e w' ⟨rfl, hb⟩
        exact hK _ _ (.inl hb) rfl
      · intro z v hz hag hdep
        refine .inl ⟨rfl, fun K hK => ?_⟩
        have d3 : z.tmps.getD 3 undef = .pointer (some ⟨rb, 0, none⟩) := hag.2.2 3 (by kernel_rfl)
        have e3 := d3
        rw [Array.getD_eq_getD_getElem?] at e3
        clear hdep hag
        have hsb := HSb.out.below hz hlz
        have c0 := hsb.c0
        have c1 := hsb.c1
        have c2 := hsb.c2
        have c3 := hsb.c3
        have c4 := hsb.c4
        clear hsb
        go_simp
        exact hK _ _ (.inl (Below.refl _ _)) rfl
      · intro z v hz hag hdep
        refine .inl ⟨rfl, fun K hK => ?_⟩
        clear hdep hag
        go_simp
        exact hK _ _ (.inl ((Below.refl _ _).alloc (Nat.le_refl _) _)) ⟨_, rfl⟩
      · intro z v hz hag hdep
        refine .inl ⟨rfl, fun K hK => ?_⟩
        have d7 : z.tmps.getD 7 undef = .slice (some ⟨ga, 0, none⟩) NA capA := hag.2.2 7 (by kernel_rfl)
        have e7 := d7
        rw [Array.getD_eq_getD_getElem?] at e7
        clear hdep hag
        go_simp
        exact hK _ _ (.inl (Below.refl _ _)) rfl
      · intro z v hz hag hdep
        refine .inl ⟨rfl, fun K hK => ?_⟩
        have d77 : TwiceOk wf.heap.size s (setS s (7 :: A)) (setS s ((7 :: A) ++ [4])) (7 :: A) [4] ga NA capA gB 0 1 1 6 (z.tmps.getD 77 undef) v := hdep { on := 6, ground := .data } (by simp) rfl _ _ rfl rfl
        simp only [TwiceOk] at d77
        obtain ⟨x77, e77⟩ : ∃ x, z.tmps.getD 77 undef = x := ⟨_, rfl⟩
        rw [e77] at d77
        rw [Array.getD_eq_getD_getElem?] at e77
        obtain ⟨g77, rfl⟩ := d77
        have d78 : TwiceOk wf.heap.size s (setS s (7 :: A)) (setS s ((7 :: A) ++ [4])) (7 :: A) [4] ga NA capA gB 0 1 1 7 (z.tmps.getD 78 undef) v := hdep { on := 7, ground := .data } (by simp) rfl _ _ rfl rfl
        simp only [TwiceOk] at d78
        have e78 := d78
        rw [Array.getD_eq_getD_getElem?] at e78
        clear hdep hag
        obtain ⟨v', w', hr, h1, h2⟩ := append_new wf.heap.size g77 (some ⟨ga, 0, none⟩) NA capA (7 :: A) v (HIa.out.belowAll hz) (by simp) (by have := HA13.out; omega) hz.size
        unfold Oper.wp execOp
        simp only [resolve, invoke, builtin, Sem.run_bind, Sem.run_pure, Result.andThen_ok, List.map_toArray, List.map_cons, List.map_nil, Act.eval, d78, Array.getD_eq_getD_getElem?, e77, hr]
        exact hK _ _ (.inl h2) h1
      · intro z v hz hag hdep
        refine .inl ⟨rfl, fun K hK => ?_⟩
        have d8 : z.tmps.getD 8 undef = .slice (some ⟨gB, 0, none⟩) (1) (1) := hag.2.2 8 (by kernel_rfl)
        have e8 := d8
        rw [Array.getD_eq_getD_getElem?] at e8
        clear hdep hag
        go_simp
        exact hK _ _ (.inl (Below.refl _ _)) rfl
      · intro z v hz hag hdep
        refine .inl ⟨rfl, fun K hK => ?_⟩
        have d79 : TwiceOk wf.heap.size s (setS s (7 :: A)) (setS s ((7 :: A) ++ [4])) (7 :: A) [4] ga NA capA gB 0 1 1 8 (z.tmps.getD 79 undef) v := hdep { on := 8, ground := .data } (by simp) rfl _ _ rfl rfl
        simp only [TwiceOk] at d79
        obtain ⟨x79, e79⟩ : ∃ x, z.tmps.getD 79 undef = x := ⟨_, rfl⟩
        rw [e79] at d79
        rw [Array.getD_eq_getD_getElem?] at e79
        have d80 : TwiceOk wf.heap.size s (setS s (7 :: A)) (setS s ((7 :: A) ++ [4])) (7 :: A) [4] ga NA capA gB 0 1 1 9 (z.tmps.getD 80 undef) v := hdep { on := 9, ground := .data } (by simp) rfl _ _ rfl rfl
        simp only [TwiceOk] at d80
        have e80 := d80
        rw [Array.getD_eq_getD_getElem?] at e80
        clear hdep hag
        obtain ⟨v', w', hr, hadd⟩ := append_keeps wf.heap.size x79 (7 :: A) (some ⟨gB, 0, none⟩) (1) (1) [4] v d79 (HIb.out.belowAll hz) (fun e => by cases e) (by have := HA13.out; omega) (by have := HB13.out; omega) hz.size
        unfold Oper.wp execOp
        simp only [resolve, invoke, builtin, Sem.run_bind, Sem.run_pure, Result.andThen_ok, List.map_toArray, List.map_cons, List.map_nil, Act.eval, d80, Array.getD_eq_getD_getElem?, e79, hr]
        exact hK _ _ (.inr ⟨x79, v', d79.ownBlock, hz.size, hadd⟩) hadd.own
      · intro z v hz hag hdep
        refine .inl ⟨rfl, fun K hK => ?_⟩
        have d76 : TwiceOk wf.heap.size s (setS s (7 :: A)) (setS s ((7 :: A) ++ [4])) (7 :: A) [4] ga NA capA gB 0 1 1 5 (z.tmps.getD 76 undef) v := hdep { on := 5, ground := .data } (by simp) rfl _ _ rfl rfl
        simp only [TwiceOk] at d76
        have e76 := d76
        rw [Array.getD_eq_getD_getElem?] at e76
        have d81 : TwiceOk wf.heap.size s (setS s (7 :: A)) (setS s ((7 :: A) ++ [4])) (7 :: A) [4] ga NA capA gB 0 1 1 10 (z.tmps.getD 81 undef) v := hdep { on := 10, ground := .data } (by simp) rfl _ _ rfl rfl
        simp only [TwiceOk] at d81
        obtain ⟨x81, e81⟩ : ∃ x, z.tmps.getD 81 undef = x := ⟨_, rfl⟩
        rw [e81] at d81
        rw [Array.getD_eq_getD_getElem?] at e81
        clear hdep hag
        obtain ⟨L, hL⟩ : ∃ L, (7 :: A) ++ [4] = L := ⟨_, rfl⟩
        rw [hL] at d81
        obtain ⟨ax, cx, rfl, hix, _, _, hx1, hx2⟩ := OwnI.shape d81
        obtain ⟨nL, hnL⟩ : ∃ nL, L.length = nL := ⟨_, rfl⟩
        rw [hnL] at e81 hix hx1
        have HL := Lib.hid hL
        have HCl := Lib.hid (set_any s ax nL cx L (by omega) hx2 v hix)
        clear hix hx1 hx2 d81 hL hnL
        go_simp
        refine HCl.out.mono ?_
        rintro e w' ⟨rfl, hb⟩
        exact hK _ _ (.inl hb) (by show sV _ = sV _; rw [HL.out])
      · intro z v hz hag hdep
        refine .inl ⟨rfl, fun K hK => ?_⟩
        have d75 : TwiceOk wf.heap.size s (setS s (7 :: A)) (setS s ((7 :: A) ++ [4])) (7 :: A) [4] ga NA capA gB 0 1 1 4 (z.tmps.getD 75 undef) v := hdep { on := 4, ground := .data } (by simp) rfl _ _ rfl rfl
        simp only [TwiceOk] at d75
        have e75 := d75
        rw [Array.getD_eq_getD_getElem?] at e75
        have d82 : TwiceOk wf.heap.size s (setS s (7 :: A)) (setS s ((7 :: A) ++ [4])) (7 :: A) [4] ga NA capA gB 0 1 1 11 (z.tmps.getD 82 undef) v := hdep { on := 11, ground := .data } (by simp) rfl _ _ rfl rfl
        simp only [TwiceOk] at d82
        have e82 := d82
        rw [Array.getD_eq_getD_getElem?] at e82
        clear hdep hag
        obtain ⟨R2, hR2⟩ : ∃ R2, setS s ((7 :: A) ++ [4]) = R2 := ⟨_, rfl⟩
        rw [hR2] at e75 e82
        clear hR2 d75 d82 HSet
        unfold sV at e75 e82
        go_simp
        exact hK _ _ (.inl (Below.refl _ _)) rfl
      · intro z v hz hag hdep
        refine .inl ⟨rfl, fun K hK => ?_⟩
        have d83 : TwiceOk wf.heap.size s (setS s (7 :: A)) (setS s ((7 :: A) ++ [4])) (7 :: A) [4] ga NA capA gB 0 1 1 12 (z.tmps.getD 83 undef) v := hdep { on := 12, ground := .data } (by simp) rfl _ _ rfl rfl
        simp only [TwiceOk] at d83
        have e83 := d83
        rw [Array.getD_eq_getD_getElem?] at e83
        clear hdep hag
        go_simp
        exact hK _ _ (.inl (Below.refl _ _)) rfl
    case hdone =>
      intro z u hu hag hall
      have hres : TwiceOk wf.heap.size s (setS s (7 :: A)) (setS s ((7 :: A) ++ [4])) (7 :: A) [4] ga NA capA gB 0 1 1 13 (z.tmps.getD 6 undef) u := hall 13 _ _ rfl rfl
      simp only [TwiceOk] at hres
      have hdef := hag.1
      go_wp2
      exact bodyPost_ret (results_tmp rfl _ _ _) hdef ⟨by rw [hres], by rw [HRb.out]; exact HBf.out.trans (hu.mono (Nat.le_of_lt hlz))⟩
  · have hne : ¬ capB = 1 := by omega
    have hnz : ¬ NB - 1 = 0 := by omega
    go_upto_region 16 with fail
    have hTf : Fin5 rb s w w5 ga NA gb 1 (NB - 1) A B := by
      have hBne : B ≠ [] := by
        intro e
        have := HNB.out
        rw [e] at this
        exact hB this.symm
      obtain ⟨_, _, he, hIa, _⟩ := HT5.out.a.shape
      cases he
      obtain ⟨_, _, he, hIb, _⟩ := HT5.out.b.shape
      cases he
      refine ⟨?_, ?_, HT5.out.s, HT5.out.below, set_twice s (7 :: A) B HAc.out (by simp) hBne, ?_⟩
      · rw [← HNA.out]; exact hIa
      · have h := ints_drop hIb (j := 1) (by simp)
        rw [← HNB.out]
        simpa using h
      · have := HNB.out; omega
    have HIa := Lib.hid hTf.a
    have HIb := Lib.hid hTf.b
    have HSb := Lib.hid hTf.sb
    have HBf := Lib.hid hTf.below
    have HSet := Lib.hid hTf.set
    have HBn := Lib.hid hTf.n
    have HA13 : Hid (((7 : Int) :: A).length ≤ 13) := Lib.hid (by have := HAl.out; simp only [List.length_cons]; omega)
    have HB13 : Hid ((B : List Int).length ≤ 13) := Lib.hid (by rw [← HBn.out]; omega)
    have hlz : rb < w5.heap.size := HSb.out.lt
    clear hTf
    refine R.wp_region_rel (by kernel_rfl) (fun u => Below w5.heap.size w5 u) (Ad2R w5.heap.size ((7 :: A) ++ B)) (TwiceOk w5.heap.size s (setS s (7 :: A)) (setS s ((7 :: A) ++ B)) (7 :: A) B ga NA capA gb 1 (NB - 1) (capB - 1)) (by rfl) (by kernel_rfl) (by kernel_rfl) ?hC ?hOk ?hop ?hdone ((Below.refl _ _).drew)
    case hC => exact fun u v hu huv => huv.below hu hu.size
    case hOk =>
      intro i x u u' hv huu
      unfold TwiceOk at hv ⊢
      split at hv
      all_goals first | exact hv | exact huu.keeps hv ⟨B, rfl⟩ | exact huu.keeps hv ⟨[], by simp⟩ | trivial
    case hop =>
      refine ⟨?_, ?_, ?_, ?_, ?_, ?_, ?_, ?_, ?_, ?_, ?_, ?_, ?_, ?_, trivial⟩
      · intro z v hz hag hdep
        refine .inl ⟨rfl, fun K hK => ?_⟩
        have d3 : z.tmps.getD 3 undef = .pointer (some ⟨rb, 0, none⟩) := hag.2.2 3 (by kernel_rfl)
        have e3 := d3
        rw [Array.getD_eq_getD_getElem?] at e3
        clear hdep hag
        have hsb := HSb.out.below hz hlz
        have c0 := hsb.c0
        have c1 := hsb.c1
        have c2 := hsb.c2
        have c3 := hsb.c3
        have c4 := hsb.c4
        clear hsb
        go_simp
        exact hK _ _ (.inl (Below.refl _ _)) rfl
      · intro z v hz hag hdep
        refine .inl ⟨rfl, fun K hK => ?_⟩
        have d7 : z.tmps.getD 7 undef = .slice (some ⟨ga, 0, none⟩) NA capA := hag.2.2 7 (by kernel_rfl)
        have e7 := d7
        rw [Array.getD_eq_getD_getElem?] at e7
        clear hdep hag
        go_simp
        exact hK _ _ (.inl (Below.refl _ _)) rfl
      · intro z v hz hag hdep
        refine .inl ⟨rfl, fun K hK => ?_⟩
        have d71 : TwiceOk w5.heap.size s (setS s (7 :: A)) (setS s ((7 :: A) ++ B)) (7 :: A) B ga NA capA gb 1 (NB - 1) (capB - 1) 0 (z.tmps.getD 71 undef) v := hdep { on := 0, ground := .data } (by simp) rfl _ _ rfl rfl
        simp only [TwiceOk] at d71
        have e71 := d71
        rw [Array.getD_eq_getD_getElem?] at e71
        have d72 : TwiceOk w5.heap.size s (setS s (7 :: A)) (setS s ((7 :: A) ++ B)) (7 :: A) B ga NA capA gb 1 (NB - 1) (capB - 1) 1 (z.tmps.getD 72 undef) v := hdep { on := 1, ground := .data } (by simp) rfl _ _ rfl rfl
        simp only [TwiceOk] at d72
        have e72 := d72
        rw [Array.getD_eq_getD_getElem?] at e72
        clear hdep hag
        have HCl := Lib.hid (set_any s (some ⟨ga, 0, none⟩) NA capA (7 :: A) (by omega) (by omega) v (HIa.out.belowAll hz))
        go_simp
        refine HCl.out.mono ?_
        rintro e w' ⟨rfl, hb⟩
        exact hK _ _ (.inl hb) rfl
      · intro z v hz hag hdep
        refine .inl ⟨rfl, fun K hK => ?_⟩
        have d8 : z.tmps.getD 8 undef = .slice (some ⟨gb, 1, none⟩) ((NB - 1)) ((capB - 1)) := hag.2.2 8 (by kernel_rfl)
        have e8 := d8
        rw [Array.getD_eq_getD_getElem?] at e8
        clear hdep hag
        go_simp
        exact hK _ _ (.inl (Below.refl _ _)) rfl
      · intro z v hz hag hdep
        refine .inl ⟨rfl, fun K hK => ?_⟩
        have d73 : TwiceOk w5.heap.size s (setS s (7 :: A)) (setS s ((7 :: A) ++ B)) (7 :: A) B ga NA capA gb 1 (NB - 1) (capB - 1) 2 (z.tmps.getD 73 undef) v := hdep { on := 2, ground := .data } (by simp) rfl _ _ rfl rfl
        simp only [TwiceOk] at d73
        have e73 := d73
        rw [Array.getD_eq_getD_getElem?] at e73
        have d74 : TwiceOk w5.heap.size s (setS s (7 :: A)) (setS s ((7 :: A) ++ B)) (7 :: A) B ga NA capA gb 1 (NB - 1) (capB - 1) 3 (z.tmps.getD 74 undef) v := hdep { on := 3, ground := .data } (by simp) rfl _ _ rfl rfl
        simp only [TwiceOk] at d74
        have e74 := d74
        rw [Array.getD_eq_getD_getElem?] at e74
        clear hdep hag
        have HCl := Lib.hid (set_any (setS s (7 :: A)) (some ⟨gb, 1, none⟩) ((NB - 1)) ((capB - 1)) B (by omega) (by omega) v (HIb.out.belowAll hz))
        rw [HSet.out] at HCl
        go_simp
        refine HCl.out.mono ?_
        rintro e w' ⟨rfl, hb⟩
        exact hK _ _ (.inl hb) rfl
      · intro z v hz hag hdep
        refine .inl ⟨rfl, fun K hK => ?_⟩
        have d3 : z.tmps.getD 3 undef = .pointer (some ⟨rb, 0, none⟩) := hag.2.2 3 (by kernel_rfl)
        have e3 := d3
        rw [Array.getD_eq_getD_getElem?] at e3
        clear hdep hag
        have hsb := HSb.out.below hz hlz
        have c0 := hsb.c0
        have c1 := hsb.c1
        have c2 := hsb.c2
        have c3 := hsb.c3
        have c4 := hsb.c4
        clear hsb
        go_simp
        exact hK _ _ (.inl (Below.refl _ _)) rfl
      · intro z v hz hag hdep
        refine .inl ⟨rfl, fun K hK => ?_⟩
        clear hdep hag
        go_simp
        exact hK _ _ (.inl ((Below.refl _ _).alloc (Nat.le_refl _) _)) ⟨_, rfl⟩
      · intro z v hz hag hdep
        refine .inl ⟨rfl, fun K hK => ?_⟩
        have d7 : z.tmps.getD 7 undef = .slice (some ⟨ga, 0, none⟩) NA capA := hag.2.2 7 (by kernel_rfl)
        have e7 := d7
        rw [Array.getD_eq_getD_getElem?] at e7
        clear hdep hag
        go_simp
        exact hK _ _ (.inl (Below.refl _ _)) rfl
      · intro z v hz hag hdep
        refine .inl ⟨rfl, fun K hK => ?_⟩
        have d77 : TwiceOk w5.heap.size s (setS s (7 :: A)) (setS s ((7 :: A) ++ B)) (7 :: A) B ga NA capA gb 1 (NB - 1) (capB - 1) 6 (z.tmps.getD 77 undef) v := hdep { on := 6, ground := .data } (by simp) rfl _ _ rfl rfl
        simp only [TwiceOk] at d77
        obtain ⟨x77, e77⟩ : ∃ x, z.tmps.getD 77 undef = x := ⟨_, rfl⟩
        rw [e77] at d77
        rw [Array.getD_eq_getD_getElem?] at e77
        obtain ⟨g77, rfl⟩ := d77
        have d78 : TwiceOk w5.heap.size s (setS s (7 :: A)) (setS s ((7 :: A) ++ B)) (7 :: A) B ga NA capA gb 1 (NB - 1) (capB - 1) 7 (z.tmps.getD 78 undef) v := hdep { on := 7, ground := .data } (by simp) rfl _ _ rfl rfl
        simp only [TwiceOk] at d78
        have e78 := d78
        rw [Array.getD_eq_getD_getElem?] at e78
        clear hdep hag
        obtain ⟨v', w', hr, h1, h2⟩ := append_new w5.heap.size g77 (some ⟨ga, 0, none⟩) NA capA (7 :: A) v (HIa.out.belowAll hz) (by simp) (by have := HA13.out; omega) hz.size
        unfold Oper.wp execOp
        simp only [resolve, invoke, builtin, Sem.run_bind, Sem.run_pure, Result.andThen_ok, List.map_toArray, List.map_cons, List.map_nil, Act.eval, d78, Array.getD_eq_getD_getElem?, e77, hr]
        exact hK _ _ (.inl h2) h1
      · intro z v hz hag hdep
        refine .inl ⟨rfl, fun K hK => ?_⟩
        have d8 : z.tmps.getD 8 undef = .slice (some ⟨gb, 1, none⟩) ((NB - 1)) ((capB - 1)) := hag.2.2 8 (by kernel_rfl)
        have e8 := d8
        rw [Array.getD_eq_getD_getElem?] at e8
        clear hdep hag
        go_simp
        exact hK _ _ (.inl (Below.refl _ _)) rfl
      · intro z v hz hag hdep
        refine .inl ⟨rfl, fun K hK => ?_⟩
        have d79 : TwiceOk w5.heap.size s (setS s (7 :: A)) (setS s ((7 :: A) ++ B)) (7 :: A) B ga NA capA gb 1 (NB - 1) (capB - 1) 8 (z.tmps.getD 79 undef) v := hdep { on := 8, ground := .data } (by simp) rfl _ _ rfl rfl
        simp only [TwiceOk] at d79
        obtain ⟨x79, e79⟩ : ∃ x, z.tmps.getD 79 undef = x := ⟨_, rfl⟩
        rw [e79] at d79
        rw [Array.getD_eq_getD_getElem?] at e79
        have d80 : TwiceOk w5.heap.size s (setS s (7 :: A)) (setS s ((7 :: A) ++ B)) (7 :: A) B ga NA capA gb 1 (NB - 1) (capB - 1) 9 (z.tmps.getD 80 undef) v := hdep { on := 9, ground := .data } (by simp) rfl _ _ rfl rfl
        simp only [TwiceOk] at d80
        have e80 := d80
        rw [Array.getD_eq_getD_getElem?] at e80
        clear hdep hag
        obtain ⟨v', w', hr, hadd⟩ := append_keeps w5.heap.size x79 (7 :: A) (some ⟨gb, 1, none⟩) ((NB - 1)) ((capB - 1)) B v d79 (HIb.out.belowAll hz) (fun e => by cases e) (by have := HA13.out; omega) (by have := HB13.out; omega) hz.size
        unfold Oper.wp execOp
        simp only [resolve, invoke, builtin, Sem.run_bind, Sem.run_pure, Result.andThen_ok, List.map_toArray, List.map_cons, List.map_nil, Act.eval, d80, Array.getD_eq_getD_getElem?, e79, hr]
        exact hK _ _ (.inr ⟨x79, v', d79.ownBlock, hz.size, hadd⟩) hadd.own
      · intro z v hz hag hdep
        refine .inl ⟨rfl, fun K hK => ?_⟩
        have d76 : TwiceOk w5.heap.size s (setS s (7 :: A)) (setS s ((7 :: A) ++ B)) (7 :: A) B ga NA capA gb 1 (NB - 1) (capB - 1) 5 (z.tmps.getD 76 undef) v := hdep { on := 5, ground := .data } (by simp) rfl _ _ rfl rfl
        simp only [TwiceOk] at d76
        have e76 := d76
        rw [Array.getD_eq_getD_getElem?] at e76
        have d81 : TwiceOk w5.heap.size s (setS s (7 :: A)) (setS s ((7 :: A) ++ B)) (7 :: A) B ga NA capA gb 1 (NB - 1) (capB - 1) 10 (z.tmps.getD 81 undef) v := hdep { on := 10, ground := .data } (by simp) rfl _ _ rfl rfl
        simp only [TwiceOk] at d81
        obtain ⟨x81, e81⟩ : ∃ x, z.tmps.getD 81 undef = x := ⟨_, rfl⟩
        rw [e81] at d81
        rw [Array.getD_eq_getD_getElem?] at e81
        clear hdep hag
        obtain ⟨L, hL⟩ : ∃ L, (7 :: A) ++ B = L := ⟨_, rfl⟩
        rw [hL] at d81
        obtain ⟨ax, cx, rfl, hix, _, _, hx1, hx2⟩ := OwnI.shape d81
        obtain ⟨nL, hnL⟩ : ∃ nL, L.length = nL := ⟨_, rfl⟩
        rw [hnL] at e81 hix hx1
        have HL := Lib.hid hL
        have HCl := Lib.hid (set_any s ax nL cx L (by omega) hx2 v hix)
        clear hix hx1 hx2 d81 hL hnL
        go_simp
        refine HCl.out.mono ?_
        rintro e w' ⟨rfl, hb⟩
        exact hK _ _ (.inl hb) (by show sV _ = sV _; rw [HL.out])
      · intro z v hz hag hdep
        refine .inl ⟨rfl, fun K hK => ?_⟩
        have d75 : TwiceOk w5.heap.size s (setS s (7 :: A)) (setS s ((7 :: A) ++ B)) (7 :: A) B ga NA capA gb 1 (NB - 1) (capB - 1) 4 (z.tmps.getD 75 undef) v := hdep { on := 4, ground := .data } (by simp) rfl _ _ rfl rfl
        simp only [TwiceOk] at d75
        have e75 := d75
        rw [Array.getD_eq_getD_getElem?] at e75
        have d82 : TwiceOk w5.heap.size s (setS s (7 :: A)) (setS s ((7 :: A) ++ B)) (7 :: A) B ga NA capA gb 1 (NB - 1) (capB - 1) 11 (z.tmps.getD 82 undef) v := hdep { on := 11, ground := .data } (by simp) rfl _ _ rfl rfl
        simp only [TwiceOk] at d82
        have e82 := d82
        rw [Array.getD_eq_getD_getElem?] at e82
        clear hdep hag
        obtain ⟨R2, hR2⟩ : ∃ R2, setS s ((7 :: A) ++ B) = R2 := ⟨_, rfl⟩
        rw [hR2] at e75 e82
        clear hR2 d75 d82 HSet
        unfold sV at e75 e82
        go_simp
        exact hK _ _ (.inl (Below.refl _ _)) rfl
      · intro z v hz hag hdep
        refine .inl ⟨rfl, fun K hK => ?_⟩
        have d83 : TwiceOk w5.heap.size s (setS s (7 :: A)) (setS s ((7 :: A) ++ B)) (7 :: A) B ga NA capA gb 1 (NB - 1) (capB - 1) 12 (z.tmps.getD 83 undef) v := hdep { on := 12, ground := .data } (by simp) rfl _ _ rfl rfl
        simp only [TwiceOk] at d83
        have e83 := d83
        rw [Array.getD_eq_getD_getElem?] at e83
        clear hdep hag
        go_simp
        exact hK _ _ (.inl (Below.refl _ _)) rfl
    case hdone =>
      intro z u hu hag hall
      have hres : TwiceOk w5.heap.size s (setS s (7 :: A)) (setS s ((7 :: A) ++ B)) (7 :: A) B ga NA capA gb 1 (NB - 1) (capB - 1) 13 (z.tmps.getD 6 undef) u := hall 13 _ _ rfl rfl
      simp only [TwiceOk] at hres
      have hdef := hag.1
      go_wp2
      exact bodyPost_ret (results_tmp rfl _ _ _) hdef ⟨by rw [hres], by rw [HRb.out]; exact HBf.out.trans (hu.mono (Nat.le_of_lt hlz))⟩
end Go.Proofs.Ytfapmgecebcfaaa.Z
