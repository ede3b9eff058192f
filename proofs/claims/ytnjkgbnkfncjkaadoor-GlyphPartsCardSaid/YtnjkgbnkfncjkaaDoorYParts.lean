/- GlyphParts: in whatever parts bytes come, the runes are the same: the walk. -/
import Derived.Test.YtnjkgbnkfncjkaaDoorYDec
import Derived.Lib.MinMax
import Derived.Deep.DeepCutAuto
import Derived.Deep.RegionWith
namespace Go.Proofs.YtnjkgbnkfncjkaaDoor.Y
open Go.RowKit
open Go.Proofs.YtnjkgbnkfncjkaaDoor.W (OwnR OwnI RunesIn IntsIn isRune runes_one ints_one wpList_append_ints wpList_append_runes grownBy_of_below)

theorem OwnR_mono {b b' : Nat} {v : Value} {zs : List Int} {w : World} (h : OwnR b v zs w) (hb : b' ≤ b) : OwnR b' v zs w := by
  refine ⟨h.1, h.2.imp id ?_⟩
  rintro ⟨g, cap, cur, e, hbg, r⟩
  exact ⟨g, cap, cur, e, Nat.le_trans hb hbg, r⟩
theorem own_apart {B : Nat} {u v : Value} (hu : ∀ k, u.ownBlock = some k → k < B) (hv : ∀ k, v.ownBlock = some k → B ≤ k) : v.ownBlock = none ∨ v.ownBlock ≠ u.ownBlock := by
  cases hvb : v.ownBlock with
  | none => exact .inl rfl
  | some k =>
    refine .inr fun e => ?_
    have := hu k e.symm
    have := hv k hvb
    omega
/-- append of runes, behind a guard that holds. -/
theorem wpList_append_runes_g {ops : Array Oper} {rest : List Oper} {o : Oper} {z : Act} {w : World} {Q : Exit → Act → World → Prop} (hgd : Region.wanted o (yielded ops z.tmps) = true) (s x : Operand)
    (ho : o.op = .call { callee := .builtin .append, args := #[s, x], argTypes := #[26, 26] }) (hty : o.type = 26)
    (base : Nat) (v : Value) (xs : List Int) (a : Option Addr) (m c : Nat) (zs : List Int) (hs : z.eval s = v) (hxv : z.eval x = .slice a m c) (hown : OwnR base v xs w) (h : RunesIn a m zs w) (hnil : a = none → c = 0) (hx : (xs.length : Int) ≤ 1000000) (hz : (zs.length : Int) ≤ 1000000) (hbase : base ≤ w.heap.size)
    (hK : ∀ v' w', OwnR base v' (xs ++ zs) w' → w.grownBy w' v.ownBlock → wpList Tryd.prog ops Q rest (z.put o.dst v') w') : wpList Tryd.prog ops Q (o :: rest) z w := by
  unfold wpList
  rw [if_pos hgd]
  refine .inl ?_
  obtain ⟨v', w', hr, h1, h2⟩ := W.append_runes_run base v xs a m c zs w hown h hnil hx hz hbase
  unfold Oper.wp execOp
  simp only [ho, hty, resolve, invoke, builtin, Sem.run_bind, Sem.run_pure, Result.andThen_ok, List.map_toArray, List.map_cons, List.map_nil, hs, hxv, hr]
  exact hK v' w' h1 h2

/-- What stands behind the second run. -/
structure Got (base ob db1 db2 : Nat) (d1 d2 : St) (q1 q2 : List Nat) (v1 : Value) (a2 : Option Addr) (w wx : World) : Prop where
  below : Below base w wx
  b1 : DBlk db1 (.int .u8 (d1.lead : Int)) (.int .i32 (d1.rune : Int)) (.int .i64 (d1.need : Int)) wx
  b2 : DBlk db2 (.int .u8 (d2.lead : Int)) (.int .i32 (d2.rune : Int)) (.int .i64 (d2.need : Int)) wx
  o1 : OwnR ob v1 (toI q1) wx
  i2 : RunesIn a2 q2.length (toI q2) wx

theorem got_a {base ob db1 : Nat} {d1 d2 : St} {q1 q2 : List Nat} {v1 : Value} {a2 : Option Addr} {c2 : Nat} {w w3 w4 : World} (h3 : Below base w w3) (hle : base ≤ w3.heap.size) (hd : DBlk db1 (.int .u8 (d1.lead : Int)) (.int .i32 (d1.rune : Int)) (.int .i64 (d1.need : Int)) w3) (ho : OwnR ob v1 (toI q1) w3)
    (h2 : OwnR w3.heap.size (.slice a2 q2.length c2) (toI q2) w4) (hb : Below w3.heap.size w3.drew w4) :
    (a2 = none → c2 = 0) ∧ base ≤ w4.heap.size ∧ db1 < w4.heap.size ∧ Got base ob db1 w4.heap.size d1 d2 q1 q2 v1 a2 w (w4.alloc (.cells #[.int .u8 (d2.lead : Int), .int .i32 (d2.rune : Int), .int .i64 (d2.need : Int)] 25)) := by
  obtain ⟨a', c', hv, hin, hnil⟩ := toI_shape h2
  injection hv with hv1 _ hv2
  subst hv1 hv2
  have hs : w3.heap.size ≤ w4.heap.size := hb.size
  have hd' : DBlk db1 (.int .u8 (d1.lead : Int)) (.int .i32 (d1.rune : Int)) (.int .i64 (d1.need : Int)) w4 := (hb.block db1 hd.lt).trans hd
  have ho' : OwnR ob v1 (toI q1) w4 := OwnR.belowAll (w := w3.drew) ho hb
  exact ⟨hnil, by omega, by have := hd.lt; omega, ⟨(h3.drew.trans (hb.mono hle)).alloc (by omega) _, hd'.alloc _, DBlk.new _ _ _ _, ho'.alloc _, hin.belowAll ((Below.refl _ _).alloc (Nat.le_refl _) _)⟩⟩
theorem got_b {base ob db1 db2 : Nat} {d1 d2 : St} {q1 q2 : List Nat} {v1 x y u : Value} {a2 : Option Addr} {c2 : Nat} {w wz w4 : World} (hz : Below base w wz) (hle : base ≤ wz.heap.size) (hd : DBlk db1 (.int .u8 (d1.lead : Int)) (.int .i32 (d1.rune : Int)) (.int .i64 (d1.need : Int)) wz) (ho : OwnR ob v1 (toI q1) wz)
    (h2 : OwnR wz.heap.size (.slice a2 q2.length c2) (toI q2) w4) (hb : Below wz.heap.size wz.drew w4) (hne : db1 ≠ db2) (hdb : base ≤ db2) (hd2 : DBlk db2 x y u w4) :
    (a2 = none → c2 = 0) ∧ base ≤ w4.heap.size ∧ db1 < w4.heap.size ∧ Got base ob db1 db2 d1 d2 q1 q2 v1 a2 w (set3 w4 db2 (.int .u8 (d2.lead : Int)) (.int .i32 (d2.rune : Int)) (.int .i64 (d2.need : Int))) := by
  have hs : wz.heap.size ≤ w4.heap.size := hb.size
  have hd' : DBlk db1 (.int .u8 (d1.lead : Int)) (.int .i32 (d1.rune : Int)) (.int .i64 (d1.need : Int)) w4 := (hb.block db1 hd.lt).trans hd
  have ho' : OwnR ob v1 (toI q1) w4 := OwnR.belowAll (w := wz.drew) ho hb
  have h2' := own_set3 (a' := .int .u8 (d2.lead : Int)) (b' := .int .i32 (d2.rune : Int)) (c' := .int .i64 (d2.need : Int)) h2 hd2
  obtain ⟨a', c', hv, hin, hnil⟩ := toI_shape h2'
  injection hv with hv1 _ hv2
  subst hv1 hv2
  exact ⟨hnil, by omega, by have := hd.lt; omega, ⟨below_set3 (hz.drew.trans (hb.mono hle)) hdb, ((hd'.other hne _).other hne _).other hne _, hd2.set3, own_set3 ho' hd2, hin⟩⟩

set_option maxRecDepth 100000 in
set_option maxHeartbeats 8000000 in
theorem parts_walk (s : ByteArray) (z : Int) (hs : (s.size : Int) ≤ 9223372036854775807) (w : World) (hT : Tab w) :
    Calls Tryd.prog 4 #[.string s, .int .i64 z] w fun e w' => e = .returned (.bool true) ∧ Below w.heap.size w w' := by
  have H1 := Lib.hid (awake_any w hT)
  have HS := Lib.hid hs
  obtain ⟨base, hbase⟩ : ∃ base, w.heap.size = base := ⟨_, rfl⟩
  have HTB : Hid (∀ w', Below base w w' → Tab w') := Lib.hid (fun w' h => hT.belowAll (by rw [hbase]; exact h))
  have HBs := Lib.hid hbase
  rw [hbase]
  clear hT hs hbase
  go_enter Tryd.func4, Tryd.ntmps4
  go_wp2_with fail
  refine H1.out.mono ?_
  rintro e w1 ⟨rfl, hb1⟩
  rw [HBs.out] at hb1
  have hl1 := hb1.size
  rw [HBs.out] at hl1
  have HB1 := Lib.hid hb1
  clear hb1 H1
  go_wp2_with fail
  refine (cut_any s 80 HS.out (by decide) _).mono ?_
  rintro e w' ⟨⟨t, rfl, hts, htl⟩, rfl⟩
  clear htl
  obtain ⟨p, hp⟩ : ∃ p : Nat, max (0 : Int) (min z (t.size : Int)) = (p : Int) := ⟨(max (0 : Int) (min z (t.size : Int))).toNat, by omega⟩
  have hpt : p ≤ t.size := by omega
  obtain ⟨L, hL⟩ : ∃ L, t.data.toList = L := ⟨_, rfl⟩
  have ht1 : (t.extract 0 p).data.toList = L.take p := by rw [← hL]; simp
  have ht2 : (t.extract p t.size).data.toList = L.drop p := by
    rw [← hL]
    simp
    exact List.take_of_length_le (by rw [List.length_drop]; exact Nat.le_refl _)
  have hs1 : ((t.extract 0 p).size : Int) ≤ 400000 := by simp; omega
  have hs2 : ((t.extract p t.size).size : Int) ≤ 400000 := by simp; omega
  have hLt : L.length = t.size := by rw [← hL]; rfl
  have hrun1 := run_any .zero zero_sound (t.extract 0 p) hs1 w1 (HTB.out w1 HB1.out)
  unfold RunPost at hrun1
  rw [ht1] at hrun1
  have hsnd1 := (run_sound (L.take p) .zero zero_sound).1
  have happ := runS_append (L.take p) (L.drop p) .zero
  rw [List.take_append_drop] at happ
  have hcnt := run_count L .zero
  rw [show opn .zero = 0 from rfl] at hcnt
  have hval := (run_sound L .zero zero_sound).2
  obtain ⟨⟨⟨l1, r1, n1⟩, q1⟩, hx1⟩ : ∃ x, runS .zero (L.take p) = x := ⟨_, rfl⟩
  rw [hx1] at hrun1 hsnd1 happ
  simp only at hsnd1 happ
  obtain ⟨⟨⟨l2, r2, n2⟩, q2⟩, hx2⟩ : ∃ x, runS ⟨l1, r1, n1⟩ (L.drop p) = x := ⟨_, rfl⟩
  rw [hx2] at happ
  simp only at happ
  rw [happ] at hcnt hval
  simp only at hcnt hval
  obtain ⟨q, hq⟩ : ∃ q, q1 ++ q2 = q := ⟨_, rfl⟩
  have hql : q1.length + q2.length = q.length := by rw [← hq, List.length_append]
  rw [hq] at happ hcnt hval
  have hrun2 : ∀ w', Tab w' → Calls Tryd.prog 14 #[decV ⟨l1, r1, n1⟩, .string (t.extract p t.size)] w' (RunPost ⟨l2, r2, n2⟩ q2 w') := fun w' hT' => by
    have h := run_any ⟨l1, r1, n1⟩ hsnd1 (t.extract p t.size) hs2 w' hT'
    rw [ht2, hx2] at h
    exact h
  have hrun3 : ∀ w', Tab w' → Calls Tryd.prog 14 #[decV .zero, .string t] w' (RunPost ⟨l2, r2, n2⟩ q w') := fun w' hT' => by
    have h := run_any .zero zero_sound t (by omega) w' hT'
    rw [hL, happ] at h
    exact h
  simp only [decV, St.zero] at hrun1 hrun2 hrun3
  have HRun1 := Lib.hid hrun1
  have HRun2 := Lib.hid hrun2
  have HRun3 := Lib.hid hrun3
  have HX := Lib.hid happ
  have HL := Lib.hid hL
  have HVal := Lib.hid hval
  have HLt := Lib.hid hLt
  have hq80 : q.length ≤ 80 := by omega
  have hq1 : q1.length + q2.length ≤ 80 := by omega
  have HQ := Lib.hid hq
  clear hrun1 hrun2 hrun3 hsnd1 hcnt hval happ hx1 hx2 hL ht1 ht2 hs1 hs2 hLt hq hql
  go_wp2_with fail
  refine HRun1.out.mono ?_
  rintro e w2 ⟨v1, rfl, hown1, hb2⟩
  obtain ⟨a1, c1, rfl, hin1, hnil1⟩ := toI_shape hown1
  obtain ⟨w3, hw3⟩ : ∃ w3, w2.alloc (.cells #[.int .u8 (l1 : Int), .int .i32 (r1 : Int), .int .i64 (n1 : Int)] 25) = w3 := ⟨_, rfl⟩
  obtain ⟨db1, hdb1⟩ : ∃ db, w2.heap.size = db := ⟨_, rfl⟩
  have hb3 : Below w2.heap.size w2 w3 := by rw [← hw3]; exact (Below.refl _ _).alloc (Nat.le_refl _) _
  have hd3 : DBlk db1 (.int .u8 (l1 : Int)) (.int .i32 (r1 : Int)) (.int .i64 (n1 : Int)) w3 := by rw [← hw3, ← hdb1]; exact DBlk.new _ _ _ _
  have hle2 : base ≤ w2.heap.size := Nat.le_trans hl1 hb2.size
  have hle3 : base ≤ w3.heap.size := Nat.le_trans hle2 hb3.size
  have HB3 : Hid (Below base w w3) := Lib.hid ((HB1.out.trans (hb2.mono hl1)).trans (hb3.mono hle2))
  have HOwn3 : Hid (OwnR base (.slice a1 q1.length c1) (toI q1) w3) := Lib.hid (OwnR_mono (hown1.belowAll hb3) hl1)
  have HV1 : Hid (∀ k, (Value.slice a1 q1.length c1).ownBlock = some k → k < db1) := Lib.hid (fun k hk => by rw [← hdb1]; exact (World.ownsRow.lt hown1 k hk).2)
  have HD3 := Lib.hid hd3
  have HW3 := Lib.hid hw3
  have HDb1 := Lib.hid hdb1
  have HR2a := Lib.hid (HRun2.out w3.drew (HTB.out w3.drew HB3.out.drew))
  obtain ⟨wz, hwz⟩ : ∃ wz, w3.alloc (.cells #[.int .u8 0, .int .i32 0, .int .i64 0] 25) = wz := ⟨_, rfl⟩
  have hbz : Below w3.heap.size w3 wz := by rw [← hwz]; exact (Below.refl _ _).alloc (Nat.le_refl _) _
  have HDz : Hid (DBlk w3.heap.size (.int .u8 0) (.int .i32 0) (.int .i64 0) wz) := Lib.hid (by rw [← hwz]; exact DBlk.new _ _ _ _)
  have HBz : Hid (Below base w wz) := Lib.hid (HB3.out.trans (hbz.mono hle3))
  have HOwnz := Lib.hid (HOwn3.out.belowAll hbz)
  have HD1z := Lib.hid (HD3.out.below hbz HD3.out.lt)
  have hlez : base ≤ wz.heap.size := Nat.le_trans hle3 hbz.size
  have HR2b := Lib.hid (HRun2.out wz.drew (HTB.out wz.drew HBz.out.drew))
  have HDzd : Hid (DBlk w3.heap.size (.int .u8 0) (.int .i32 0) (.int .i64 0) wz.drew) := Lib.hid HDz.out
  unfold RunPost at HR2a HR2b
  simp only [decV] at HR2a HR2b
  have k0 := hd3.c0
  have k1 := hd3.c1
  have k2 := hd3.c2
  have m0 := HD1z.out.c0
  have m1 := HD1z.out.c1
  have m2 := HD1z.out.c2
  clear hown1 hin1 hnil1 hb2 hb3 hd3 hw3 hdb1 HRun1 hbz
  go_upto_region 6 with fail
  rw [HW3.out, HDb1.out]
  go_cut [7, 8] (fun s7 s8 wx => ∃ (db2 c2 : Nat) (a2 : Option Addr), s7 = .pointer (some ⟨db2, 0, none⟩) ∧ s8 = .slice a2 q2.length c2 ∧ db1 < wx.heap.size ∧ db2 < wx.heap.size ∧ (a2 = none → c2 = 0) ∧ base ≤ wx.heap.size ∧ Hid (Got base base db1 db2 ⟨l1, r1, n1⟩ ⟨l2, r2, n2⟩ q1 q2 (.slice a1 q1.length c1) a2 w wx))
  case first =>
    go_region_with (go_at_call 14; first | (refine HR2a.out.mono ?_; rintro e w4 ⟨v2, rfl, hown2, hb4⟩; obtain ⟨a2, c2, rfl, _, _⟩ := toI_shape hown2; have HOw2 := Lib.hid hown2; have HBa4 := Lib.hid hb4; clear hown2 hb4) | (refine HR2b.out.mono ?_; rintro e w4 ⟨v2, rfl, hown2, hb4⟩; obtain ⟨a2, c2, rfl, _, _⟩ := toI_shape hown2; have hdz := HDzd.out.below hb4 HDzd.out.lt; have j0 := hdz.c0; have j1 := hdz.c1; have j2 := hdz.c2; have f0 := hdz.fr 0; have f1 := hdz.fr 1; have f2 := hdz.fr 2; have HDz4 := Lib.hid hdz; have HOw2 := Lib.hid hown2; have HBb4 := Lib.hid hb4; clear hdz hown2 hb4))
    all_goals
      go_wp2
      go_meet
      first
        | (obtain ⟨g1, g2, g3, g4⟩ := got_a (d1 := ⟨l1, r1, n1⟩) (d2 := ⟨l2, r2, n2⟩) HB3.out hle3 HD3.out HOwn3.out HOw2.out HBa4.out
           exact ⟨w4.heap.size, c2, a2, rfl, rfl, by simp; omega, by simp, g1, by simp; omega, Lib.hid g4⟩)
        | (obtain ⟨g1, g2, g3, g4⟩ := got_b (d1 := ⟨l1, r1, n1⟩) (d2 := ⟨l2, r2, n2⟩) HBz.out hlez HD1z.out HOwnz.out HOw2.out HBb4.out (Nat.ne_of_lt HD3.out.lt) hle3 HDz4.out
           exact ⟨w3.heap.size, c2, a2, rfl, rfl, by simp; omega, by simp; exact HDz4.out.lt, g1, by simp; omega, Lib.hid g4⟩)
  case rest =>
    clear k0 k1 k2 m0 m1 m2
    obtain ⟨db2, c2, a2, rfl, rfl, hd1c, hd2c, hnil2, hlec, hG⟩ := hcut
    have hr3 := HRun3.out wc (HTB.out wc hG.out.below)
    unfold RunPost at hr3
    simp only [decV] at hr3
    have HR3 := Lib.hid hr3
    clear hr3 hwz
    go_wp2_with fail
    refine HR3.out.mono ?_
    rintro e w6 ⟨v3, rfl, hown3, hb6⟩
    obtain ⟨a3, c3, rfl, hin3, hnil3⟩ := toI_shape hown3
    obtain ⟨db3, hdb3⟩ : ∃ db, w6.heap.size = db := ⟨_, rfl⟩
    obtain ⟨w7, hw7⟩ : ∃ w7, w6.alloc (.cells #[.int .u8 (l2 : Int), .int .i32 (r2 : Int), .int .i64 (n2 : Int)] 25) = w7 := ⟨_, rfl⟩
    have hb67 : Below w6.heap.size w6 w7 := by rw [← hw7]; exact (Below.refl _ _).alloc (Nat.le_refl _) _
    have hd37 : DBlk db3 (.int .u8 (l2 : Int)) (.int .i32 (r2 : Int)) (.int .i64 (n2 : Int)) w7 := by rw [← hw7, ← hdb3]; exact DBlk.new _ _ _ _
    have hle6 : base ≤ w6.heap.size := Nat.le_trans hlec hb6.size
    have hle7 : base ≤ w7.heap.size := Nat.le_trans hle6 hb67.size
    have hs7 : w7.heap.size = db3 + 1 := by rw [← hw7, ← hdb3]; simp
    obtain ⟨w8, hw8⟩ : ∃ w8, w7.alloc (.cells #[.int .u8 0, .int .i32 0, .int .i64 0] 25) = w8 := ⟨_, rfl⟩
    have hb78 : Below w7.heap.size w7 w8 := by rw [← hw8]; exact (Below.refl _ _).alloc (Nat.le_refl _) _
    have hd48 : DBlk (db3 + 1) (.int .u8 0) (.int .i32 0) (.int .i64 0) w8 := by rw [← hw8, ← hs7]; exact DBlk.new _ _ _ _
    have HB7 : Hid (Below base w w7) := Lib.hid ((hG.out.below.trans (hb6.mono hlec)).trans (hb67.mono hle6))
    have HB8 : Hid (Below (db3 + 1) w7 w8) := Lib.hid (by rw [← hs7]; exact hb78)
    have hs8 : db3 + 2 ≤ w8.heap.size := by have := hd48.lt; omega
    have HD27 : Hid (DBlk db2 (.int .u8 (l2 : Int)) (.int .i32 (r2 : Int)) (.int .i64 (n2 : Int)) w7) := Lib.hid ((hG.out.b2.below hb6 hd2c).below hb67 (Nat.lt_of_lt_of_le hd2c hb6.size))
    have HO17 : Hid (OwnR base (.slice a1 q1.length c1) (toI q1) w7) := Lib.hid ((hG.out.o1.belowAll hb6).belowAll hb67)
    have HI27 : Hid (RunesIn a2 q2.length (toI q2) w7) := Lib.hid ((hG.out.i2.belowAll hb6).belowAll hb67)
    have HO37 : Hid (OwnR wc.heap.size (.slice a3 q.length c3) (toI q) w7) := Lib.hid (hown3.belowAll hb67)
    have HD37 := Lib.hid hd37
    have HD48 := Lib.hid hd48
    have HW7 := Lib.hid hw7
    have HW8 := Lib.hid hw8
    have HS7 := Lib.hid hs7
    have HNil2 := Lib.hid hnil2
    have HDb3 := Lib.hid hdb3
    have hne23 : db2 < db3 := by have := hb6.size; omega
    have hne13 : db1 < db3 := by have := hb6.size; omega
    clear hown3 hin3 hnil3 hb6 hb67 hb78 hd37 hd48 hw7 hw8 hs7 hnil2 hdb3 HR3
    go_upto_region 10 with fail
    rw [HW7.out, HW8.out, HDb3.out]
    go_wp2_with fail
    go_loopw [12, 13] (fun v i wr => ∃ j : Nat, i = .int .i64 (j : Int) ∧ j ≤ t.size ∧ db3 + 2 ≤ wr.heap.size ∧ Hid (Below (db3 + 1) w7 wr ∧ OwnR (db3 + 2) v (toI (runS .zero (L.take j)).2) wr ∧ DBlk (db3 + 1) (.int .u8 ((runS .zero (L.take j)).1.lead : Int)) (.int .i32 ((runS .zero (L.take j)).1.rune : Int)) (.int .i64 ((runS .zero (L.take j)).1.need : Int)) wr)) (fun _ i _ => t.size - (intOf i).toNat)
    case atStart => exact ⟨0, rfl, by omega, hs8, Lib.hid ⟨HB8.out, OwnR.nil _ _, HD48.out⟩⟩
    case round =>
      rename_i wr
      obtain ⟨j, rfl, hj, hsz, HF⟩ := hrel
      by_cases hlt : j < t.size
      · have hjl : j < L.length := by rw [HLt.out]; exact hlt
        obtain ⟨hB, hO, hD⟩ := HF.out
        have hts : L.take (j + 1) = L.take j ++ [t[j]] := by
          rw [← HL.out, List.take_succ_eq_append_getElem (by simpa using hlt)]; rfl
        have hsn := runS_snoc (L.take j) t[j] .zero
        rw [← hts] at hsn
        have hcount := run_count (L.take j) .zero
        rw [show opn .zero = 0 from rfl] at hcount
        have hso := (run_sound (L.take j) .zero zero_sound).1
        have htl : (L.take j).length ≤ j := List.length_take_le _ _
        obtain ⟨⟨⟨l, r, n⟩, qj⟩, hx⟩ : ∃ x, runS .zero (L.take j) = x := ⟨_, rfl⟩
        rw [hx] at hsn hcount hso hO hD
        simp only at hsn hcount hso hO hD
        have hst := next_any ⟨l, r, n⟩ hso t[j].toNat t[j].toNat_lt wr.drew (HTB.out wr.drew (HB7.out.trans ((hB.drew).mono (show base ≤ db3 + 1 by have := HS7.out; omega))))
        have hsc := (step_count (d := ⟨l, r, n⟩) (b := t[j].toNat)).1
        have hol := opn_le ⟨l, r, n⟩
        unfold RunPost at hst
        obtain ⟨⟨⟨l3, r3, n3⟩, q3⟩, hst3⟩ : ∃ x, stepS ⟨l, r, n⟩ t[j].toNat = x := ⟨_, rfl⟩
        rw [hst3] at hst hsn hsc
        simp only [decV] at hst hsn hsc
        have hq3 : (q3.length : Int) ≤ 2 := by omega
        have hqj : (qj.length : Int) ≤ 81 := by omega
        have HSt := Lib.hid hst
        have HSn := Lib.hid hsn
        have HB := Lib.hid hB
        have HO := Lib.hid hO
        have HD := Lib.hid hD
        have HDd : Hid (DBlk (db3 + 1) (.int .u8 (l : Int)) (.int .i32 (r : Int)) (.int .i64 (n : Int)) wr.drew) := Lib.hid hD
        have HQ3 := Lib.hid hq3
        have HQJ := Lib.hid hqj
        have g0 := hD.c0
        have g1 := hD.c1
        have g2 := hD.c2
        clear hts hsn hcount hso htl hB hO hD hx hst hst3 hsc hol hq3 hqj HF hjl
        go_upto_region 14 with fail
        go_region_with (go_at_call 19; refine HSt.out.mono ?_; rintro e w9 ⟨v9, rfl, hown9, hb9⟩; obtain ⟨a9, c9, rfl, _, _⟩ := toI_shape hown9; have hd9 := HDd.out.below hb9 HDd.out.lt; have k0 := hd9.c0; have k1 := hd9.c1; have k2 := hd9.c2; have f0 := hd9.fr 0; have f1 := hd9.fr 1; have f2 := hd9.fr 2; have HD9 := Lib.hid hd9; have HO9 := Lib.hid hown9; have HB9 := Lib.hid hb9; clear hd9 hown9 hb9)
        all_goals
          obtain ⟨w10, hw10⟩ : ∃ w10, set3 w9 (db3 + 1) (.int .u8 (l3 : Int)) (.int .i32 (r3 : Int)) (.int .i64 (n3 : Int)) = w10 := ⟨_, rfl⟩
          have ho10 : OwnR wr.drew.heap.size (.slice a9 q3.length c9) (toI q3) w10 := by rw [← hw10]; exact own_set3 HO9.out HD9.out
          obtain ⟨a', c', hv, hin10, hnil10⟩ := toI_shape ho10
          injection hv with hv1 _ hv2
          subst hv1 hv2
          have ho9 : OwnR (db3 + 2) _ (toI qj) w9 := OwnR.belowAll (w := wr.drew) HO.out HB9.out
          have HOl : Hid (OwnR (db3 + 2) _ (toI qj) w10) := Lib.hid (by rw [← hw10]; exact own_set3 ho9 HD9.out)
          have hd10 : DBlk (db3 + 1) (.int .u8 (l3 : Int)) (.int .i32 (r3 : Int)) (.int .i64 (n3 : Int)) w10 := by rw [← hw10]; exact HD9.out.set3
          have hb10 : Below (db3 + 1) w7 w10 := by rw [← hw10]; exact below_set3 (HB.out.drew.trans (HB9.out.mono (show db3 + 1 ≤ wr.heap.size by omega))) (Nat.le_refl _)
          have hs10 : db3 + 2 ≤ w10.heap.size := hd10.lt
          have HIn10 := Lib.hid hin10
          have HNil10 := Lib.hid hnil10
          have HD10 := Lib.hid hd10
          have HB10 := Lib.hid hb10
          have HW10 := Lib.hid hw10
          clear hw10 ho10 hin10 hnil10 ho9 hd10 hb10 HSt
          unfold set3 at HW10
          rw [HW10.out]
          go_wp2_with (at_builtin; refine wpList_append_runes rfl _ _ rfl rfl (db3 + 2) _ (toI qj) a9 q3.length c9 (toI q3) rfl rfl HOl.out HIn10.out HNil10.out (by rw [toI_len]; have := HQJ.out; omega) (by rw [toI_len]; have := HQ3.out; omega) hs10 ?_)
          intro v11 w11 hown11 hgr11
          have HB11 : Hid (Below (db3 + 1) w7 w11) := Lib.hid (HB10.out.grown hgr11 (by omega) (fun k hk => by have := HOl.out.ownBlock k hk; omega))
          have HD11 : Hid (DBlk (db3 + 1) (.int .u8 (l3 : Int)) (.int .i32 (r3 : Int)) (.int .i64 (n3 : Int)) w11) := Lib.hid (HD10.out.grown hgr11 (own_ne HOl.out HD10.out).symm)
          have hs11 : db3 + 2 ≤ w11.heap.size := HD11.out.lt
          have HO11 : Hid (OwnR (db3 + 2) v11 (toI (qj ++ q3)) w11) := Lib.hid (by rw [toI_append]; exact hown11)
          clear hown11 hgr11
          go_wp2
          go_roundw
          case rel => exact ⟨j + 1, by go_num, by omega, hs11, Lib.hid ⟨HB11.out, by rw [HSn.out]; exact HO11.out, by rw [HSn.out]; exact HD11.out⟩⟩
          case measure => simp [intOf]; omega
      · obtain rfl : j = t.size := by omega
        obtain ⟨hB, hO, hD⟩ := HF.out
        have hta : L.take t.size = L := by rw [← HLt.out]; exact List.take_length
        rw [hta, HX.out] at hO hD
        simp only at hO hD
        obtain ⟨a4, c4, rfl, _, _⟩ := toI_shape hO
        have hb7r : Below w7.heap.size w7 wr := by rw [HS7.out]; exact hB
        have hler : base ≤ wr.heap.size := Nat.le_trans hle7 hb7r.size
        have HBr : Hid (Below base w wr) := Lib.hid (HB7.out.trans (hb7r.mono hle7))
        have HO1r := Lib.hid (HO17.out.belowAll hb7r)
        have HI2r := Lib.hid (HI27.out.belowAll hb7r)
        have HO3r := Lib.hid (HO37.out.belowAll hb7r)
        have HO4r := Lib.hid hO
        have HD2r := Lib.hid (HD27.out.below hb7r HD27.out.lt)
        have HD3r := Lib.hid (HD37.out.below hb7r HD37.out.lt)
        have HD4r := Lib.hid hD
        have hall := runes_any t (by omega) wr
        rw [HL.out] at hall
        unfold AllPost at hall
        rw [HX.out] at hall
        simp only at hall
        have HAll := Lib.hid hall
        clear hB hO hD hta hb7r hall HF
        go_wp2_with fail
        refine HAll.out.mono ?_
        rintro e w12 ⟨a5, c5, K, rfl, hown5, hb12, _⟩
        have hle12 : base ≤ w12.heap.size := Nat.le_trans hler hb12.size
        have HB12 : Hid (Below base w w12) := Lib.hid (HBr.out.trans (hb12.mono hler))
        have HO112 := Lib.hid (HO1r.out.belowAll hb12)
        have HI212 := Lib.hid (HI2r.out.belowAll hb12)
        have HO312 := Lib.hid (HO3r.out.belowAll hb12)
        have HO412 := Lib.hid (HO4r.out.belowAll hb12)
        have HO512 := Lib.hid hown5
        have hd2 := HD2r.out.below hb12 HD2r.out.lt
        have hd3 := HD3r.out.below hb12 HD3r.out.lt
        have hd4 := HD4r.out.below hb12 HD4r.out.lt
        have g0 := hd2.c0
        have g1 := hd2.c1
        have g2 := hd2.c2
        have j0 := hd3.c0
        have j1 := hd3.c1
        have j2 := hd3.c2
        have m0 := hd4.c0
        have m1 := hd4.c1
        have m2 := hd4.c2
        clear hown5 hb12 hd2 hd3 hd4 HAll
        go_wp2_with (at_builtin; refine wpList_append_runes_g (by go_simp) _ _ rfl rfl base _ (toI q1) a2 q2.length c2 (toI q2) rfl rfl HO112.out HI212.out HNil2.out (by rw [toI_len]; omega) (by rw [toI_len]; omega) hle12 ?_)
        intro v13 w13 hown13 hgr13
        have HB13 : Hid (Below base w w13) := Lib.hid (HB12.out.grown hgr13 hle12 (fun k hk => HO112.out.ownBlock k hk))
        have hle13 : base ≤ w13.heap.size := Nat.le_trans hle12 hgr13.size
        have ho13 : OwnR base v13 (toI q) w13 := by rw [← HQ.out, toI_append]; exact hown13
        obtain ⟨a13, c13, rfl, hin13, _⟩ := toI_shape ho13
        have ho3 : OwnR wc.heap.size (.slice a3 q.length c3) (toI q) w13 := World.ownsRow.kept HO312.out hgr13 (own_apart HV1.out (fun k hk => Nat.le_trans (Nat.le_of_lt hd1c) (HO312.out.ownBlock k hk)))
        have ho4 : OwnR (db3 + 2) (.slice a4 q.length c4) (toI q) w13 := World.ownsRow.kept HO412.out hgr13 (own_apart HV1.out (fun k hk => by have := HO412.out.ownBlock k hk; omega))
        have ho5 : OwnI wr.heap.size (.slice a5 q.length c5) (toI q) w13 := World.ownsRow.kept HO512.out hgr13 (own_apart HV1.out (fun k hk => by have := HO512.out.ownBlock k hk; omega))
        obtain ⟨a', c', hv, hin3, _⟩ := toI_shape ho3
        injection hv with hv1 _ hv2
        subst hv1 hv2
        obtain ⟨a', c', hv, hin4, _⟩ := toI_shape ho4
        injection hv with hv1 _ hv2
        subst hv1 hv2
        obtain ⟨hin5, _⟩ := toI_in ho5
        have HIn3 := Lib.hid hin3
        have HIn4 := Lib.hid hin4
        have HIn5 := Lib.hid hin5
        have HQV := Lib.hid (nat_rune HVal.out)
        have HS1 := Lib.hid (same_any a13 a5 q.length c13 q.length c5 (toI q) (toI q) (by rw [toI_len]; omega) HQV.out w13 hin13 hin5)
        rw [decide_eq_true (show toI q = toI q from rfl)] at HS1
        clear hown13 hgr13 ho13 hin13 ho3 ho4 ho5 hin3 hin4 hin5 g0 g1 g2 j0 j1 j2 m0 m1 m2
        go_wp2_with fail
        refine HS1.out.mono ?_
        rintro e w14 ⟨rfl, hb14⟩
        have HB14 : Hid (Below base w w14) := Lib.hid (HB13.out.trans (hb14.mono hle13))
        have hle14 : base ≤ w14.heap.size := Nat.le_trans hle13 hb14.size
        have HIn4b := Lib.hid (HIn4.out.belowAll hb14)
        have HIn5b := Lib.hid (HIn5.out.belowAll hb14)
        have HS2 := Lib.hid (same_any a3 a5 q.length c3 q.length c5 (toI q) (toI q) (by rw [toI_len]; omega) HQV.out w14 (HIn3.out.belowAll hb14) HIn5b.out)
        rw [decide_eq_true (show toI q = toI q from rfl)] at HS2
        clear hb14 HS1
        go_wp2_with fail
        refine HS2.out.mono ?_
        rintro e w15 ⟨rfl, hb15⟩
        have HB15 : Hid (Below base w w15) := Lib.hid (HB14.out.trans (hb15.mono hle14))
        have hle15 : base ≤ w15.heap.size := Nat.le_trans hle14 hb15.size
        have HS3 := Lib.hid (same_any a4 a5 q.length c4 q.length c5 (toI q) (toI q) (by rw [toI_len]; omega) HQV.out w15 (HIn4b.out.belowAll hb15) (HIn5b.out.belowAll hb15))
        rw [decide_eq_true (show toI q = toI q from rfl)] at HS3
        clear hb15 HS2
        go_wp2_with fail
        refine HS3.out.mono ?_
        rintro e w16 ⟨rfl, hb16⟩
        have HB16 : Hid (Below base w w16) := Lib.hid (HB15.out.trans (hb16.mono hle15))
        clear hb16 HS3
        go_wp2
        go_ret
        exact ⟨rfl, HB16.out⟩
end Go.Proofs.YtnjkgbnkfncjkaaDoor.Y
