import Derived.Test.YtagolklnjhpbdaaDoorMerged0
import Derived.Test.YtagolklnjhpbdaaDoorMerged27
import Derived.Test.YtagolklnjhpbdaaDoorMerged29
import Derived.Test.YtagolklnjhpbdaaDoorDtAp
import Derived.Test.YtagolklnjhpbdaaDoorMerged30
import Derived.Test.YtagolklnjhpbdaaDoorMerged25
import Derived.Test.YtagolklnjhpbdaaDoorNRfM
import Derived.Test.YtagolklnjhpbdaaDoorNRfP
namespace Go.Proofs.YtagolklnjhpbdaaDoor.K
open Go.Proofs.YtagolklnjhpbdaaDoor.R (agree_frame mem_slots slot_put slot_same wp_region_due)
open Go.RowKit Go.Proofs.YtagolklnjhpbdaaDoor.I
theorem snIn_zero (rk:IntKind) (w:World):SnIn rk none 0 0 none 0 0 emptyN w:=⟨⟨⟨[],⟨rfl,Nat.le_refl _,by decide,.inl rfl⟩,RowsV.nil _ _,fun u hu => by cases hu⟩,fun _ => rfl,fun h => absurd rfl h⟩,⟨rfl,Nat.le_refl _,by decide,.inl rfl⟩,fun _ => rfl⟩
def BsOk3 (s1 s2 s3:Sn) (a1:Option Addr) (a2 a3:Nat) (a4:Option Addr) (a5 a6:Nat) (b1:Option Addr) (b2 b3:Nat) (b4:Option Addr) (b5 b6:Nat) (j1:Option Addr) (j2 j3:Nat) (j4:Option Addr) (j5 j6:Nat):Nat → Value → World → Prop
  | 0,u,_ => u = .agg #[.int .i64 s1.k,.int .i64 s1.w,.int .i64 s1.h,.int .i64 s1.x,.int .i64 s1.y,.string s1.t,.slice a1 a2 a3,.int .i64 s1.n,.int .i64 s1.c,.slice a4 a5 a6]
  | 1,_,_ => True
  | 2,u,_ => u = .agg #[.int .i64 s2.k,.int .i64 s2.w,.int .i64 s2.h,.int .i64 s2.x,.int .i64 s2.y,.string s2.t,.slice b1 b2 b3,.int .i64 s2.n,.int .i64 s2.c,.slice b4 b5 b6]
  | 3,_,_ => True
  | 4,u,_ => u = .agg #[.int .i64 s3.k,.int .i64 s3.w,.int .i64 s3.h,.int .i64 s3.x,.int .i64 s3.y,.string s3.t,.slice j1 j2 j3,.int .i64 s3.n,.int .i64 s3.c,.slice j4 j5 j6]
  | 5,_,_ => True
  | 6,_,_ => True
  | 7,_,_ => True
  | 8,_,_ => True
  | _,_,_ => True
def BsOk5 (S1 S3:Sn) (c1:Option Addr) (c2 c3:Nat) (c4:Option Addr) (c5 c6:Nat) (i1:Option Addr) (i2 i3:Nat) (i4:Option Addr) (i5 i6:Nat):Nat → Value → World → Prop
  | 0,u,_ => u = .agg #[.int .i64 S1.k,.int .i64 S1.w,.int .i64 S1.h,.int .i64 S1.x,.int .i64 S1.y,.string S1.t,.slice c1 c2 c3,.int .i64 S1.n,.int .i64 S1.c,.slice c4 c5 c6]
  | 2,u,_ => u = .agg #[.int .i64 S3.k,.int .i64 S3.w,.int .i64 S3.h,.int .i64 S3.x,.int .i64 S3.y,.string S3.t,.slice i1 i2 i3,.int .i64 S3.n,.int .i64 S3.c,.slice i4 i5 i6]
  | _,_,_ => True
def BsOk9 (S1 S3:Sn) (x1:Option Addr) (x2 x3:Nat) (x4:Option Addr) (x5 x6:Nat) (y1:Option Addr) (y2 y3:Nat) (y4:Option Addr) (y5 y6:Nat) (sv1 sv3:Int) (eb:Bool):Nat → Value → World → Prop
  | 0,u,_ => u = .agg #[.int .i64 S1.k,.int .i64 S1.w,.int .i64 S1.h,.int .i64 S1.x,.int .i64 S1.y,.string S1.t,.slice x1 x2 x3,.int .i64 S1.n,.int .i64 S1.c,.slice x4 x5 x6]
  | 1,u,_ => u = .int .i64 sv1
  | 2,u,_ => u = .agg #[.int .i64 S3.k,.int .i64 S3.w,.int .i64 S3.h,.int .i64 S3.x,.int .i64 S3.y,.string S3.t,.slice y1 y2 y3,.int .i64 S3.n,.int .i64 S3.c,.slice y4 y5 y6]
  | 3,u,_ => u = .int .i64 sv3
  | 4,u,_ => u = .bool eb
  | _,_,_ => True
set_option maxRecDepth 100000 in
set_option maxHeartbeats 16000000 in
theorem deltaBase_walk (s1:Sn) (a1:Option Addr) (a2 a3:Nat) (a4:Option Addr) (a5 a6:Nat) (s2:Sn) (b1:Option Addr) (b2 b3:Nat) (b4:Option Addr) (b5 b6:Nat) (s3:Sn) (j1:Option Addr) (j2 j3:Nat) (j4:Option Addr) (j5 j6:Nat) (w:World) (hT0:S.Tab w)
    (hI1:SnIn .i32 a1 a2 a3 a4 a5 a6 s1 w) (hr1:∀ r ∈ s1.R,AllC Rng r.l) (hg1:∀ g ∈ s1.B,-2147483648 ≤ g.1 ∧ g.1 ≤ 2147483647) (ht1:(s1.t.size:Int) ≤ 9223372036854775807)
    (hI2:SnIn .i32 b1 b2 b3 b4 b5 b6 s2 w) (hr2:∀ r ∈ s2.R,AllC Rng r.l) (hg2:∀ g ∈ s2.B,-2147483648 ≤ g.1 ∧ g.1 ≤ 2147483647) (ht2:(s2.t.size:Int) ≤ 9223372036854775807)
    (hI3:SnIn .i32 j1 j2 j3 j4 j5 j6 s3 w) (hr3:∀ r ∈ s3.R,AllC Rng r.l) (hg3:∀ g ∈ s3.B,-2147483648 ≤ g.1 ∧ g.1 ≤ 2147483647) (ht3:(s3.t.size:Int) ≤ 9223372036854775807) :
    Calls Tryd.prog 5 #[.agg (snA s1 a1 a2 a3 a4 a5 a6),.agg (snA s2 b1 b2 b3 b4 b5 b6),.agg (snA s3 j1 j2 j3 j4 j5 j6)] w fun e w' => e = .returned (.bool true) ∧ Below w.heap.size w w':=by
 obtain ⟨rb,hrb⟩:∃ rb,w.heap.size = rb:=⟨_,rfl⟩
 obtain ⟨P,hP⟩:∃ P:Ending → World → Prop,(fun e w' => e = .returned (.bool true) ∧ Below w.heap.size w w') = P:=⟨_,rfl⟩
 rw [hP]
 have HEnd:Hid (∀ v,Below rb w v → P (.returned (.bool true)) v):=hDx (fun v hb => by rw [← hP,hrb]; exact ⟨rfl,hb⟩)
 obtain ⟨w1,hw1⟩:∃ w1,(((w.alloc (.cells (snA s1 a1 a2 a3 a4 a5 a6) 25)).alloc (.cells (snA s2 b1 b2 b3 b4 b5 b6) 25)).alloc (.cells (snA s3 j1 j2 j3 j4 j5 j6) 25)) = w1:=⟨_,rfl⟩
 have bb1:Below w.heap.size w (w.alloc (.cells (snA s1 a1 a2 a3 a4 a5 a6) 25)):=(Below.refl _ _).alloc (Nat.le_refl _) _
 have bb2:Below w.heap.size w ((w.alloc (.cells (snA s1 a1 a2 a3 a4 a5 a6) 25)).alloc (.cells (snA s2 b1 b2 b3 b4 b5 b6) 25)):=bb1.alloc (by rw [World.size_alloc]; omega) _
 have hb1:Below rb w w1:=by rw [← hw1,← hrb]; exact bb2.alloc (by rw [World.size_alloc,World.size_alloc]; omega) _
 have hz1:w1.heap[rb]? = some (.cells (snA s1 a1 a2 a3 a4 a5 a6) 25 (0,0)):=by
  rw [← hw1,← hrb,Below.heap_alloc _ _ _ (by rw [World.size_alloc,World.size_alloc]; omega),Below.heap_alloc _ _ _ (by rw [World.size_alloc]; omega)]
  exact heap_alloc_new w _
 have hy1:w1.heap[rb + 1]? = some (.cells (snA s2 b1 b2 b3 b4 b5 b6) 25 (0,0)):=by
  have h:=heap_alloc_new (w.alloc (.cells (snA s1 a1 a2 a3 a4 a5 a6) 25)) (.cells (snA s2 b1 b2 b3 b4 b5 b6) 25)
  rw [World.size_alloc,hrb] at h
  rw [← hw1,Below.heap_alloc _ _ _ (by rw [World.size_alloc,World.size_alloc,hrb]; omega)]
  exact h
 have hx1:w1.heap[rb + 2]? = some (.cells (snA s3 j1 j2 j3 j4 j5 j6) 25 (0,0)):=by
  have h:=heap_alloc_new ((w.alloc (.cells (snA s1 a1 a2 a3 a4 a5 a6) 25)).alloc (.cells (snA s2 b1 b2 b3 b4 b5 b6) 25)) (.cells (snA s3 j1 j2 j3 j4 j5 j6) 25)
  rw [World.size_alloc,World.size_alloc,hrb,hw1] at h
  exact h
 obtain ⟨S1,hS1⟩:∃ S,cutN s1 = S:=⟨_,rfl⟩
 have HS1:=hDx hS1
 have HO1b:Hid (SnB S1):=hDx (by rw [← hS1]; exact cutN_b hr1 hg1)
 have HT1:=hDx ht1
 have HI1w:=hDx hI1
 obtain ⟨S2,hS2⟩:∃ S,cutN s2 = S:=⟨_,rfl⟩
 have HS2:=hDx hS2
 have HO2b:Hid (SnB S2):=hDx (by rw [← hS2]; exact cutN_b hr2 hg2)
 have HT2:=hDx ht2
 have HI2w:=hDx hI2
 obtain ⟨S3,hS3⟩:∃ S,cutN s3 = S:=⟨_,rfl⟩
 have HS3:=hDx hS3
 have HO3b:Hid (SnB S3):=hDx (by rw [← hS3]; exact cutN_b hr3 hg3)
 have HT3:=hDx ht3
 have HI3w:=hDx hI3
 have HFw2:Hid (Few S2):=hDx (by rw [← hS2]; exact cutN_few s2)
 have HTb:=hDx hT0
 have HA:=hDx (awake17_any w1 (S.tab_of hT0 (show Below w.heap.size w w1 from by rw [hrb]; exact hb1)))
 have HW1:=hDx hw1
 have HRb:=hDx hrb
 have HB1:=hDx hb1
 have HZ1w:=hDx hz1
 have HY1w:=hDx hy1
 have HX1w:=hDx hx1
 clear hP hrb hw1 bb1 bb2 hb1 hz1 hy1 hx1 hT0 hS1 hS2 hS3 hr1 hr2 hr3 hg1 hg2 hg3 ht1 ht2 ht3 hI1 hI2 hI3
 unfold snA at HW1
 unfold snA
 go_enter Tryd.func5,Tryd.ntmps5
 go_upto_region 1 with fail
 rw [HW1.out,HRb.out]
 go_wp2_with fail
 refine HA.out.mono ?_
 rintro e wB ⟨rfl,hbB⟩
 obtain ⟨m,hm⟩:∃ m,wB.heap.size = m:=⟨_,rfl⟩
 have HM:=hDx hm
 have hz1l:=(gSx.1 HZ1w.out).1
 have hy1l:=(gSx.1 HY1w.out).1
 have hx1l:=(gSx.1 HX1w.out).1
 have HZa:=hDx ((hbB.block rb hz1l).trans HZ1w.out)
 have HZb:=hDx ((hbB.block (rb + 1) hy1l).trans HY1w.out)
 have HZc:=hDx ((hbB.block (rb + 2) hx1l).trans HX1w.out)
 have HBw:Hid (Below rb w wB):=hDx (HB1.out.trans (hbB.mono (by omega)))
 have HLt:Hid (rb < m ∧ rb + 1 < m ∧ rb + 2 < m):=hDx (by have:=hbB.size; omega)
 have HLt2:Hid (rb ≤ m):=hDx (by have:=hbB.size; omega)
 have HI1:=hDx (HI1w.out.belowAll (show Below w.heap.size w wB from by rw [HRb.out]; exact HBw.out))
 have HI2:=hDx (HI2w.out.belowAll (show Below w.heap.size w wB from by rw [HRb.out]; exact HBw.out))
 have HI3:=hDx (HI3w.out.belowAll (show Below w.heap.size w wB from by rw [HRb.out]; exact HBw.out))
 clear hm hbB hz1l hy1l hx1l HA
 go_upto_region 3 with fail
 refine wp_region_due [1,3,5,6,7,8] [0,1,1,2,2,3,4,5,6] (by kernel_rfl) (C3 15 17 19 rb m S1 S2 S3 w wB) (fun _ _ => True) (BsOk3 s1 s2 s3 a1 a2 a3 a4 a5 a6 b1 b2 b3 b4 b5 b6 j1 j2 j3 j4 j5 j6) (by rfl) (by kernel_rfl) (by kernel_rfl) (by kernel_rfl) (by kernel_rfl) ?hcong ?hOk ?hop ?hdone ?h0
 case hcong => exact fun k f f2 u hs hst => C3.cong (fun hk => by rcases hk with hk | hk | hk <;> exact hs 15 (mem_slots (by subst hk; kernel_rfl))) (fun hk => by rcases hk with hk | hk | hk <;> exact hs 17 (mem_slots (by subst hk; kernel_rfl))) (fun hk => by rcases hk with hk | hk | hk <;> exact hs 19 (mem_slots (by subst hk; kernel_rfl))) hst
 case hOk => intro i u w1 w2 h hr; unfold BsOk3 at h ⊢; split <;> first | exact True.intro | exact h
 case h0 => exact (Below.refl _ _).drew
 case hop =>
  refine ⟨?_,?_,?_,?_,?_,?_,?_,?_,?_,trivial⟩
  · intro k z v hk hst hag hdep
    refine .inl ⟨rfl,fun K hK => ?_⟩
    have d3:z.tmps.getD 3 undef = .pointer (some ⟨rb,0,none⟩):=hag.2.2 3 (by kernel_rfl)
    have e3:=d3
    rw [gDx] at e3
    have hb:=C3.base (Nat.le_trans hk (by decide)) hst
    have hz:=(hb.block (rb) HLt.out.1).trans HZa.out
    unfold snA at hz
    have lc0:v.cell? ⟨rb,0,none⟩ = some (.int .i64 s1.k):=by rw [cell_block hz]; rfl
    have lc1:v.cell? ⟨rb,1,none⟩ = some (.int .i64 s1.w):=by rw [cell_block hz]; rfl
    have lc2:v.cell? ⟨rb,2,none⟩ = some (.int .i64 s1.h):=by rw [cell_block hz]; rfl
    have lc3:v.cell? ⟨rb,3,none⟩ = some (.int .i64 s1.x):=by rw [cell_block hz]; rfl
    have lc4:v.cell? ⟨rb,4,none⟩ = some (.int .i64 s1.y):=by rw [cell_block hz]; rfl
    have lc5:v.cell? ⟨rb,5,none⟩ = some (.string s1.t):=by rw [cell_block hz]; rfl
    have lc6:v.cell? ⟨rb,6,none⟩ = some (.slice a1 a2 a3):=by rw [cell_block hz]; rfl
    have lc7:v.cell? ⟨rb,7,none⟩ = some (.int .i64 s1.n):=by rw [cell_block hz]; rfl
    have lc8:v.cell? ⟨rb,8,none⟩ = some (.int .i64 s1.c):=by rw [cell_block hz]; rfl
    have lc9:v.cell? ⟨rb,9,none⟩ = some (.slice a4 a5 a6):=by rw [cell_block hz]; rfl
    have HSt:=hDx hst
    clear hdep hag hst
    go_simp
    exact hK _ _ trivial rfl HSt.out
  · intro z v hst hag hdep
    refine ⟨rfl,fun K hK => ?_⟩
    have d14:z.tmps.getD 14 undef = .agg #[.int .i64 s1.k,.int .i64 s1.w,.int .i64 s1.h,.int .i64 s1.x,.int .i64 s1.y,.string s1.t,.slice a1 a2 a3,.int .i64 s1.n,.int .i64 s1.c,.slice a4 a5 a6]:=hdep ⟨0, .data⟩ (by simp) rfl _ _ rfl rfl
    have e14:=d14
    rw [gDx] at e14
    have hb:Below m wB v:=hst
    have hca:=ncut_any s1 a1 a2 a3 a4 a5 a6 v (HI1.out.belowAll (by rw [HM.out]; exact hb)) HT1.out
    unfold CutPost at hca
    rw [HS1.out] at hca
    have HCa:=hDx hca
    clear hca
    have HBv:=hDx hb
    have hsz:15 < z.tmps.size:=by rw [hag.2.1]; show 15 < 70; decide
    unfold snA at HCa
    clear hdep hag hst hb
    go_simp
    refine HCa.out.mono ?_
    rintro e w' ⟨xa,xn,xc,ya,yn,yc,rfl,hO,hb2⟩
    exact hK _ _ trivial True.intro ⟨HBv.out.trans (hb2.mono (by have:=HBv.out.size; have:=HM.out; omega)),xa,xn,xc,ya,yn,yc,slot_same hsz,hO.weaken (by have:=HBv.out.size; have:=HM.out; omega)⟩
  · intro k z v hk hst hag hdep
    refine .inl ⟨rfl,fun K hK => ?_⟩
    have d4:z.tmps.getD 4 undef = .pointer (some ⟨rb + 1,0,none⟩):=hag.2.2 4 (by kernel_rfl)
    have e4:=d4
    rw [gDx] at e4
    have hb:=C3.base (Nat.le_trans hk (by decide)) hst
    have hz:=(hb.block (rb + 1) HLt.out.2.1).trans HZb.out
    unfold snA at hz
    have lc0:v.cell? ⟨rb + 1,0,none⟩ = some (.int .i64 s2.k):=by rw [cell_block hz]; rfl
    have lc1:v.cell? ⟨rb + 1,1,none⟩ = some (.int .i64 s2.w):=by rw [cell_block hz]; rfl
    have lc2:v.cell? ⟨rb + 1,2,none⟩ = some (.int .i64 s2.h):=by rw [cell_block hz]; rfl
    have lc3:v.cell? ⟨rb + 1,3,none⟩ = some (.int .i64 s2.x):=by rw [cell_block hz]; rfl
    have lc4:v.cell? ⟨rb + 1,4,none⟩ = some (.int .i64 s2.y):=by rw [cell_block hz]; rfl
    have lc5:v.cell? ⟨rb + 1,5,none⟩ = some (.string s2.t):=by rw [cell_block hz]; rfl
    have lc6:v.cell? ⟨rb + 1,6,none⟩ = some (.slice b1 b2 b3):=by rw [cell_block hz]; rfl
    have lc7:v.cell? ⟨rb + 1,7,none⟩ = some (.int .i64 s2.n):=by rw [cell_block hz]; rfl
    have lc8:v.cell? ⟨rb + 1,8,none⟩ = some (.int .i64 s2.c):=by rw [cell_block hz]; rfl
    have lc9:v.cell? ⟨rb + 1,9,none⟩ = some (.slice b4 b5 b6):=by rw [cell_block hz]; rfl
    have HSt:=hDx hst
    clear hdep hag hst
    go_simp
    exact hK _ _ trivial rfl HSt.out
  · intro z v hst hag hdep
    refine ⟨rfl,fun K hK => ?_⟩
    have d16:z.tmps.getD 16 undef = .agg #[.int .i64 s2.k,.int .i64 s2.w,.int .i64 s2.h,.int .i64 s2.x,.int .i64 s2.y,.string s2.t,.slice b1 b2 b3,.int .i64 s2.n,.int .i64 s2.c,.slice b4 b5 b6]:=hdep ⟨2, .data⟩ (by simp) rfl _ _ rfl rfl
    have e16:=d16
    rw [gDx] at e16
    obtain ⟨hb,hv1⟩:Below m wB v ∧ AV m (z.tmps.getD 15 undef) S1 v:=hst
    have hca:=ncut_any s2 b1 b2 b3 b4 b5 b6 v (HI2.out.belowAll (by rw [HM.out]; exact hb)) HT2.out
    unfold CutPost at hca
    rw [HS2.out] at hca
    have HCa:=hDx hca
    clear hca
    have HBv:=hDx hb
    have HV1:=hDx hv1
    have hsz:17 < z.tmps.size:=by rw [hag.2.1]; show 17 < 70; decide
    unfold snA at HCa
    clear hdep hag hb hv1
    go_simp
    refine HCa.out.mono ?_
    rintro e w' ⟨xa,xn,xc,ya,yn,yc,rfl,hO,hb2⟩
    exact hK _ _ trivial True.intro ⟨HBv.out.trans (hb2.mono (by have:=HBv.out.size; have:=HM.out; omega)),by rw [slot_put (by decide)]; exact HV1.out.below hb2,xa,xn,xc,ya,yn,yc,slot_same hsz,hO.weaken (by have:=HBv.out.size; have:=HM.out; omega)⟩
  · intro k z v hk hst hag hdep
    refine .inl ⟨rfl,fun K hK => ?_⟩
    have d5:z.tmps.getD 5 undef = .pointer (some ⟨rb + 2,0,none⟩):=hag.2.2 5 (by kernel_rfl)
    have e5:=d5
    rw [gDx] at e5
    have hb:=C3.base (Nat.le_trans hk (by decide)) hst
    have hz:=(hb.block (rb + 2) HLt.out.2.2).trans HZc.out
    unfold snA at hz
    have lc0:v.cell? ⟨rb + 2,0,none⟩ = some (.int .i64 s3.k):=by rw [cell_block hz]; rfl
    have lc1:v.cell? ⟨rb + 2,1,none⟩ = some (.int .i64 s3.w):=by rw [cell_block hz]; rfl
    have lc2:v.cell? ⟨rb + 2,2,none⟩ = some (.int .i64 s3.h):=by rw [cell_block hz]; rfl
    have lc3:v.cell? ⟨rb + 2,3,none⟩ = some (.int .i64 s3.x):=by rw [cell_block hz]; rfl
    have lc4:v.cell? ⟨rb + 2,4,none⟩ = some (.int .i64 s3.y):=by rw [cell_block hz]; rfl
    have lc5:v.cell? ⟨rb + 2,5,none⟩ = some (.string s3.t):=by rw [cell_block hz]; rfl
    have lc6:v.cell? ⟨rb + 2,6,none⟩ = some (.slice j1 j2 j3):=by rw [cell_block hz]; rfl
    have lc7:v.cell? ⟨rb + 2,7,none⟩ = some (.int .i64 s3.n):=by rw [cell_block hz]; rfl
    have lc8:v.cell? ⟨rb + 2,8,none⟩ = some (.int .i64 s3.c):=by rw [cell_block hz]; rfl
    have lc9:v.cell? ⟨rb + 2,9,none⟩ = some (.slice j4 j5 j6):=by rw [cell_block hz]; rfl
    have HSt:=hDx hst
    clear hdep hag hst
    go_simp
    exact hK _ _ trivial rfl HSt.out
  · intro z v hst hag hdep
    refine ⟨rfl,fun K hK => ?_⟩
    have d18:z.tmps.getD 18 undef = .agg #[.int .i64 s3.k,.int .i64 s3.w,.int .i64 s3.h,.int .i64 s3.x,.int .i64 s3.y,.string s3.t,.slice j1 j2 j3,.int .i64 s3.n,.int .i64 s3.c,.slice j4 j5 j6]:=hdep ⟨4, .data⟩ (by simp) rfl _ _ rfl rfl
    have e18:=d18
    rw [gDx] at e18
    obtain ⟨hb,hv1,hv2⟩:Below m wB v ∧ AV m (z.tmps.getD 15 undef) S1 v ∧ AV m (z.tmps.getD 17 undef) S2 v:=hst
    have hca:=ncut_any s3 j1 j2 j3 j4 j5 j6 v (HI3.out.belowAll (by rw [HM.out]; exact hb)) HT3.out
    unfold CutPost at hca
    rw [HS3.out] at hca
    have HCa:=hDx hca
    clear hca
    have HBv:=hDx hb
    have HV1:=hDx hv1
    have HV2:=hDx hv2
    have hsz:19 < z.tmps.size:=by rw [hag.2.1]; show 19 < 70; decide
    unfold snA at HCa
    clear hdep hag hb hv1 hv2
    go_simp
    refine HCa.out.mono ?_
    rintro e w' ⟨xa,xn,xc,ya,yn,yc,rfl,hO,hb2⟩
    exact hK _ _ trivial True.intro ⟨HBv.out.trans (hb2.mono (by have:=HBv.out.size; have:=HM.out; omega)),by rw [slot_put (by decide)]; exact HV1.out.below hb2,by rw [slot_put (by decide)]; exact HV2.out.below hb2,xa,xn,xc,ya,yn,yc,slot_same hsz,hO.weaken (by have:=HBv.out.size; have:=HM.out; omega)⟩
  · intro z v hst hag hdep
    refine ⟨rfl,fun K hK => ?_⟩
    have d3:z.tmps.getD 3 undef = .pointer (some ⟨rb,0,none⟩):=hag.2.2 3 (by kernel_rfl)
    have e3:=d3
    rw [gDx] at e3
    obtain ⟨hb,⟨c1,c2,c3,c4,c5,c6,e15v,hO⟩,hv2,hv3⟩:Below m wB v ∧ AV m (z.tmps.getD 15 undef) S1 v ∧ AV m (z.tmps.getD 17 undef) S2 v ∧ AV m (z.tmps.getD 19 undef) S3 v:=hst
    unfold snA at e15v
    have d15:=e15v
    have e15:=d15
    rw [gDx] at e15
    have hz:=(hb.block rb HLt.out.1).trans HZa.out
    unfold snA at hz
    have lc0:v.cell? ⟨rb,0,none⟩ = some (.int .i64 s1.k):=by rw [cell_block hz]; rfl
    have lc1:v.cell? ⟨rb,1,none⟩ = some (.int .i64 s1.w):=by rw [cell_block hz]; rfl
    have lc2:v.cell? ⟨rb,2,none⟩ = some (.int .i64 s1.h):=by rw [cell_block hz]; rfl
    have lc3:v.cell? ⟨rb,3,none⟩ = some (.int .i64 s1.x):=by rw [cell_block hz]; rfl
    have lc4:v.cell? ⟨rb,4,none⟩ = some (.int .i64 s1.y):=by rw [cell_block hz]; rfl
    have lc5:v.cell? ⟨rb,5,none⟩ = some (.string s1.t):=by rw [cell_block hz]; rfl
    have lc6:v.cell? ⟨rb,6,none⟩ = some (.slice a1 a2 a3):=by rw [cell_block hz]; rfl
    have lc7:v.cell? ⟨rb,7,none⟩ = some (.int .i64 s1.n):=by rw [cell_block hz]; rfl
    have lc8:v.cell? ⟨rb,8,none⟩ = some (.int .i64 s1.c):=by rw [cell_block hz]; rfl
    have lc9:v.cell? ⟨rb,9,none⟩ = some (.slice a4 a5 a6):=by rw [cell_block hz]; rfl
    have f0:=frozen_block hz 0
    have f1:=frozen_block hz 1
    have f2:=frozen_block hz 2
    have f3:=frozen_block hz 3
    have f4:=frozen_block hz 4
    have f5:=frozen_block hz 5
    have f6:=frozen_block hz 6
    have f7:=frozen_block hz 7
    have f8:=frozen_block hz 8
    have f9:=frozen_block hz 9
    obtain ⟨gg,hx⟩:=set10 hz (.int .i64 S1.k) (.int .i64 S1.w) (.int .i64 S1.h) (.int .i64 S1.x) (.int .i64 S1.y) (.string S1.t) (.slice c1 c2 c3) (.int .i64 S1.n) (.int .i64 S1.c) (.slice c4 c5 c6)
    have HGg:=hDx gg
    have HXx:=hDx hx
    have HO:=hDx hO
    have HBv:=hDx hb
    have HV2:=hDx hv2
    have HV3:=hDx hv3
    clear hdep hag hb hz hO hv2 hv3 gg hx e15v
    go_simp
    exact hK undef _ trivial True.intro ⟨(HBw.out.trans (HBv.out.mono HLt2.out)).trans ((Below.refl rb v).grown HGg.out (by have:=HBv.out.size; have:=HLt2.out; have:=HM.out; omega) (fun q e => by have:=Option.some.inj e; omega)),⟨c1,c2,c3,c4,c5,c6,HXx.out,HO.out.grown HGg.out HLt.out.1⟩,(HGg.out.block (rb + 1) (by have:=HBv.out.size; have:=HLt.out.2.1; have:=HM.out; omega) (fun e => by have:=Option.some.inj e; omega)).trans (HBv.out.block (rb + 1) HLt.out.2.1),(HGg.out.block (rb + 2) (by have:=HBv.out.size; have:=HLt.out.2.2; have:=HM.out; omega) (fun e => by have:=Option.some.inj e; omega)).trans (HBv.out.block (rb + 2) HLt.out.2.2),HV2.out.grown HGg.out HLt.out.1,HV3.out.grown HGg.out HLt.out.1⟩
  · intro z v hst hag hdep
    refine ⟨rfl,fun K hK => ?_⟩
    have d4:z.tmps.getD 4 undef = .pointer (some ⟨rb + 1,0,none⟩):=hag.2.2 4 (by kernel_rfl)
    have e4:=d4
    rw [gDx] at e4
    obtain ⟨hb,ha1,hz0,hz1,⟨c1,c2,c3,c4,c5,c6,e17v,hO⟩,hv3⟩:Below rb w v ∧ AO m rb S1 v ∧ v.heap[rb + 1]? = wB.heap[rb + 1]? ∧ v.heap[rb + 2]? = wB.heap[rb + 2]? ∧ AV m (z.tmps.getD 17 undef) S2 v ∧ AV m (z.tmps.getD 19 undef) S3 v:=hst
    unfold snA at e17v
    have d17:=e17v
    have e17:=d17
    rw [gDx] at e17
    have hz:=hz0.trans HZb.out
    unfold snA at hz
    have lc0:v.cell? ⟨rb + 1,0,none⟩ = some (.int .i64 s2.k):=by rw [cell_block hz]; rfl
    have lc1:v.cell? ⟨rb + 1,1,none⟩ = some (.int .i64 s2.w):=by rw [cell_block hz]; rfl
    have lc2:v.cell? ⟨rb + 1,2,none⟩ = some (.int .i64 s2.h):=by rw [cell_block hz]; rfl
    have lc3:v.cell? ⟨rb + 1,3,none⟩ = some (.int .i64 s2.x):=by rw [cell_block hz]; rfl
    have lc4:v.cell? ⟨rb + 1,4,none⟩ = some (.int .i64 s2.y):=by rw [cell_block hz]; rfl
    have lc5:v.cell? ⟨rb + 1,5,none⟩ = some (.string s2.t):=by rw [cell_block hz]; rfl
    have lc6:v.cell? ⟨rb + 1,6,none⟩ = some (.slice b1 b2 b3):=by rw [cell_block hz]; rfl
    have lc7:v.cell? ⟨rb + 1,7,none⟩ = some (.int .i64 s2.n):=by rw [cell_block hz]; rfl
    have lc8:v.cell? ⟨rb + 1,8,none⟩ = some (.int .i64 s2.c):=by rw [cell_block hz]; rfl
    have lc9:v.cell? ⟨rb + 1,9,none⟩ = some (.slice b4 b5 b6):=by rw [cell_block hz]; rfl
    have f0:=frozen_block hz 0
    have f1:=frozen_block hz 1
    have f2:=frozen_block hz 2
    have f3:=frozen_block hz 3
    have f4:=frozen_block hz 4
    have f5:=frozen_block hz 5
    have f6:=frozen_block hz 6
    have f7:=frozen_block hz 7
    have f8:=frozen_block hz 8
    have f9:=frozen_block hz 9
    obtain ⟨gg,hx⟩:=set10 hz (.int .i64 S2.k) (.int .i64 S2.w) (.int .i64 S2.h) (.int .i64 S2.x) (.int .i64 S2.y) (.string S2.t) (.slice c1 c2 c3) (.int .i64 S2.n) (.int .i64 S2.c) (.slice c4 c5 c6)
    have HGg:=hDx gg
    have HXx:=hDx hx
    have HO:=hDx hO
    have HBv:=hDx hb
    have HV3:=hDx hv3
    have HAo:=hDx ha1
    have hlz:=(gSx.1 hz).1
    have HZ1:=hDx hz1
    have hl2:rb + 2 < v.heap.size:=(gSx.1 (hz1.trans HZc.out)).1
    clear hdep hag hb hz hz0 hz1 hO hv3 ha1 gg hx e17v
    go_simp
    exact hK undef _ trivial True.intro ⟨HBv.out.trans ((Below.refl rb v).grown HGg.out (by omega) (fun q e => by have:=Option.some.inj e; omega)),HAo.out.grown HGg.out HLt.out.2.1 (by omega),⟨c1,c2,c3,c4,c5,c6,HXx.out,HO.out.grown HGg.out HLt.out.2.1⟩,(HGg.out.block (rb + 2) hl2 (fun e => by have:=Option.some.inj e; omega)).trans HZ1.out,HV3.out.grown HGg.out HLt.out.2.1⟩
  · intro z v hst hag hdep
    refine ⟨rfl,fun K hK => ?_⟩
    have d5:z.tmps.getD 5 undef = .pointer (some ⟨rb + 2,0,none⟩):=hag.2.2 5 (by kernel_rfl)
    have e5:=d5
    rw [gDx] at e5
    obtain ⟨hb,ha1,ha2,hz0,c1,c2,c3,c4,c5,c6,e19v,hO⟩:Below rb w v ∧ AO m rb S1 v ∧ AO m (rb + 1) S2 v ∧ v.heap[rb + 2]? = wB.heap[rb + 2]? ∧ AV m (z.tmps.getD 19 undef) S3 v:=hst
    unfold snA at e19v
    have d19:=e19v
    have e19:=d19
    rw [gDx] at e19
    have hz:=hz0.trans HZc.out
    unfold snA at hz
    have lc0:v.cell? ⟨rb + 2,0,none⟩ = some (.int .i64 s3.k):=by rw [cell_block hz]; rfl
    have lc1:v.cell? ⟨rb + 2,1,none⟩ = some (.int .i64 s3.w):=by rw [cell_block hz]; rfl
    have lc2:v.cell? ⟨rb + 2,2,none⟩ = some (.int .i64 s3.h):=by rw [cell_block hz]; rfl
    have lc3:v.cell? ⟨rb + 2,3,none⟩ = some (.int .i64 s3.x):=by rw [cell_block hz]; rfl
    have lc4:v.cell? ⟨rb + 2,4,none⟩ = some (.int .i64 s3.y):=by rw [cell_block hz]; rfl
    have lc5:v.cell? ⟨rb + 2,5,none⟩ = some (.string s3.t):=by rw [cell_block hz]; rfl
    have lc6:v.cell? ⟨rb + 2,6,none⟩ = some (.slice j1 j2 j3):=by rw [cell_block hz]; rfl
    have lc7:v.cell? ⟨rb + 2,7,none⟩ = some (.int .i64 s3.n):=by rw [cell_block hz]; rfl
    have lc8:v.cell? ⟨rb + 2,8,none⟩ = some (.int .i64 s3.c):=by rw [cell_block hz]; rfl
    have lc9:v.cell? ⟨rb + 2,9,none⟩ = some (.slice j4 j5 j6):=by rw [cell_block hz]; rfl
    have f0:=frozen_block hz 0
    have f1:=frozen_block hz 1
    have f2:=frozen_block hz 2
    have f3:=frozen_block hz 3
    have f4:=frozen_block hz 4
    have f5:=frozen_block hz 5
    have f6:=frozen_block hz 6
    have f7:=frozen_block hz 7
    have f8:=frozen_block hz 8
    have f9:=frozen_block hz 9
    obtain ⟨gg,hx⟩:=set10 hz (.int .i64 S3.k) (.int .i64 S3.w) (.int .i64 S3.h) (.int .i64 S3.x) (.int .i64 S3.y) (.string S3.t) (.slice c1 c2 c3) (.int .i64 S3.n) (.int .i64 S3.c) (.slice c4 c5 c6)
    have HGg:=hDx gg
    have HXx:=hDx hx
    have HO:=hDx hO
    have HBv:=hDx hb
    have HAo:=hDx ha1
    have HAp:=hDx ha2
    have hlz:=(gSx.1 hz).1
    clear hdep hag hb hz hz0 hO ha1 ha2 gg hx e19v
    go_simp
    exact hK undef _ trivial True.intro ⟨HBv.out.trans ((Below.refl rb v).grown HGg.out (by omega) (fun q e => by have:=Option.some.inj e; omega)),HAo.out.grown HGg.out HLt.out.2.2 (by omega),HAp.out.grown HGg.out HLt.out.2.2 (by omega),⟨c1,c2,c3,c4,c5,c6,HXx.out,HO.out.grown HGg.out HLt.out.2.2⟩⟩
 case hdone =>
  intro z v hst hag hok
  obtain ⟨hb3,ha3,hb3',hc3⟩:Below rb w v ∧ AO m rb S1 v ∧ AO m (rb + 1) S2 v ∧ AO m (rb + 2) S3 v:=hst
  have HB3:=hDx hb3
  have HA3:=hDx ha3
  have HAb3:=hDx hb3'
  have HAc3:=hDx hc3
  clear hb3 ha3 hb3' hc3
  obtain ⟨uu,hu,hzz⟩:=agree_frame [14,15,16,17,18,19] rfl hag
  subst hzz
  simp only [List.foldl_cons,List.foldl_nil]
  rw []
  clear  hu hag hok
  try dsimp only [Exit.then]
  simp only [List.setIfInBounds_toArray,List.set_cons_succ,List.set_cons_zero]
  generalize uu 14 = u14',uu 15 = u15',uu 16 = u16',uu 17 = u17',uu 18 = u18',uu 19 = u19'
  clear uu
  rename_i K3 hK3
  refine hK3 _ _ ?_
  obtain ⟨wD,hwD⟩:∃ wD,v = wD:=⟨_,rfl⟩
  rw [hwD] at HB3 HA3 HAb3 HAc3 ⊢
  clear hwD
  obtain ⟨c1,c2,c3,c4,c5,c6,hz4,hO1⟩:=HA3.out
  obtain ⟨g1,g2,g3,g4,g5,g6,hy4,hO2⟩:=HAb3.out
  obtain ⟨i1,i2,i3,i4,i5,i6,hx4,hO3⟩:=HAc3.out
  have HDf:Hid (Calls Tryd.prog 10 #[.agg (snA S1 c1 c2 c3 c4 c5 c6),.agg (snA S2 g1 g2 g3 g4 g5 g6)] wD (DiPost S1 S2 wD)):=hDx (diff_any S1 S2 c1 c2 c3 c4 c5 c6 g1 g2 g3 g4 g5 g6 wD hO1.snIn HO1b.out hO2.snIn HO2b.out (S.tab_of HTb.out (show Below w.heap.size w wD from by rw [HRb.out]; exact HB3.out)) 1449 (few_row HFw2.out S1) (few_all HFw2.out S1))
  have HZ1D:=hDx hz4
  have HZ2D:=hDx hy4
  have HZ3D:=hDx hx4
  have HO1D:=hDx hO1
  have HO2D:=hDx hO2
  have HO3D:=hDx hO3
  clear hz4 hy4 hx4 hO1 hO2 hO3
  obtain ⟨d,hd⟩:∃ t:ByteArray,(⟨(diffN S1 S2).toArray⟩:ByteArray) = t:=⟨_,rfl⟩
  have HD:Hid (d.data.toList = diffN S1 S2):=hDx (by rw [← hd])
  unfold DiPost at HDf
  rw [hd] at HDf
  clear hd
  unfold snA at HDf
  obtain ⟨k0,k1,k2,k3,k4,k5,k6,k7,k8,k9⟩:=ten_cells (s:=S1) (ra:=c1) (rn:=c2) (rc:=c3) (ga:=c4) (gn:=c5) (gc:=c6) HZ1D.out
  obtain ⟨l0,l1,l2,l3,l4,l5,l6,l7,l8,l9⟩:=ten_cells (s:=S2) (ra:=g1) (rn:=g2) (rc:=g3) (ga:=g4) (gn:=g5) (gc:=g6) HZ2D.out
  go_upto_region 4 with fail
  go_wp2_with fail
  refine HDf.out.mono ?_
  rintro e wE ⟨rfl,hbE⟩
  have hz4:=(hbE.block rb (gSx.1 HZ1D.out).1).trans HZ1D.out
  have hy4:=(hbE.block (rb + 1) (gSx.1 HZ2D.out).1).trans HZ2D.out
  have hx4:=(hbE.block (rb + 2) (gSx.1 HZ3D.out).1).trans HZ3D.out
  have HO1:=hDx (HO1D.out.below hbE)
  have HO2:=hDx (HO2D.out.below hbE)
  have HO3:=hDx (HO3D.out.below hbE)
  have HBE:Hid (Below rb w wE):=hDx (HB3.out.trans (hbE.mono (by have:=(gSx.1 HZ1D.out).1; omega)))
  obtain ⟨m5,hm5⟩:∃ m,wE.heap.size = m:=⟨_,rfl⟩
  have HM5:=hDx hm5
  have HZ1:=hDx hz4
  have HZ2:=hDx hy4
  have HZ3:=hDx hx4
  have HLt5:Hid (rb < m5 ∧ rb + 1 < m5 ∧ rb + 2 < m5):=hDx (by have:=(gSx.1 hx4).1; omega)
  clear hz4 hy4 hx4 hm5 hbE k0 k1 k2 k3 k4 k5 k6 k7 k8 k9 l0 l1 l2 l3 l4 l5 l6 l7 l8 l9 HZ1D HZ2D HZ3D HO1D HO2D HO3D HDf HA3 HAb3 HAc3
  go_upto_region 5 with fail
  refine Go.Proofs.YtagolklnjhpbdaaDoor.R.wp_region_seen [1,3,6,7] [0,1,1,2,2,2,3,4] (by kernel_rfl) (B4 8 9 24 26 m5 S1 S3 wE) (fun _ _ => True) (BsOk5 S1 S3 c1 c2 c3 c4 c5 c6 i1 i2 i3 i4 i5 i6) (by rfl) (by kernel_rfl) (by kernel_rfl) (by kernel_rfl) (by kernel_rfl) ?hOk ?hop ?hdone ?h0
  case hOk => intro i u w1 w2 h hr; unfold BsOk5 at h ⊢; split <;> first | exact True.intro | exact h
  case h0 => exact (And.intro ((Below.refl _ _).drew) (Al.mk (fun e => by cases e) (fun e => by cases e) (fun e => by cases e)))
  case hop =>
   refine ⟨?_,?_,?_,?_,?_,?_,?_,?_,trivial⟩
   · intro k L z v hk hL hst hag hpre hdep
     have hk2:k ≤ 2:=Nat.le_trans hk (by decide)
     refine .inl ⟨rfl,fun K hK => ?_⟩
     have d3:z.tmps.getD 3 undef = .pointer (some ⟨rb,0,none⟩):=hag.2.2 3 (by kernel_rfl)
     have e3:=d3
     rw [gDx] at e3
     have hb:=hst.base
     have hz:=(hb.block (rb) HLt5.out.1).trans HZ1.out
     unfold snA at hz
     have lc0:v.cell? ⟨rb,0,none⟩ = some (.int .i64 S1.k):=by rw [cell_block hz]; rfl
     have lc1:v.cell? ⟨rb,1,none⟩ = some (.int .i64 S1.w):=by rw [cell_block hz]; rfl
     have lc2:v.cell? ⟨rb,2,none⟩ = some (.int .i64 S1.h):=by rw [cell_block hz]; rfl
     have lc3:v.cell? ⟨rb,3,none⟩ = some (.int .i64 S1.x):=by rw [cell_block hz]; rfl
     have lc4:v.cell? ⟨rb,4,none⟩ = some (.int .i64 S1.y):=by rw [cell_block hz]; rfl
     have lc5:v.cell? ⟨rb,5,none⟩ = some (.string S1.t):=by rw [cell_block hz]; rfl
     have lc6:v.cell? ⟨rb,6,none⟩ = some (.slice c1 c2 c3):=by rw [cell_block hz]; rfl
     have lc7:v.cell? ⟨rb,7,none⟩ = some (.int .i64 S1.n):=by rw [cell_block hz]; rfl
     have lc8:v.cell? ⟨rb,8,none⟩ = some (.int .i64 S1.c):=by rw [cell_block hz]; rfl
     have lc9:v.cell? ⟨rb,9,none⟩ = some (.slice c4 c5 c6):=by rw [cell_block hz]; rfl
     have HSt:=hDx hst
     clear hdep hag hst hb hz
     go_simp
     exact hK _ _ trivial rfl (B4.cong hk2 (Al.keep (L:=L) rfl rfl (slot_put (by decide)) (slot_put (by decide)) (HSt.out.al hk2)) (slot_put (by decide)).symm (slot_put (by decide)).symm HSt.out)
   · intro L z v hL hst hag hpre hdep
     refine ⟨rfl,fun K hK => ?_⟩
     have d23:z.tmps.getD 23 undef = .agg #[.int .i64 S1.k,.int .i64 S1.w,.int .i64 S1.h,.int .i64 S1.x,.int .i64 S1.y,.string S1.t,.slice c1 c2 c3,.int .i64 S1.n,.int .i64 S1.c,.slice c4 c5 c6]:=hdep ⟨0, .data⟩ (by simp) rfl _ _ rfl rfl
     have e23:=d23
     rw [gDx] at e23
     have hb:=hst.base
     have HCa:=hDx (ntold_any S1 c1 c2 c3 c4 c5 c6 v ((HO1.out.below (by rw [HM5.out]; exact hb)).snIn) HO1b.out)
     have hsz:24 < z.tmps.size:=by rw [hag.2.1]; show 24 < 70; decide
     have HSt:=hDx hst
     have HBv:=hDx hb
     unfold snA at HCa
     clear hdep hag hst hb
     go_simp
     refine HCa.out.mono ?_
     rintro e w' ⟨xa,xn,xc,ya,yn,yc,rfl,hT,hb2⟩
     have hmr:=B4.more (by rw [HM5.out]; exact Nat.le_refl _) (by decide) HSt.out hb2
     exact hK _ _ trivial True.intro ⟨hmr.1,(Al.keep (L:=L) rfl rfl (slot_put (by decide)) (slot_put (by decide)) hmr.2),⟨xa,xn,xc,ya,yn,yc,slot_same hsz,hT⟩⟩
   · intro k L z v hk hL hst hag hpre hdep
     have hk2:k ≤ 2:=Nat.le_trans hk (by decide)
     refine .inl ⟨rfl,fun K hK => ?_⟩
     have d5:z.tmps.getD 5 undef = .pointer (some ⟨rb + 2,0,none⟩):=hag.2.2 5 (by kernel_rfl)
     have e5:=d5
     rw [gDx] at e5
     have hb:=hst.base
     have hz:=(hb.block (rb + 2) HLt5.out.2.2).trans HZ3.out
     unfold snA at hz
     have lc0:v.cell? ⟨rb + 2,0,none⟩ = some (.int .i64 S3.k):=by rw [cell_block hz]; rfl
     have lc1:v.cell? ⟨rb + 2,1,none⟩ = some (.int .i64 S3.w):=by rw [cell_block hz]; rfl
     have lc2:v.cell? ⟨rb + 2,2,none⟩ = some (.int .i64 S3.h):=by rw [cell_block hz]; rfl
     have lc3:v.cell? ⟨rb + 2,3,none⟩ = some (.int .i64 S3.x):=by rw [cell_block hz]; rfl
     have lc4:v.cell? ⟨rb + 2,4,none⟩ = some (.int .i64 S3.y):=by rw [cell_block hz]; rfl
     have lc5:v.cell? ⟨rb + 2,5,none⟩ = some (.string S3.t):=by rw [cell_block hz]; rfl
     have lc6:v.cell? ⟨rb + 2,6,none⟩ = some (.slice i1 i2 i3):=by rw [cell_block hz]; rfl
     have lc7:v.cell? ⟨rb + 2,7,none⟩ = some (.int .i64 S3.n):=by rw [cell_block hz]; rfl
     have lc8:v.cell? ⟨rb + 2,8,none⟩ = some (.int .i64 S3.c):=by rw [cell_block hz]; rfl
     have lc9:v.cell? ⟨rb + 2,9,none⟩ = some (.slice i4 i5 i6):=by rw [cell_block hz]; rfl
     have HSt:=hDx hst
     clear hdep hag hst hb hz
     go_simp
     exact hK _ _ trivial rfl (B4.cong hk2 (Al.keep (L:=L) rfl rfl (slot_put (by decide)) (slot_put (by decide)) (HSt.out.al hk2)) (slot_put (by decide)).symm (slot_put (by decide)).symm HSt.out)
   · intro L z v hL hst hag hpre hdep
     refine ⟨rfl,fun K hK => ?_⟩
     have d25:z.tmps.getD 25 undef = .agg #[.int .i64 S3.k,.int .i64 S3.w,.int .i64 S3.h,.int .i64 S3.x,.int .i64 S3.y,.string S3.t,.slice i1 i2 i3,.int .i64 S3.n,.int .i64 S3.c,.slice i4 i5 i6]:=hdep ⟨2, .data⟩ (by simp) rfl _ _ rfl rfl
     have e25:=d25
     rw [gDx] at e25
     have hb:=hst.base
     have HCa:=hDx (ntold_any S3 i1 i2 i3 i4 i5 i6 v ((HO3.out.below (by rw [HM5.out]; exact hb)).snIn) HO3b.out)
     have hsz:26 < z.tmps.size:=by rw [hag.2.1]; show 26 < 70; decide
     have HSt:=hDx hst
     have HBv:=hDx hb
     unfold snA at HCa
     clear hdep hag hst hb
     go_simp
     refine HCa.out.mono ?_
     rintro e w' ⟨xa,xn,xc,ya,yn,yc,rfl,hT,hb2⟩
     have hmr:=B4.more (by rw [HM5.out]; exact Nat.le_refl _) (by decide) HSt.out hb2
     exact hK _ _ trivial True.intro ⟨hmr.1,(Al.keep (L:=L) rfl rfl (slot_put (by decide)) (slot_put (by decide)) hmr.2.1),by rw [slot_put (by decide)]; exact hmr.2.2,⟨xa,xn,xc,ya,yn,yc,slot_same hsz,hT⟩⟩
   · intro k L z v hk hL hst hag hpre hdep
     have hk2:k ≤ 2:=Nat.le_trans hk (by decide)
     refine .inl ⟨rfl,fun K hK => ?_⟩
     have hsz:8 < z.tmps.size:=by rw [hag.2.1]; show 8 < 70; decide
     have HBv:=hDx hst.base
     have HAl:=hDx (hst.al hk2)
     have HSt:=hDx hst
     clear hdep hag hst
     go_simp
     have hb2:Below v.heap.size v (v.alloc (.cells #[.int .i64 0,.int .i64 0,.int .i64 0,.int .i64 0,.int .i64 0,.string ⟨#[]⟩,.slice none 0 0,.int .i64 0,.int .i64 0,.slice none 0 0] 32)):=(Below.refl _ _).alloc (Nat.le_refl _) _
     have hmr:=B4.more (by rw [HM5.out]; exact Nat.le_refl _) hk2 HSt.out hb2
     have hA2:=HAl.out.below hb2
     exact hK _ _ trivial True.intro (B4.cong hk2 ⟨fun _ => ⟨v.heap.size,slot_same hsz,by have:=HBv.out.size; have:=HM5.out; omega,heap_alloc_new v _⟩,fun e => by rw [slot_put (by decide)]; exact hA2.b e,fun _ e h => by rw [slot_same hsz,slot_put (by decide)] at h; obtain ⟨p,h1,-,h3⟩:=HAl.out.b e; rw [h1] at h; injection h with h; injection h with h; injection h with h; have:=(gSx.1 h3).1; omega⟩ (slot_put (by decide)).symm (slot_put (by decide)).symm hmr)
   · intro k L z v hk hL hst hag hpre hdep
     have hk2:k ≤ 2:=Nat.le_trans hk (by decide)
     refine .inl ⟨rfl,fun K hK => ?_⟩
     have hsz:9 < z.tmps.size:=by rw [hag.2.1]; show 9 < 70; decide
     have HBv:=hDx hst.base
     have HAl:=hDx (hst.al hk2)
     have HSt:=hDx hst
     clear hdep hag hst
     go_simp
     have hb2:Below v.heap.size v (v.alloc (.cells #[.int .i64 0,.int .i64 0,.int .i64 0,.int .i64 0,.int .i64 0,.string ⟨#[]⟩,.slice none 0 0,.int .i64 0,.int .i64 0,.slice none 0 0] 32)):=(Below.refl _ _).alloc (Nat.le_refl _) _
     have hmr:=B4.more (by rw [HM5.out]; exact Nat.le_refl _) hk2 HSt.out hb2
     have hA2:=HAl.out.below hb2
     exact hK _ _ trivial True.intro (B4.cong hk2 ⟨fun e => by rw [slot_put (by decide)]; exact hA2.a e,fun _ => ⟨v.heap.size,slot_same hsz,by have:=HBv.out.size; have:=HM5.out; omega,heap_alloc_new v _⟩,fun e _ h => by rw [slot_same hsz,slot_put (by decide)] at h; obtain ⟨p,h1,-,h3⟩:=HAl.out.a e; rw [h1] at h; injection h with h; injection h with h; injection h with h; have:=(gSx.1 h3).1; omega⟩ (slot_put (by decide)).symm (slot_put (by decide)).symm hmr)
   · intro L z v hL hst hag hpre hdep
     refine ⟨rfl,fun K hK => ?_⟩
     have h4:L 4 = true:=hpre ⟨4, .data⟩ (by simp) rfl
     have h5:L 5 = true:=hpre ⟨5, .phase⟩ (by simp) rfl
     obtain ⟨hb,hA,⟨xa,xn,xc,ya,yn,yc,ev,hT⟩,hv⟩:Below m5 wE v ∧ Al 8 9 m5 L (Go.Proofs.YtagolklnjhpbdaaDoor.R.slot z) v ∧ TV (z.tmps.getD 24 undef) S1 v ∧ TV (z.tmps.getD 26 undef) S3 v:=hst
     obtain ⟨p5,ep,hp5,hz⟩:=hA.a h4
     obtain ⟨p6,eq,hp6,hz6⟩:=hA.b h5
     have hne:p5 ≠ p6:=fun e => hA.n h4 h5 (by rw [ep,eq,e])
     unfold snA at ev
     have d24:z.tmps.getD 24 undef = .agg #[.int .i64 S1.k,.int .i64 S1.w,.int .i64 S1.h,.int .i64 S1.x,.int .i64 S1.y,.string S1.t,.slice xa xn xc,.int .i64 S1.n,.int .i64 S1.c,.slice ya yn yc]:=ev
     have e24:=d24
     rw [gDx] at e24
     have d8:z.tmps.getD 8 undef = .pointer (some ⟨p5,0,none⟩):=ep
     have e8:=d8
     rw [gDx] at e8
     have lc0:v.cell? ⟨p5,0,none⟩ = some (.int .i64 0):=by rw [cell_block hz]; rfl
     have lc1:v.cell? ⟨p5,1,none⟩ = some (.int .i64 0):=by rw [cell_block hz]; rfl
     have lc2:v.cell? ⟨p5,2,none⟩ = some (.int .i64 0):=by rw [cell_block hz]; rfl
     have lc3:v.cell? ⟨p5,3,none⟩ = some (.int .i64 0):=by rw [cell_block hz]; rfl
     have lc4:v.cell? ⟨p5,4,none⟩ = some (.int .i64 0):=by rw [cell_block hz]; rfl
     have lc5:v.cell? ⟨p5,5,none⟩ = some (.string ⟨#[]⟩):=by rw [cell_block hz]; rfl
     have lc6:v.cell? ⟨p5,6,none⟩ = some (.slice none 0 0):=by rw [cell_block hz]; rfl
     have lc7:v.cell? ⟨p5,7,none⟩ = some (.int .i64 0):=by rw [cell_block hz]; rfl
     have lc8:v.cell? ⟨p5,8,none⟩ = some (.int .i64 0):=by rw [cell_block hz]; rfl
     have lc9:v.cell? ⟨p5,9,none⟩ = some (.slice none 0 0):=by rw [cell_block hz]; rfl
     have f0:=frozen_block hz 0
     have f1:=frozen_block hz 1
     have f2:=frozen_block hz 2
     have f3:=frozen_block hz 3
     have f4:=frozen_block hz 4
     have f5:=frozen_block hz 5
     have f6:=frozen_block hz 6
     have f7:=frozen_block hz 7
     have f8:=frozen_block hz 8
     have f9:=frozen_block hz 9
     obtain ⟨gg,hx⟩:=set10 hz (.int .i64 S1.k) (.int .i64 S1.w) (.int .i64 S1.h) (.int .i64 S1.x) (.int .i64 S1.y) (.string S1.t) (.slice xa xn xc) (.int .i64 S1.n) (.int .i64 S1.c) (.slice ya yn yc)
     have HGg:=hDx gg
     have HXx:=hDx hx
     have HZz:=hDx hz
     have HTt:=hDx hT
     have HBv:=hDx hb
     have HV:=hDx hv
     have HP6:=hDx hz6
     have HEp:Hid (Go.Proofs.YtagolklnjhpbdaaDoor.R.slot z 8 = .pointer (some ⟨p5,0,none⟩)):=hDx ep
     have HEq:Hid (Go.Proofs.YtagolklnjhpbdaaDoor.R.slot z 9 = .pointer (some ⟨p6,0,none⟩)):=hDx eq
     have HNe:=hDx hne
     have HPm:=hDx (And.intro hp5 hp6)
     clear hdep hag hb hz hT hv gg hx ev ep eq hA hpre hz6 hne hp5 hp6
     go_simp
     exact hK undef _ trivial True.intro ⟨HBv.out.trans ((Below.refl m5 v).grown HGg.out (by have:=HBv.out.size; have:=HM5.out; omega) (fun q e => by have:=Option.some.inj e; have:=HPm.out.1; omega)),p5,p6,HEp.out,HEq.out,HPm.out.2,HNe.out,⟨xa,xn,xc,ya,yn,yc,HXx.out,HTt.out.wrote HGg.out HZz.out⟩,(HGg.out.block p6 (gSx.1 HP6.out).1 (fun e => HNe.out (Option.some.inj e).symm)).trans HP6.out,HV.out.wrote HGg.out HZz.out⟩
   · intro L z v hL hst hag hpre hdep
     refine ⟨rfl,fun K hK => ?_⟩
     obtain ⟨hb,p5,p6,ep5,ep,hp6,hne,hto,hz,⟨xa,xn,xc,ya,yn,yc,ev,hT⟩⟩:Below m5 wE v ∧ ∃ p5 p6,z.tmps.getD 8 undef = .pointer (some ⟨p5,0,none⟩) ∧ z.tmps.getD 9 undef = .pointer (some ⟨p6,0,none⟩) ∧ m5 ≤ p6 ∧ p5 ≠ p6 ∧ TO p5 S1 v ∧ v.heap[p6]? = some (.cells #[.int .i64 0,.int .i64 0,.int .i64 0,.int .i64 0,.int .i64 0,.string ⟨#[]⟩,.slice none 0 0,.int .i64 0,.int .i64 0,.slice none 0 0] 32 (0,0)) ∧ TV (z.tmps.getD 26 undef) S3 v:=hst
     unfold snA at ev
     have d26:z.tmps.getD 26 undef = .agg #[.int .i64 S3.k,.int .i64 S3.w,.int .i64 S3.h,.int .i64 S3.x,.int .i64 S3.y,.string S3.t,.slice xa xn xc,.int .i64 S3.n,.int .i64 S3.c,.slice ya yn yc]:=ev
     have e26:=d26
     rw [gDx] at e26
     have d9:z.tmps.getD 9 undef = .pointer (some ⟨p6,0,none⟩):=ep
     have e9:=d9
     rw [gDx] at e9
     have lc0:v.cell? ⟨p6,0,none⟩ = some (.int .i64 0):=by rw [cell_block hz]; rfl
     have lc1:v.cell? ⟨p6,1,none⟩ = some (.int .i64 0):=by rw [cell_block hz]; rfl
     have lc2:v.cell? ⟨p6,2,none⟩ = some (.int .i64 0):=by rw [cell_block hz]; rfl
     have lc3:v.cell? ⟨p6,3,none⟩ = some (.int .i64 0):=by rw [cell_block hz]; rfl
     have lc4:v.cell? ⟨p6,4,none⟩ = some (.int .i64 0):=by rw [cell_block hz]; rfl
     have lc5:v.cell? ⟨p6,5,none⟩ = some (.string ⟨#[]⟩):=by rw [cell_block hz]; rfl
     have lc6:v.cell? ⟨p6,6,none⟩ = some (.slice none 0 0):=by rw [cell_block hz]; rfl
     have lc7:v.cell? ⟨p6,7,none⟩ = some (.int .i64 0):=by rw [cell_block hz]; rfl
     have lc8:v.cell? ⟨p6,8,none⟩ = some (.int .i64 0):=by rw [cell_block hz]; rfl
     have lc9:v.cell? ⟨p6,9,none⟩ = some (.slice none 0 0):=by rw [cell_block hz]; rfl
     have f0:=frozen_block hz 0
     have f1:=frozen_block hz 1
     have f2:=frozen_block hz 2
     have f3:=frozen_block hz 3
     have f4:=frozen_block hz 4
     have f5:=frozen_block hz 5
     have f6:=frozen_block hz 6
     have f7:=frozen_block hz 7
     have f8:=frozen_block hz 8
     have f9:=frozen_block hz 9
     obtain ⟨gg,hx⟩:=set10 hz (.int .i64 S3.k) (.int .i64 S3.w) (.int .i64 S3.h) (.int .i64 S3.x) (.int .i64 S3.y) (.string S3.t) (.slice xa xn xc) (.int .i64 S3.n) (.int .i64 S3.c) (.slice ya yn yc)
     have HGg:=hDx gg
     have HXx:=hDx hx
     have HZz:=hDx hz
     have HTt:=hDx hT
     have HBv:=hDx hb
     have HTo:=hDx hto
     have HEp:Hid (Go.Proofs.YtagolklnjhpbdaaDoor.R.slot z 8 = .pointer (some ⟨p5,0,none⟩)):=hDx ep5
     have HEq:Hid (Go.Proofs.YtagolklnjhpbdaaDoor.R.slot z 9 = .pointer (some ⟨p6,0,none⟩)):=hDx ep
     have HNe:=hDx hne
     have HPm:=hDx hp6
     clear hdep hag hb hz hT hto gg hx ev ep ep5 hpre hne hp6
     go_simp
     exact hK undef _ trivial True.intro ⟨HBv.out.trans ((Below.refl m5 v).grown HGg.out (by have:=HBv.out.size; have:=HM5.out; omega) (fun q e => by have:=Option.some.inj e; have:=HPm.out; omega)),p5,p6,HEp.out,HEq.out,HTo.out.wrote HGg.out HZz.out HNe.out,⟨xa,xn,xc,ya,yn,yc,HXx.out,HTt.out.wrote HGg.out HZz.out⟩⟩
  case hdone =>
   intro z v L hall hst hag hok
   obtain ⟨hb4,p5,p6,f5,f6,hx5,hx6⟩:Below m5 wE v ∧ ∃ p5 p6,z.tmps.getD 8 undef = .pointer (some ⟨p5,0,none⟩) ∧ z.tmps.getD 9 undef = .pointer (some ⟨p6,0,none⟩) ∧ TO p5 S1 v ∧ TO p6 S3 v:=hst
   have d8:z.tmps.getD 8 undef = .pointer (some ⟨p5,0,none⟩):=f5
   have d9:z.tmps.getD 9 undef = .pointer (some ⟨p6,0,none⟩):=f6
   have HB5:=hDx hb4
   have HX5:=hDx hx5
   have HX6:=hDx hx6
   clear f5 f6 hb4 hx5 hx6
   obtain ⟨uu,hu,hzz⟩:=agree_frame [23,24,25,26,8,9] rfl hag
   have e8:=(hu 8).trans d8
   have e9:=(hu 9).trans d9
   subst hzz
   simp only [List.foldl_cons,List.foldl_nil]
   rw [e8,e9]
   clear e8 d8 e9 d9 hu hag hok
   try dsimp only [Exit.then]
   simp only [List.setIfInBounds_toArray,List.set_cons_succ,List.set_cons_zero]
   generalize uu 23 = u23',uu 24 = u24',uu 25 = u25',uu 26 = u26'
   clear uu
   rename_i K5 hK5
   refine hK5 _ _ ?_
   obtain ⟨wF,hwF⟩:∃ wF,v = wF:=⟨_,rfl⟩
   rw [hwF] at HB5 HX5 HX6 ⊢
   clear hwF
   obtain ⟨x1,x2,x3,x4,x5,x6,hx5,hT1⟩:=HX5.out
   obtain ⟨y1,y2,y3,y4,y5,y6,hx6,hT3⟩:=HX6.out
   have hF1:=(HB5.out.block rb HLt5.out.1).trans HZ1.out
   have hF2:=(HB5.out.block (rb + 1) HLt5.out.2.1).trans HZ2.out
   have hF3:=(HB5.out.block (rb + 2) HLt5.out.2.2).trans HZ3.out
   have hbF:Below wE.heap.size wE wF:=by rw [HM5.out]; exact HB5.out
   have hO2:=HO2.out.below hbF
   have hO3:=HO3.out.below hbF
   have HBF:Hid (Below rb w wF):=hDx (HBE.out.trans (hbF.mono (by have:=HLt5.out.1; have:=HM5.out; omega)))
   have HTF:Hid (∀ v,Below wF.heap.size wF v → S.Tab v):=hDx (fun v hb => S.tab_of HTb.out (show Below w.heap.size w v from by rw [HRb.out]; exact HBF.out.trans (hb.mono (by have:=(gSx.1 hF1).1; omega))))
   have HEndF:Hid (∀ v,Below wF.heap.size wF v → P (.returned (.bool true)) v):=hDx (fun v hb => HEnd.out v (HBF.out.trans (hb.mono (by have:=(gSx.1 hF1).1; omega))))
   have HZF:Hid (∀ v,Below wF.heap.size wF v → v.heap[rb]? = some (.cells #[.int .i64 S1.k,.int .i64 S1.w,.int .i64 S1.h,.int .i64 S1.x,.int .i64 S1.y,.string S1.t,.slice c1 c2 c3,.int .i64 S1.n,.int .i64 S1.c,.slice c4 c5 c6] 25 (0,0)) ∧ v.heap[rb + 1]? = some (.cells #[.int .i64 S2.k,.int .i64 S2.w,.int .i64 S2.h,.int .i64 S2.x,.int .i64 S2.y,.string S2.t,.slice g1 g2 g3,.int .i64 S2.n,.int .i64 S2.c,.slice g4 g5 g6] 25 (0,0)) ∧ v.heap[rb + 2]? = some (.cells #[.int .i64 S3.k,.int .i64 S3.w,.int .i64 S3.h,.int .i64 S3.x,.int .i64 S3.y,.string S3.t,.slice i1 i2 i3,.int .i64 S3.n,.int .i64 S3.c,.slice i4 i5 i6] 25 (0,0)) ∧ v.heap[p5]? = some (.cells #[.int .i64 S1.k,.int .i64 S1.w,.int .i64 S1.h,.int .i64 S1.x,.int .i64 S1.y,.string S1.t,.slice x1 x2 x3,.int .i64 S1.n,.int .i64 S1.c,.slice x4 x5 x6] 32 (0,0)) ∧ v.heap[p6]? = some (.cells #[.int .i64 S3.k,.int .i64 S3.w,.int .i64 S3.h,.int .i64 S3.x,.int .i64 S3.y,.string S3.t,.slice y1 y2 y3,.int .i64 S3.n,.int .i64 S3.c,.slice y4 y5 y6] 32 (0,0))):=hDx (fun v hb => ⟨(hb.block _ (gSx.1 hF1).1).trans hF1,(hb.block _ (gSx.1 hF2).1).trans hF2,(hb.block _ (gSx.1 hF3).1).trans hF3,(hb.block _ (gSx.1 hx5).1).trans hx5,(hb.block _ (gSx.1 hx6).1).trans hx6⟩)
   have HMy1:Hid (∀ v,Below wF.heap.size wF v → Calls Tryd.prog 15 #[.agg #[.int .i64 S1.k,.int .i64 S1.w,.int .i64 S1.h,.int .i64 S1.x,.int .i64 S1.y,.string S1.t,.slice x1 x2 x3,.int .i64 S1.n,.int .i64 S1.c,.slice x4 x5 x6]] v fun e w' => e = .returned (.bool (decide (MayN S1))) ∧ Below v.heap.size v w'):=hDx (fun v hb => nrfmay_any S1 x1 x2 x3 x4 x5 x6 v ((hT1.below hb).snIn) HO1b.out)
   have HMy3:Hid (∀ v,Below wF.heap.size wF v → Calls Tryd.prog 15 #[.agg #[.int .i64 S3.k,.int .i64 S3.w,.int .i64 S3.h,.int .i64 S3.x,.int .i64 S3.y,.string S3.t,.slice y1 y2 y3,.int .i64 S3.n,.int .i64 S3.c,.slice y4 y5 y6]] v fun e w' => e = .returned (.bool (decide (MayN S3))) ∧ Below v.heap.size v w'):=hDx (fun v hb => nrfmay_any S3 y1 y2 y3 y4 y5 y6 v ((hT3.below hb).snIn) HO3b.out)
   have HSm1:Hid (∀ v,Below wF.heap.size wF v → Calls Tryd.prog 21 #[.agg #[.int .i64 S1.k,.int .i64 S1.w,.int .i64 S1.h,.int .i64 S1.x,.int .i64 S1.y,.string S1.t,.slice x1 x2 x3,.int .i64 S1.n,.int .i64 S1.c,.slice x4 x5 x6]] v fun e w' => e = .returned (.int .i64 ((S.sumOf (packN S1):Nat):Int)) ∧ Below v.heap.size v w'):=hDx (fun v hb => nrfsum_any S1 x1 x2 x3 x4 x5 x6 v ((hT1.below hb).snIn) HO1b.out)
   have HSm3:Hid (∀ v,Below wF.heap.size wF v → Calls Tryd.prog 21 #[.agg #[.int .i64 S3.k,.int .i64 S3.w,.int .i64 S3.h,.int .i64 S3.x,.int .i64 S3.y,.string S3.t,.slice y1 y2 y3,.int .i64 S3.n,.int .i64 S3.c,.slice y4 y5 y6]] v fun e w' => e = .returned (.int .i64 ((S.sumOf (packN S3):Nat):Int)) ∧ Below v.heap.size v w'):=hDx (fun v hb => nrfsum_any S3 y1 y2 y3 y4 y5 y6 v ((hT3.below hb).snIn) HO3b.out)
   have HTo2:Hid (∀ v,Below wF.heap.size wF v → Calls Tryd.prog 9 #[.agg #[.int .i64 S2.k,.int .i64 S2.w,.int .i64 S2.h,.int .i64 S2.x,.int .i64 S2.y,.string S2.t,.slice g1 g2 g3,.int .i64 S2.n,.int .i64 S2.c,.slice g4 g5 g6]] v (TldPost S2 v)):=hDx (fun v hb => ntold_any S2 g1 g2 g3 g4 g5 g6 v ((hO2.below hb).snIn) HO2b.out)
   have HPk2:Hid (∀ v xa xn xc ya yn yc,SnT xa xn xc ya yn yc S2 v → Calls Tryd.prog 16 #[.agg #[.int .i64 S2.k,.int .i64 S2.w,.int .i64 S2.h,.int .i64 S2.x,.int .i64 S2.y,.string S2.t,.slice xa xn xc,.int .i64 S2.n,.int .i64 S2.c,.slice ya yn yc]] v fun e w' => ∃ t:ByteArray,e = .returned (.string t) ∧ t.data.toList = packN S2 ∧ Below v.heap.size v w'):=hDx (fun v xa xn xc ya yn yc h => nrfpack_any S2 xa xn xc ya yn yc v h.snIn HO2b.out)
   have HAp:Hid (∀ v,Below wF.heap.size wF v → Calls Tryd.prog 17 #[.agg #[.int .i64 S3.k,.int .i64 S3.w,.int .i64 S3.h,.int .i64 S3.x,.int .i64 S3.y,.string S3.t,.slice i1 i2 i3,.int .i64 S3.n,.int .i64 S3.c,.slice i4 i5 i6],.string d] v (ApPost (applyN S3 (diffN S1 S2)) v)):=hDx (fun v hb => by
    have h:=apply_any d (by have h1:=diffN_len HFw2.out S1; rw [← HD.out] at h1; have h2:d.data.toList.length = d.size:=rfl; omega) S3 i1 i2 i3 i4 i5 i6 v ((hO3.below hb).snIn) HO3b.out (HTF.out v hb)
    rw [HD.out] at h
    exact h)
   have hzF:=HZF.out wF (Below.refl _ _)
   have HMy1F:=hDx (HMy1.out wF (Below.refl _ _))
   have HMy3F:=hDx (HMy3.out wF (Below.refl _ _))
   clear hx5 hT1 hx6 hT3 hF1 hF2 hF3 hbF hO2 hO3
   have HZFF:=hDx hzF
   clear hzF
   by_cases hd:diffN S1 S2 = []
   · obtain ⟨q1,q2⟩:=toList_nil (b:=d) (by rw [HD.out]; exact hd)
     have HQ:=hDx (And.intro q1 q2)
     have hzz:=HZFF.out.2.2.2.1
     obtain ⟨n0,n1,n2,n3,n4,n5,n6,n7,n8,n9⟩:=ten_cells (s:=S1) (ra:=x1) (rn:=x2) (rc:=x3) (ga:=x4) (gn:=x5) (gc:=x6) hzz
     clear hzz
     go_upto_region 6 with fail
     go_wp2_with fail
     refine HMy1F.out.mono ?_
     rintro e wg ⟨rfl,hbg⟩
     have HEg:Hid (Below wF.heap.size wF wg):=hDx hbg
     clear hbg n0 n1 n2 n3 n4 n5 n6 n7 n8 n9
     by_cases hm:MayN S1
     · rw [decide_eq_true hm]
       have HPn:Hid (packN S2 = []):=hDx (by rw [packN_full]; exact fun h => (diffN_nil S1 S2).1 hd ⟨hm,h⟩)
       clear hd hm
       have hzz:=(HZF.out wg HEg.out).2.1
       obtain ⟨n0,n1,n2,n3,n4,n5,n6,n7,n8,n9⟩:=ten_cells (s:=S2) (ra:=g1) (rn:=g2) (rc:=g3) (ga:=g4) (gn:=g5) (gc:=g6) hzz
       clear hzz
       have HTo:=hDx (HTo2.out wg HEg.out)
       go_wp2_with fail
       refine HTo.out.mono ?_
       rintro e wh ⟨xa,xn,xc,ya,yn,yc,rfl,hT,hbh⟩
       have HEh:Hid (Below wF.heap.size wF wh):=hDx (HEg.out.trans (hbh.mono HEg.out.size))
       have HPk:=hDx (HPk2.out wh xa xn xc ya yn yc hT)
       clear hbh hT n0 n1 n2 n3 n4 n5 n6 n7 n8 n9
       unfold snA
       go_wp2_with fail
       refine HPk.out.mono ?_
       rintro e wi ⟨t,rfl,ht,hbi⟩
       obtain ⟨r1,r2⟩:=toList_nil (b:=t) (by rw [ht]; exact HPn.out)
       have hend:=hDx (HEndF.out wi (HEh.out.trans (hbi.mono HEh.out.size)))
       clear hbi ht
       go_wp2_with fail
       exact hend.out
     · rw [decide_eq_false hm]
       clear hd hm
       have hend:=hDx (HEndF.out wg HEg.out)
       go_wp2_with fail
       exact hend.out
   · obtain ⟨q1,q2⟩:=toList_some (b:=d) (by rw [HD.out]; exact hd)
     have hmf:MayN S1 ∧ FullN S2:=by
      refine Classical.byContradiction fun h => hd ((diffN_nil S1 S2).2 h)
     have HMa:Hid (MayN S1):=hDx hmf.1
     have HFb:Hid (FullN S2):=hDx hmf.2
     clear hd hmf
     have hzz:=HZFF.out.2.2.2.2
     obtain ⟨n0,n1,n2,n3,n4,n5,n6,n7,n8,n9⟩:=ten_cells (s:=S3) (ra:=y1) (rn:=y2) (rc:=y3) (ga:=y4) (gn:=y5) (gc:=y6) hzz
     clear hzz
     go_upto_region 6 with fail
     go_wp2_with fail
     refine HMy3F.out.mono ?_
     rintro e wg ⟨rfl,hbg⟩
     have HEg:Hid (Below wF.heap.size wF wg):=hDx hbg
     clear hbg n0 n1 n2 n3 n4 n5 n6 n7 n8 n9
     by_cases hm:MayN S3
     · rw [decide_eq_true hm]
       have HMc:Hid (MayN S3):=hDx hm
       clear hm
       have hzz:=(HZF.out wg HEg.out).2.2.1
       obtain ⟨n0,n1,n2,n3,n4,n5,n6,n7,n8,n9⟩:=ten_cells (s:=S3) (ra:=i1) (rn:=i2) (rc:=i3) (ga:=i4) (gn:=i5) (gc:=i6) hzz
       clear hzz
       have HApg:=hDx (HAp.out wg HEg.out)
       obtain ⟨S',hS'⟩:∃ s,(applyN S3 (diffN S1 S2)).1 = s:=⟨_,rfl⟩
       obtain ⟨k',hk'⟩:∃ s,(applyN S3 (diffN S1 S2)).2 = s:=⟨_,rfl⟩
       have HSe':=hDx hS'
       have HKe':=hDx hk'
       unfold ApPost at HApg
       rw [hS',hk'] at HApg
       clear hS' hk'
       go_wp2_with fail
       refine HApg.out.mono ?_
       rintro e wj ⟨xa,xn,xc,ya,yn,yc,rfl,hnj,hbj⟩
       obtain ⟨tb,htb⟩:∃ b,wj.heap.size = b:=⟨_,rfl⟩
       obtain ⟨wk,hwk⟩:∃ w8,wj.alloc (.cells (snA S' xa xn xc ya yn yc) 25) = w8:=⟨_,rfl⟩
       have hbk:Below wj.heap.size wj wk:=by rw [← hwk]; exact (Below.refl _ _).alloc (Nat.le_refl _) _
       have htk:wk.heap[tb]? = some (.cells (snA S' xa xn xc ya yn yc) 25 (0,0)):=by rw [← hwk,← htb]; exact heap_alloc_new wj _
       have HEk:Hid (Below wF.heap.size wF wk):=hDx (HEg.out.trans ((hbj.trans (hbk.mono hbj.size)).mono HEg.out.size))
       have HNk:=hDx (hnj.belowAll hbk)
       have HWk:=hDx hwk
       have HTk:=hDx htk
       have HTb2:=hDx htb
       clear hbj hnj htb hwk hbk htk HApg n0 n1 n2 n3 n4 n5 n6 n7 n8 n9
       unfold snA at HWk
       unfold snA
       obtain ⟨sv1,hsv1⟩:∃ n:Int,((S.sumOf (packN S1):Nat):Int) = n:=⟨_,rfl⟩
       obtain ⟨sv3,hsv3⟩:∃ n:Int,((S.sumOf (packN S3):Nat):Int) = n:=⟨_,rfl⟩
       rw [hsv1] at HSm1
       rw [hsv3] at HSm3
       have HVv:Hid (((S.sumOf (packN S1):Nat):Int) = sv1 ∧ ((S.sumOf (packN S3):Nat):Int) = sv3):=hDx ⟨hsv1,hsv3⟩
       clear hsv1 hsv3
       go_upto_region 9 with fail
       rw [HWk.out,HTb2.out]
       have HEg:=HEk
       obtain ⟨wg,hwg⟩:∃ wg,wk = wg:=⟨_,rfl⟩
       rw [hwg] at HEg HTk HNk ⊢
       obtain ⟨eb,heb⟩:∃ b,(sv1 == sv3) = b:=⟨_,rfl⟩
       have HEb:=hDx heb
       clear heb hwg HEk HWk
       refine wp_region_due [] [0,0,0,0,0] (by kernel_rfl) (fun _ _ u => Below wg.heap.size wg u) (fun u u2 => Below u.heap.size u u2) (BsOk9 S1 S3 x1 x2 x3 x4 x5 x6 y1 y2 y3 y4 y5 y6 sv1 sv3 eb) (by rfl) (by kernel_rfl) (by kernel_rfl) (by kernel_rfl) (by kernel_rfl) ?hcong ?hOk ?hop ?hdone ?h0
       case hcong => exact fun k f f2 u hs hst => hst
       case hOk => intro i u w1 w2 h hr; unfold BsOk9 at h ⊢; split <;> first | exact True.intro | exact h
       case h0 => exact (Below.refl _ _).drew
       case hop =>
        refine ⟨?_,?_,?_,?_,?_,trivial⟩
        · intro k z v hk hst hag hdep
          refine .inl ⟨rfl,fun K hK => ?_⟩
          have d8:z.tmps.getD 8 undef = .pointer (some ⟨p5,0,none⟩):=hag.2.2 8 (by kernel_rfl)
          have e8:=d8
          rw [gDx] at e8
          have hb:Below wg.heap.size wg v:=hst
          have hz:=(HZF.out v (HEg.out.trans (hb.mono HEg.out.size))).2.2.2.1
          have lc0:v.cell? ⟨p5,0,none⟩ = some (.int .i64 S1.k):=by rw [cell_block hz]; rfl
          have lc1:v.cell? ⟨p5,1,none⟩ = some (.int .i64 S1.w):=by rw [cell_block hz]; rfl
          have lc2:v.cell? ⟨p5,2,none⟩ = some (.int .i64 S1.h):=by rw [cell_block hz]; rfl
          have lc3:v.cell? ⟨p5,3,none⟩ = some (.int .i64 S1.x):=by rw [cell_block hz]; rfl
          have lc4:v.cell? ⟨p5,4,none⟩ = some (.int .i64 S1.y):=by rw [cell_block hz]; rfl
          have lc5:v.cell? ⟨p5,5,none⟩ = some (.string S1.t):=by rw [cell_block hz]; rfl
          have lc6:v.cell? ⟨p5,6,none⟩ = some (.slice x1 x2 x3):=by rw [cell_block hz]; rfl
          have lc7:v.cell? ⟨p5,7,none⟩ = some (.int .i64 S1.n):=by rw [cell_block hz]; rfl
          have lc8:v.cell? ⟨p5,8,none⟩ = some (.int .i64 S1.c):=by rw [cell_block hz]; rfl
          have lc9:v.cell? ⟨p5,9,none⟩ = some (.slice x4 x5 x6):=by rw [cell_block hz]; rfl
          clear hb hz
          have HSt:=hDx hst
          clear hdep hag hst
          go_simp
          exact hK _ _ (Below.refl _ _) rfl HSt.out
        · intro k z v hk hst hag hdep
          refine .inl ⟨rfl,fun K hK => ?_⟩
          have d52:z.tmps.getD 52 undef = .agg #[.int .i64 S1.k,.int .i64 S1.w,.int .i64 S1.h,.int .i64 S1.x,.int .i64 S1.y,.string S1.t,.slice x1 x2 x3,.int .i64 S1.n,.int .i64 S1.c,.slice x4 x5 x6]:=hdep ⟨0, .data⟩ (by simp) rfl _ _ rfl rfl
          have e52:=d52
          rw [gDx] at e52
          have hb:Below wg.heap.size wg v:=hst
          have HC:=hDx (HSm1.out v (HEg.out.trans (hb.mono HEg.out.size)))
          have HBv:=hDx hb
          clear hdep hag hst hb
          go_simp
          refine HC.out.mono ?_
          rintro e w' ⟨rfl,h9⟩
          exact hK _ _ h9 rfl (HBv.out.trans (h9.mono HBv.out.size))
        · intro k z v hk hst hag hdep
          refine .inl ⟨rfl,fun K hK => ?_⟩
          have d9:z.tmps.getD 9 undef = .pointer (some ⟨p6,0,none⟩):=hag.2.2 9 (by kernel_rfl)
          have e9:=d9
          rw [gDx] at e9
          have hb:Below wg.heap.size wg v:=hst
          have hz:=(HZF.out v (HEg.out.trans (hb.mono HEg.out.size))).2.2.2.2
          have lc0:v.cell? ⟨p6,0,none⟩ = some (.int .i64 S3.k):=by rw [cell_block hz]; rfl
          have lc1:v.cell? ⟨p6,1,none⟩ = some (.int .i64 S3.w):=by rw [cell_block hz]; rfl
          have lc2:v.cell? ⟨p6,2,none⟩ = some (.int .i64 S3.h):=by rw [cell_block hz]; rfl
          have lc3:v.cell? ⟨p6,3,none⟩ = some (.int .i64 S3.x):=by rw [cell_block hz]; rfl
          have lc4:v.cell? ⟨p6,4,none⟩ = some (.int .i64 S3.y):=by rw [cell_block hz]; rfl
          have lc5:v.cell? ⟨p6,5,none⟩ = some (.string S3.t):=by rw [cell_block hz]; rfl
          have lc6:v.cell? ⟨p6,6,none⟩ = some (.slice y1 y2 y3):=by rw [cell_block hz]; rfl
          have lc7:v.cell? ⟨p6,7,none⟩ = some (.int .i64 S3.n):=by rw [cell_block hz]; rfl
          have lc8:v.cell? ⟨p6,8,none⟩ = some (.int .i64 S3.c):=by rw [cell_block hz]; rfl
          have lc9:v.cell? ⟨p6,9,none⟩ = some (.slice y4 y5 y6):=by rw [cell_block hz]; rfl
          clear hb hz
          have HSt:=hDx hst
          clear hdep hag hst
          go_simp
          exact hK _ _ (Below.refl _ _) rfl HSt.out
        · intro k z v hk hst hag hdep
          refine .inl ⟨rfl,fun K hK => ?_⟩
          have d54:z.tmps.getD 54 undef = .agg #[.int .i64 S3.k,.int .i64 S3.w,.int .i64 S3.h,.int .i64 S3.x,.int .i64 S3.y,.string S3.t,.slice y1 y2 y3,.int .i64 S3.n,.int .i64 S3.c,.slice y4 y5 y6]:=hdep ⟨2, .data⟩ (by simp) rfl _ _ rfl rfl
          have e54:=d54
          rw [gDx] at e54
          have hb:Below wg.heap.size wg v:=hst
          have HC:=hDx (HSm3.out v (HEg.out.trans (hb.mono HEg.out.size)))
          have HBv:=hDx hb
          clear hdep hag hst hb
          go_simp
          refine HC.out.mono ?_
          rintro e w' ⟨rfl,h9⟩
          exact hK _ _ h9 rfl (HBv.out.trans (h9.mono HBv.out.size))
        · intro k z v hk hst hag hdep
          refine .inl ⟨rfl,fun K hK => ?_⟩
          have d53:z.tmps.getD 53 undef = .int .i64 sv1:=hdep ⟨1, .data⟩ (by simp) rfl _ _ rfl rfl
          have e53:=d53
          rw [gDx] at e53
          have d55:z.tmps.getD 55 undef = .int .i64 sv3:=hdep ⟨3, .data⟩ (by simp) rfl _ _ rfl rfl
          have e55:=d55
          rw [gDx] at e55
          have heb:=HEb.out
          have HSt:=hDx hst
          clear hdep hag hst
          go_simp
          exact hK _ _ (Below.refl _ _) rfl HSt.out
       case hdone =>
        intro z v hst hag hok
        have d56:z.tmps.getD 56 undef = .bool eb:=hok 4 _ 56 rfl rfl
        have HEv:Hid (Below wF.heap.size wF v):=hDx (HEg.out.trans (Below.mono hst HEg.out.size))
        have HGv:Hid (Below wg.heap.size wg v):=hDx hst
        clear hst
        obtain ⟨uu,hu,hzz⟩:=agree_frame [52,53,54,55,56] rfl hag
        have e56:=(hu 56).trans d56
        subst hzz
        simp only [List.foldl_cons,List.foldl_nil]
        rw [e56]
        clear e56 d56 hu hag hok
        try dsimp only [Exit.then]
        simp only [List.setIfInBounds_toArray,List.set_cons_succ,List.set_cons_zero]
        generalize uu 52 = u52',uu 53 = u53',uu 54 = u54',uu 55 = u55'
        clear uu
        rename_i K9 hK9
        try (refine hK9 _ _ ?_)
        obtain ⟨wh,hwh⟩:∃ wh,v = wh:=⟨_,rfl⟩
        rw [hwh] at HEv HGv ⊢
        clear hwh
        have htz:=(HGv.out.block tb (gSx.1 HTk.out).1).trans HTk.out
        have hnz:=HNk.out.belowAll HGv.out
        cases eb
        · have hne:sv1 ≠ sv3:=beq_eq_false_iff_ne.1 HEb.out
          have hap:=apply_other HMa.out HFb.out HMc.out (fun h => hne (by rw [← HVv.out.1,← HVv.out.2,h]))
          rw [hap] at HSe' HKe'
          obtain rfl:emptyN = S':=HSe'.out
          obtain rfl:7 = k':=HKe'.out
          have HIs:Hid (Calls Tryd.prog 18 #[.agg (snA emptyN xa xn xc ya yn yc),.agg #[.int .i64 0,.int .i64 0,.int .i64 0,.int .i64 0,.int .i64 0,.string ⟨#[]⟩,.slice none 0 0,.int .i64 0,.int .i64 0,.slice none 0 0]] wh fun e w' => e = .returned (.bool true) ∧ Below wh.heap.size wh w'):=hDx (by
           have h:=nis_any emptyN emptyN xa xn xc ya yn yc none 0 0 none 0 0 wh hnz (snIn_zero .i64 wh) SnB.empty SnB.empty
           rw [decide_eq_true rfl] at h
           exact h)
          unfold snA at HIs
          obtain ⟨n0,n1,n2,n3,n4,n5,n6,n7,n8,n9⟩:=ten_cells (s:=emptyN) (ra:=xa) (rn:=xn) (rc:=xc) (ga:=ya) (gn:=yn) (gc:=yc) htz
          clear hne hap htz hnz
          go_wp2_with fail
          refine HIs.out.mono ?_
          rintro e wi ⟨rfl,hbi⟩
          have hend:=hDx (HEndF.out wi (HEv.out.trans (hbi.mono HEv.out.size)))
          clear hbi n0 n1 n2 n3 n4 n5 n6 n7 n8 n9
          go_wp2_with fail
          exact hend.out
        · have heq:sv1 = sv3:=beq_iff_eq.1 HEb.out
          have hap:=apply_same HMa.out HFb.out HMc.out (by have h1:=HVv.out; omega)
          rw [HKe'.out] at hap
          have hend:=hDx (HEndF.out wh HEv.out)
          clear heq htz hnz
          rcases hap with rfl | rfl
          · go_wp2_with fail
            exact hend.out
          · go_wp2_with fail
            exact hend.out
     · rw [decide_eq_false hm]
       clear hm
       have hzz:=(HZF.out wg HEg.out).2.2.2.1
       obtain ⟨n0,n1,n2,n3,n4,n5,n6,n7,n8,n9⟩:=ten_cells (s:=S1) (ra:=x1) (rn:=x2) (rc:=x3) (ga:=x4) (gn:=x5) (gc:=x6) hzz
       clear hzz
       have HMy1g:=hDx (HMy1.out wg HEg.out)
       go_wp2_with fail
       refine HMy1g.out.mono ?_
       rintro e wg2 ⟨rfl,hbg⟩
       have HEg2:Hid (Below wF.heap.size wF wg2):=hDx (HEg.out.trans (hbg.mono HEg.out.size))
       clear hbg n0 n1 n2 n3 n4 n5 n6 n7 n8 n9
       rw [decide_eq_true HMa.out]
       have hzz:=(HZF.out wg2 HEg2.out).2.1
       obtain ⟨n0,n1,n2,n3,n4,n5,n6,n7,n8,n9⟩:=ten_cells (s:=S2) (ra:=g1) (rn:=g2) (rc:=g3) (ga:=g4) (gn:=g5) (gc:=g6) hzz
       clear hzz
       have HTo:=hDx (HTo2.out wg2 HEg2.out)
       go_wp2_with fail
       refine HTo.out.mono ?_
       rintro e wh ⟨xa,xn,xc,ya,yn,yc,rfl,hT,hbh⟩
       have HEh:Hid (Below wF.heap.size wF wh):=hDx (HEg2.out.trans (hbh.mono HEg2.out.size))
       have HPk:=hDx (HPk2.out wh xa xn xc ya yn yc hT)
       clear hbh hT n0 n1 n2 n3 n4 n5 n6 n7 n8 n9
       unfold snA
       go_wp2_with fail
       refine HPk.out.mono ?_
       rintro e wi ⟨t,rfl,ht,hbi⟩
       obtain ⟨r1,r2⟩:=toList_some (b:=t) (by rw [ht]; exact fun h => (packN_full S2).1 h HFb.out)
       have hend:=hDx (HEndF.out wi (HEh.out.trans (hbi.mono HEh.out.size)))
       clear hbi ht
       go_wp2_with fail
       exact hend.out
end Go.Proofs.YtagolklnjhpbdaaDoor.K
