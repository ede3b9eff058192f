import Derived.Test.YtagolklnjhpbdaaDoorMerged0
import Derived.Test.YtagolklnjhpbdaaDoorMerged27
import Derived.Test.YtagolklnjhpbdaaDoorDtRf
import Derived.Test.YtagolklnjhpbdaaDoorDtAp
import Derived.Test.YtagolklnjhpbdaaDoorSm01
import Derived.Test.YtagolklnjhpbdaaDoorMerged29
namespace Go.Proofs.YtagolklnjhpbdaaDoor.K
open Go.Proofs.YtagolklnjhpbdaaDoor.R (agree_frame mem_slots slot_put slot_same wanted_of wp_region_due)
open Go.RowKit Go.Proofs.YtagolklnjhpbdaaDoor.I
def C2 (a b rb m:Nat) (S1 S2:Sn) (w wB:World):Nat→(Nat→Value)→World→Prop
  | 0,_,u=>Below m wB u
  | 1,f,u=>Below m wB u∧AV m (f a) S1 u
  | 2,f,u=>Below m wB u∧AV m (f a) S1 u∧AV m (f b) S2 u
  | 3,f,u=>Below rb w u∧AO m rb S1 u∧u.heap[rb+1]?=wB.heap[rb+1]?∧AV m (f b) S2 u
  | _,_,u=>Below rb w u∧AO m rb S1 u∧AO m (rb+1) S2 u
theorem C2.base {a b rb m k:Nat} {S1 S2:Sn} {w wB u:World} {f:Nat→Value} (hk:k≤1) (h:C2 a b rb m S1 S2 w wB k f u):Below m wB u:=by
 match k,hk,h with
 | 0,_,h=>exact h
 | 1,_,h=>exact h.1
theorem C2.cong {a b rb m k:Nat} {S1 S2:Sn} {w wB u:World} {f f2:Nat→Value} (ea:k=1∨k=2→f a=f2 a) (eb:k=2∨k=3→f b=f2 b) (h:C2 a b rb m S1 S2 w wB k f u):C2 a b rb m S1 S2 w wB k f2 u:=by
 match k,h,ea,eb with
 | 0,h,_,_=>exact h
 | 1,⟨h,h1⟩,ea,_=>exact ⟨h,by rw [← ea (.inl rfl)]; exact h1⟩
 | 2,⟨h,h1,h2⟩,ea,eb=>exact ⟨h,by rw [← ea (.inr rfl)]; exact h1,by rw [← eb (.inl rfl)]; exact h2⟩
 | 3,⟨h,h1,h2,h3⟩,_,eb=>exact ⟨h,h1,h2,by rw [← eb (.inr rfl)]; exact h3⟩
 | _+4,h,_,_=>exact h
def BkOk3 (s1 s2:Sn) (a1:Option Addr) (a2 a3:Nat) (a4:Option Addr) (a5 a6:Nat) (b1:Option Addr) (b2 b3:Nat) (b4:Option Addr) (b5 b6:Nat):Nat→Value→World→Prop
  | 0,u,_=>u=.agg #[.int .i64 s1.k,.int .i64 s1.w,.int .i64 s1.h,.int .i64 s1.x,.int .i64 s1.y,.string s1.t,.slice a1 a2 a3,.int .i64 s1.n,.int .i64 s1.c,.slice a4 a5 a6]
  | 1,_,_=>True
  | 2,u,_=>u=.agg #[.int .i64 s2.k,.int .i64 s2.w,.int .i64 s2.h,.int .i64 s2.x,.int .i64 s2.y,.string s2.t,.slice b1 b2 b3,.int .i64 s2.n,.int .i64 s2.c,.slice b4 b5 b6]
  | 3,_,_=>True
  | 4,_,_=>True
  | 5,_,_=>True
  | _,_,_=>True
def BkOk4 (S1 S2:Sn) (c1:Option Addr) (c2 c3:Nat) (c4:Option Addr) (c5 c6:Nat) (g1:Option Addr) (g2 g3:Nat) (g4:Option Addr) (g5 g6:Nat):Nat→Value→World→Prop
  | 0,u,_=>u=.agg #[.int .i64 S1.k,.int .i64 S1.w,.int .i64 S1.h,.int .i64 S1.x,.int .i64 S1.y,.string S1.t,.slice c1 c2 c3,.int .i64 S1.n,.int .i64 S1.c,.slice c4 c5 c6]
  | 2,u,_=>u=.agg #[.int .i64 S2.k,.int .i64 S2.w,.int .i64 S2.h,.int .i64 S2.x,.int .i64 S2.y,.string S2.t,.slice g1 g2 g3,.int .i64 S2.n,.int .i64 S2.c,.slice g4 g5 g6]
  | _,_,_=>True
def BkOk6 (S1 S2:Sn) (c1:Option Addr) (c2 c3:Nat) (c4:Option Addr) (c5 c6:Nat) (g1:Option Addr) (g2 g3:Nat) (g4:Option Addr) (g5 g6:Nat) (x1:Option Addr) (x2 x3:Nat) (x4:Option Addr) (x5 x6:Nat) (y1:Option Addr) (y2 y3:Nat) (y4:Option Addr) (y5 y6:Nat) (d:ByteArray) (dn:Nat) (dl:List Int):Nat→Value→World→Prop
  | 0,u,_=>u=.string d
  | 1,u,_=>u=.agg #[.int .i64 S1.k,.int .i64 S1.w,.int .i64 S1.h,.int .i64 S1.x,.int .i64 S1.y,.string S1.t,.slice x1 x2 x3,.int .i64 S1.n,.int .i64 S1.c,.slice x4 x5 x6]
  | 2,u,_=>u=.agg #[.int .i64 S2.k,.int .i64 S2.w,.int .i64 S2.h,.int .i64 S2.x,.int .i64 S2.y,.string S2.t,.slice y1 y2 y3,.int .i64 S2.n,.int .i64 S2.c,.slice y4 y5 y6]
  | 3,u,_=>u=.string d
  | 4,u,_=>u=.bool false
  | 5,u,_=>u=.bool false
  | 6,u,_=>u=.agg #[.int .i64 S1.k,.int .i64 S1.w,.int .i64 S1.h,.int .i64 S1.x,.int .i64 S1.y,.string S1.t,.slice c1 c2 c3,.int .i64 S1.n,.int .i64 S1.c,.slice c4 c5 c6]
  | 7,u,_=>u=.agg #[.int .i64 S2.k,.int .i64 S2.w,.int .i64 S2.h,.int .i64 S2.x,.int .i64 S2.y,.string S2.t,.slice g1 g2 g3,.int .i64 S2.n,.int .i64 S2.c,.slice g4 g5 g6]
  | 8,u,w=>∃ ia ic,u=.slice ia dn ic∧Go.Proofs.YtagolklnjhpbdaaDoor.W.IntsIn ia dn dl w
  | 9,u,_=>u=.agg #[.int .i64 S1.k,.int .i64 S1.w,.int .i64 S1.h,.int .i64 S1.x,.int .i64 S1.y,.string S1.t,.slice x1 x2 x3,.int .i64 S1.n,.int .i64 S1.c,.slice x4 x5 x6]
  | 10,u,_=>u=.agg #[.int .i64 S2.k,.int .i64 S2.w,.int .i64 S2.h,.int .i64 S2.x,.int .i64 S2.y,.string S2.t,.slice y1 y2 y3,.int .i64 S2.n,.int .i64 S2.c,.slice y4 y5 y6]
  | 11,u,w=>∃ ia ic,u=.slice ia dn ic∧Go.Proofs.YtagolklnjhpbdaaDoor.W.IntsIn ia dn dl w
  | 12,u,_=>u=.bool true
  | 13,u,_=>u=.bool false
  | 14,u,_=>u=.bool false
  | _,_,_=>True
set_option maxRecDepth 100000 in
set_option maxHeartbeats 16000000 in
theorem deltaBack_walk (s1:Sn) (a1:Option Addr) (a2 a3:Nat) (a4:Option Addr) (a5 a6:Nat) (s2:Sn) (b1:Option Addr) (b2 b3:Nat) (b4:Option Addr) (b5 b6:Nat) (w:World) (hT0:S.Tab w)
    (hI1:SnIn .i32 a1 a2 a3 a4 a5 a6 s1 w) (hr1:∀ r ∈ s1.R,AllC Rng r.l) (hg1:∀ g ∈ s1.B,-2147483648≤g.1∧g.1≤2147483647) (ht1:(s1.t.size:Int)≤9223372036854775807)
    (hI2:SnIn .i32 b1 b2 b3 b4 b5 b6 s2 w) (hr2:∀ r ∈ s2.R,AllC Rng r.l) (hg2:∀ g ∈ s2.B,-2147483648≤g.1∧g.1≤2147483647) (ht2:(s2.t.size:Int)≤9223372036854775807) :
    Calls Tryd.prog 3 #[.agg (snA s1 a1 a2 a3 a4 a5 a6),.agg (snA s2 b1 b2 b3 b4 b5 b6)] w fun e w'=>e=.returned (.bool true)∧Below w.heap.size w w':=by
 obtain ⟨rb,hrb⟩ : ∃ rb,w.heap.size=rb:=⟨_,rfl⟩;obtain ⟨P,hP⟩ : ∃ P:Ending→World→Prop,(fun e w'=>e=.returned (.bool true)∧Below w.heap.size w w')=P:=⟨_,rfl⟩;rw [hP];have HEnd:Hid (∀ v,Below rb w v→P (.returned (.bool true)) v):=hDx (fun v hb=>by rw [← hP,hrb]; exact ⟨rfl,hb⟩);obtain ⟨w1,hw1⟩ : ∃ w1,((w.alloc (.cells (snA s1 a1 a2 a3 a4 a5 a6) 25)).alloc (.cells (snA s2 b1 b2 b3 b4 b5 b6) 25))=w1:=⟨_,rfl⟩;have bb1:Below w.heap.size w (w.alloc (.cells (snA s1 a1 a2 a3 a4 a5 a6) 25)):=(Below.refl _ _).alloc (Nat.le_refl _) _;have hb1:Below rb w w1:=by rw [← hw1,← hrb]; exact bb1.alloc (by rw [World.size_alloc]; omega) _
 have hz1:w1.heap[rb]?=some (.cells (snA s1 a1 a2 a3 a4 a5 a6) 25 (0,0)):=by
  rw [← hw1,← hrb,Below.heap_alloc _ _ _ (by rw [World.size_alloc]; omega)];exact heap_alloc_new w _
 have hy1:w1.heap[rb+1]?=some (.cells (snA s2 b1 b2 b3 b4 b5 b6) 25 (0,0)):=by
  have h:=heap_alloc_new (w.alloc (.cells (snA s1 a1 a2 a3 a4 a5 a6) 25)) (.cells (snA s2 b1 b2 b3 b4 b5 b6) 25);rw [World.size_alloc,hrb,hw1] at h;exact h
 obtain ⟨S1,hS1⟩ : ∃ S,cutN s1=S:=⟨_,rfl⟩;have HS1:=hDx hS1;have HO1b:Hid (SnB S1):=hDx (by rw [← hS1]; exact cutN_b hr1 hg1);have HT1:=hDx ht1;have HI1w:=hDx hI1;obtain ⟨S2,hS2⟩ : ∃ S,cutN s2=S:=⟨_,rfl⟩;have HS2:=hDx hS2;have HO2b:Hid (SnB S2):=hDx (by rw [← hS2]; exact cutN_b hr2 hg2);have HT2:=hDx ht2;have HI2w:=hDx hI2;have HFw2:Hid (Few S2):=hDx (by rw [← hS2]; exact cutN_few s2);have HTb:=hDx hT0;have HA:=hDx (awake17_any w1 (S.tab_of hT0 (show Below w.heap.size w w1 from by rw [hrb]; exact hb1)));have HW1:=hDx hw1;have HRb:=hDx hrb;have HB1:=hDx hb1;have HZ1w:=hDx hz1;have HY1w:=hDx hy1;clear hP hrb hw1 bb1 hb1 hz1 hy1 hT0 hS1 hS2 hr1 hr2 hg1 hg2 ht1 ht2 hI1 hI2;unfold snA at HW1;unfold snA
 go_enter Tryd.func3,Tryd.ntmps3
 go_upto_region 1 with fail
 rw [HW1.out,HRb.out]
 go_wp2_with fail
 refine HA.out.mono ?_;rintro e wB ⟨rfl,hbB⟩;obtain ⟨m,hm⟩ : ∃ m,wB.heap.size=m:=⟨_,rfl⟩;have HM:=hDx hm;have hz1l:=(gSx.1 HZ1w.out).1;have hy1l:=(gSx.1 HY1w.out).1;have HZa:=hDx ((hbB.block rb hz1l).trans HZ1w.out);have HZb:=hDx ((hbB.block (rb+1) hy1l).trans HY1w.out);have HBw:Hid (Below rb w wB):=hDx (HB1.out.trans (hbB.mono (by omega)));have HLt:Hid (rb<m∧rb+1<m):=hDx (by have:=hbB.size; omega);have HLt2:Hid (rb≤m):=hDx (by have:=hbB.size; omega);have HI1:=hDx (HI1w.out.belowAll (show Below w.heap.size w wB from by rw [HRb.out]; exact HBw.out));have HI2:=hDx (HI2w.out.belowAll (show Below w.heap.size w wB from by rw [HRb.out]; exact HBw.out));clear hm hbB hz1l hy1l HA
 go_upto_region 3 with fail
 refine wp_region_due [1,3,4,5] [0,1,1,2,3,4] (by kernel_rfl) (C2 13 15 rb m S1 S2 w wB) (fun _ _=>True) (BkOk3 s1 s2 a1 a2 a3 a4 a5 a6 b1 b2 b3 b4 b5 b6) (by rfl) (by kernel_rfl) (by kernel_rfl) (by kernel_rfl) (by kernel_rfl) ?hcong ?hOk ?hop ?hdone ?h0
 case hcong=>exact fun k f f2 u hs hst=>C2.cong (fun hk=>by rcases hk with hk | hk <;> exact hs 13 (mem_slots (by subst hk; kernel_rfl))) (fun hk=>by rcases hk with hk | hk <;> exact hs 15 (mem_slots (by subst hk; kernel_rfl))) hst
 case hOk=>intro i u w1 w2 h hr; unfold BkOk3 at h ⊢; split <;> first | exact True.intro | exact h
 case h0=>exact (Below.refl _ _).drew
 case hop =>
  refine ⟨?_,?_,?_,?_,?_,?_,trivial⟩
  · intro k z v hk hst hag hdep;refine .inl ⟨rfl,fun K hK=>?_⟩;have d2:z.tmps.getD 2 undef=.pointer (some ⟨rb,0,none⟩):=hag.2.2 2 (by kernel_rfl);have e2:=gEx d2;have hb:=C2.base (Nat.le_trans hk (by decide)) hst;have hz:=(hb.block (rb) HLt.out.1).trans HZa.out;unfold snA at hz;have lc0:v.cell? ⟨rb,0,none⟩=some (.int .i64 s1.k):=by rw [cell_block hz]; rfl
    have lc1:v.cell? ⟨rb,1,none⟩=some (.int .i64 s1.w):=by rw [cell_block hz]; rfl
    have lc2:v.cell? ⟨rb,2,none⟩=some (.int .i64 s1.h):=by rw [cell_block hz]; rfl
    have lc3:v.cell? ⟨rb,3,none⟩=some (.int .i64 s1.x):=by rw [cell_block hz]; rfl
    have lc4:v.cell? ⟨rb,4,none⟩=some (.int .i64 s1.y):=by rw [cell_block hz]; rfl
    have lc5:v.cell? ⟨rb,5,none⟩=some (.string s1.t):=by rw [cell_block hz]; rfl
    have lc6:v.cell? ⟨rb,6,none⟩=some (.slice a1 a2 a3):=by rw [cell_block hz]; rfl
    have lc7:v.cell? ⟨rb,7,none⟩=some (.int .i64 s1.n):=by rw [cell_block hz]; rfl
    have lc8:v.cell? ⟨rb,8,none⟩=some (.int .i64 s1.c):=by rw [cell_block hz]; rfl
    have lc9:v.cell? ⟨rb,9,none⟩=some (.slice a4 a5 a6):=by rw [cell_block hz]; rfl
    have HSt:=hDx hst;clear hdep hag hst;go_simp;exact hK _ _ trivial rfl HSt.out
  · intro z v hst hag hdep;refine ⟨rfl,fun K hK=>?_⟩;have d12:z.tmps.getD 12 undef=.agg #[.int .i64 s1.k,.int .i64 s1.w,.int .i64 s1.h,.int .i64 s1.x,.int .i64 s1.y,.string s1.t,.slice a1 a2 a3,.int .i64 s1.n,.int .i64 s1.c,.slice a4 a5 a6]:=hdep ⟨0,.data⟩ (by simp) rfl _ _ rfl rfl;have e12:=gEx d12;have hb:Below m wB v:=hst;have hca:=ncut_any s1 a1 a2 a3 a4 a5 a6 v (HI1.out.belowAll (by rw [HM.out]; exact hb)) HT1.out;unfold CutPost at hca;rw [HS1.out] at hca;have HCa:=hDx hca;clear hca;have HBv:=hDx hb;have hsz:13<z.tmps.size:=by rw [hag.2.1]; show 13<61; decide
    unfold snA at HCa;clear hdep hag hb hst;go_simp;refine HCa.out.mono ?_;rintro e w' ⟨xa,xn,xc,ya,yn,yc,rfl,hO,hb2⟩;exact hK _ _ trivial True.intro ⟨HBv.out.trans (hb2.mono (by have:=HBv.out.size; have:=HM.out; omega)),xa,xn,xc,ya,yn,yc,slot_same hsz,hO.weaken (by have:=HBv.out.size; have:=HM.out; omega)⟩
  · intro k z v hk hst hag hdep;refine .inl ⟨rfl,fun K hK=>?_⟩;have d3:z.tmps.getD 3 undef=.pointer (some ⟨rb+1,0,none⟩):=hag.2.2 3 (by kernel_rfl);have e3:=gEx d3;have hb:=C2.base (Nat.le_trans hk (by decide)) hst;have hz:=(hb.block (rb+1) HLt.out.2).trans HZb.out;unfold snA at hz;have lc0:v.cell? ⟨rb+1,0,none⟩=some (.int .i64 s2.k):=by rw [cell_block hz]; rfl
    have lc1:v.cell? ⟨rb+1,1,none⟩=some (.int .i64 s2.w):=by rw [cell_block hz]; rfl
    have lc2:v.cell? ⟨rb+1,2,none⟩=some (.int .i64 s2.h):=by rw [cell_block hz]; rfl
    have lc3:v.cell? ⟨rb+1,3,none⟩=some (.int .i64 s2.x):=by rw [cell_block hz]; rfl
    have lc4:v.cell? ⟨rb+1,4,none⟩=some (.int .i64 s2.y):=by rw [cell_block hz]; rfl
    have lc5:v.cell? ⟨rb+1,5,none⟩=some (.string s2.t):=by rw [cell_block hz]; rfl
    have lc6:v.cell? ⟨rb+1,6,none⟩=some (.slice b1 b2 b3):=by rw [cell_block hz]; rfl
    have lc7:v.cell? ⟨rb+1,7,none⟩=some (.int .i64 s2.n):=by rw [cell_block hz]; rfl
    have lc8:v.cell? ⟨rb+1,8,none⟩=some (.int .i64 s2.c):=by rw [cell_block hz]; rfl
    have lc9:v.cell? ⟨rb+1,9,none⟩=some (.slice b4 b5 b6):=by rw [cell_block hz]; rfl
    have HSt:=hDx hst;clear hdep hag hst;go_simp;exact hK _ _ trivial rfl HSt.out
  · intro z v hst hag hdep;refine ⟨rfl,fun K hK=>?_⟩;have d14:z.tmps.getD 14 undef=.agg #[.int .i64 s2.k,.int .i64 s2.w,.int .i64 s2.h,.int .i64 s2.x,.int .i64 s2.y,.string s2.t,.slice b1 b2 b3,.int .i64 s2.n,.int .i64 s2.c,.slice b4 b5 b6]:=hdep ⟨2,.data⟩ (by simp) rfl _ _ rfl rfl;have e14:=gEx d14;obtain ⟨hb,hv1⟩ : Below m wB v∧AV m (z.tmps.getD 13 undef) S1 v:=hst;have hca:=ncut_any s2 b1 b2 b3 b4 b5 b6 v (HI2.out.belowAll (by rw [HM.out]; exact hb)) HT2.out;unfold CutPost at hca;rw [HS2.out] at hca;have HCa:=hDx hca;clear hca;have HBv:=hDx hb;have HV1:=hDx hv1;have hsz:15<z.tmps.size:=by rw [hag.2.1]; show 15<61; decide
    unfold snA at HCa;clear hdep hag hb hv1;go_simp;refine HCa.out.mono ?_;rintro e w' ⟨xa,xn,xc,ya,yn,yc,rfl,hO,hb2⟩;exact hK _ _ trivial True.intro ⟨HBv.out.trans (hb2.mono (by have:=HBv.out.size; have:=HM.out; omega)),by rw [slot_put (by decide)]; exact HV1.out.below hb2,xa,xn,xc,ya,yn,yc,slot_same hsz,hO.weaken (by have:=HBv.out.size; have:=HM.out; omega)⟩
  · intro z v hst hag hdep;refine ⟨rfl,fun K hK=>?_⟩;have d2:z.tmps.getD 2 undef=.pointer (some ⟨rb,0,none⟩):=hag.2.2 2 (by kernel_rfl);have e2:=gEx d2;obtain ⟨hb,⟨c1,c2,c3,c4,c5,c6,e13v,hO⟩,hv2⟩ : Below m wB v∧AV m (z.tmps.getD 13 undef) S1 v∧AV m (z.tmps.getD 15 undef) S2 v:=hst;unfold snA at e13v;have d13:=e13v;have e13:=gEx d13;have hz:=(hb.block rb HLt.out.1).trans HZa.out;unfold snA at hz;have lc0:v.cell? ⟨rb,0,none⟩=some (.int .i64 s1.k):=by rw [cell_block hz]; rfl
    have lc1:v.cell? ⟨rb,1,none⟩=some (.int .i64 s1.w):=by rw [cell_block hz]; rfl
    have lc2:v.cell? ⟨rb,2,none⟩=some (.int .i64 s1.h):=by rw [cell_block hz]; rfl
    have lc3:v.cell? ⟨rb,3,none⟩=some (.int .i64 s1.x):=by rw [cell_block hz]; rfl
    have lc4:v.cell? ⟨rb,4,none⟩=some (.int .i64 s1.y):=by rw [cell_block hz]; rfl
    have lc5:v.cell? ⟨rb,5,none⟩=some (.string s1.t):=by rw [cell_block hz]; rfl
    have lc6:v.cell? ⟨rb,6,none⟩=some (.slice a1 a2 a3):=by rw [cell_block hz]; rfl
    have lc7:v.cell? ⟨rb,7,none⟩=some (.int .i64 s1.n):=by rw [cell_block hz]; rfl
    have lc8:v.cell? ⟨rb,8,none⟩=some (.int .i64 s1.c):=by rw [cell_block hz]; rfl
    have lc9:v.cell? ⟨rb,9,none⟩=some (.slice a4 a5 a6):=by rw [cell_block hz]; rfl
    have f0:=frozen_block hz 0;have f1:=frozen_block hz 1;have f2:=frozen_block hz 2;have f3:=frozen_block hz 3;have f4:=frozen_block hz 4;have f5:=frozen_block hz 5;have f6:=frozen_block hz 6;have f7:=frozen_block hz 7;have f8:=frozen_block hz 8;have f9:=frozen_block hz 9;obtain ⟨gg,hx⟩ := set10 hz (.int .i64 S1.k) (.int .i64 S1.w) (.int .i64 S1.h) (.int .i64 S1.x) (.int .i64 S1.y) (.string S1.t) (.slice c1 c2 c3) (.int .i64 S1.n) (.int .i64 S1.c) (.slice c4 c5 c6);have HGg:=hDx gg;have HXx:=hDx hx;have HO:=hDx hO;have HBv:=hDx hb;have HV2:=hDx hv2;clear hdep hag hb hz hO hv2 gg hx e13v;go_simp
    exact hK undef _ trivial True.intro ⟨(HBw.out.trans (HBv.out.mono HLt2.out)).trans ((Below.refl rb v).grown HGg.out (by have:=HBv.out.size; have:=HLt2.out; have:=HM.out; omega) (fun q e=>by have:=Option.some.inj e; omega)),⟨c1,c2,c3,c4,c5,c6,HXx.out,HO.out.grown HGg.out HLt.out.1⟩,(HGg.out.block (rb+1) (by have:=HBv.out.size; have:=HLt.out.2; have:=HM.out; omega) (fun e=>by have:=Option.some.inj e; omega)).trans (HBv.out.block (rb+1) HLt.out.2),HV2.out.grown HGg.out HLt.out.1⟩
  · intro z v hst hag hdep;refine ⟨rfl,fun K hK=>?_⟩;have d3:z.tmps.getD 3 undef=.pointer (some ⟨rb+1,0,none⟩):=hag.2.2 3 (by kernel_rfl);have e3:=gEx d3;obtain ⟨hb,ha1,hz0,c1,c2,c3,c4,c5,c6,e15v,hO⟩ : Below rb w v∧AO m rb S1 v∧v.heap[rb+1]?=wB.heap[rb+1]?∧AV m (z.tmps.getD 15 undef) S2 v:=hst;unfold snA at e15v;have d15:=e15v;have e15:=gEx d15;have hz:=hz0.trans HZb.out;unfold snA at hz;have lc0:v.cell? ⟨rb+1,0,none⟩=some (.int .i64 s2.k):=by rw [cell_block hz]; rfl
    have lc1:v.cell? ⟨rb+1,1,none⟩=some (.int .i64 s2.w):=by rw [cell_block hz]; rfl
    have lc2:v.cell? ⟨rb+1,2,none⟩=some (.int .i64 s2.h):=by rw [cell_block hz]; rfl
    have lc3:v.cell? ⟨rb+1,3,none⟩=some (.int .i64 s2.x):=by rw [cell_block hz]; rfl
    have lc4:v.cell? ⟨rb+1,4,none⟩=some (.int .i64 s2.y):=by rw [cell_block hz]; rfl
    have lc5:v.cell? ⟨rb+1,5,none⟩=some (.string s2.t):=by rw [cell_block hz]; rfl
    have lc6:v.cell? ⟨rb+1,6,none⟩=some (.slice b1 b2 b3):=by rw [cell_block hz]; rfl
    have lc7:v.cell? ⟨rb+1,7,none⟩=some (.int .i64 s2.n):=by rw [cell_block hz]; rfl
    have lc8:v.cell? ⟨rb+1,8,none⟩=some (.int .i64 s2.c):=by rw [cell_block hz]; rfl
    have lc9:v.cell? ⟨rb+1,9,none⟩=some (.slice b4 b5 b6):=by rw [cell_block hz]; rfl
    have f0:=frozen_block hz 0;have f1:=frozen_block hz 1;have f2:=frozen_block hz 2;have f3:=frozen_block hz 3;have f4:=frozen_block hz 4;have f5:=frozen_block hz 5;have f6:=frozen_block hz 6;have f7:=frozen_block hz 7;have f8:=frozen_block hz 8;have f9:=frozen_block hz 9;obtain ⟨gg,hx⟩ := set10 hz (.int .i64 S2.k) (.int .i64 S2.w) (.int .i64 S2.h) (.int .i64 S2.x) (.int .i64 S2.y) (.string S2.t) (.slice c1 c2 c3) (.int .i64 S2.n) (.int .i64 S2.c) (.slice c4 c5 c6);have HGg:=hDx gg;have HXx:=hDx hx;have HO:=hDx hO;have HBv:=hDx hb;have HAo:=hDx ha1;have hlz:=(gSx.1 hz).1;clear hdep hag hb hz hz0 hO ha1 gg hx e15v;go_simp;exact hK undef _ trivial True.intro ⟨HBv.out.trans ((Below.refl rb v).grown HGg.out (by omega) (fun q e=>by have:=Option.some.inj e; omega)),HAo.out.grown HGg.out HLt.out.2 (by omega),⟨c1,c2,c3,c4,c5,c6,HXx.out,HO.out.grown HGg.out HLt.out.2⟩⟩
 case hdone =>
  intro z v hst hag hok;obtain ⟨hb3,ha3,hb3'⟩ : Below rb w v∧AO m rb S1 v∧AO m (rb+1) S2 v:=hst;have HBE0:=hDx hb3;have HA3:=hDx ha3;have HAb3:=hDx hb3';clear hb3 ha3 hb3';obtain ⟨uu,hu,hzz⟩ := agree_frame [12,13,14,15] rfl hag;subst hzz;simp only [List.foldl_cons,List.foldl_nil];rw [];clear  hu hag hok
  try dsimp only [Exit.then]
  simp only [List.setIfInBounds_toArray,List.set_cons_succ,List.set_cons_zero];generalize uu 12=u12',uu 13=u13',uu 14=u14',uu 15=u15';clear uu;rename_i K3 hK3;refine hK3 _ _ ?_;obtain ⟨wE,hwE⟩ : ∃ wE,v=wE:=⟨_,rfl⟩;rw [hwE] at HBE0 HA3 HAb3 ⊢;have HBE:=HBE0;clear hwE HBE0;obtain ⟨c1,c2,c3,c4,c5,c6,hz4,hO1⟩ := HA3.out;obtain ⟨g1,g2,g3,g4,g5,g6,hy4,hO2⟩ := HAb3.out;obtain ⟨m5,hm5⟩ : ∃ m,wE.heap.size=m:=⟨_,rfl⟩;have HM5:=hDx hm5;have HZ1:=hDx hz4;have HZ2:=hDx hy4;have HO1:=hDx hO1;have HO2:=hDx hO2;have HLt5:Hid (rb<m5∧rb+1<m5):=hDx (by have:=(gSx.1 hy4).1; omega);clear hz4 hy4 hm5 hO1 hO2 HA3 HAb3
  go_upto_region 4 with fail
  refine Go.Proofs.YtagolklnjhpbdaaDoor.R.wp_region_seen [1,3,6,7] [0,1,1,2,2,2,3,4] (by kernel_rfl) (B4 5 6 17 19 m5 S1 S2 wE) (fun _ _=>True) (BkOk4 S1 S2 c1 c2 c3 c4 c5 c6 g1 g2 g3 g4 g5 g6) (by rfl) (by kernel_rfl) (by kernel_rfl) (by kernel_rfl) (by kernel_rfl) ?hOk ?hop ?hdone ?h0
  case hOk=>intro i u w1 w2 h hr; unfold BkOk4 at h ⊢; split <;> first | exact True.intro | exact h
  case h0=>exact (And.intro ((Below.refl _ _).drew) (Al.mk (fun e=>by cases e) (fun e=>by cases e) (fun e=>by cases e)))
  case hop =>
   refine ⟨?_,?_,?_,?_,?_,?_,?_,?_,trivial⟩
   · intro k L z v hk hL hst hag hpre hdep;have hk2:k≤2:=Nat.le_trans hk (by decide);refine .inl ⟨rfl,fun K hK=>?_⟩;have d2:z.tmps.getD 2 undef=.pointer (some ⟨rb,0,none⟩):=hag.2.2 2 (by kernel_rfl);have e2:=gEx d2;have hb:=hst.base;have hz:=(hb.block (rb) HLt5.out.1).trans HZ1.out;unfold snA at hz;have lc0:v.cell? ⟨rb,0,none⟩=some (.int .i64 S1.k):=by rw [cell_block hz]; rfl
     have lc1:v.cell? ⟨rb,1,none⟩=some (.int .i64 S1.w):=by rw [cell_block hz]; rfl
     have lc2:v.cell? ⟨rb,2,none⟩=some (.int .i64 S1.h):=by rw [cell_block hz]; rfl
     have lc3:v.cell? ⟨rb,3,none⟩=some (.int .i64 S1.x):=by rw [cell_block hz]; rfl
     have lc4:v.cell? ⟨rb,4,none⟩=some (.int .i64 S1.y):=by rw [cell_block hz]; rfl
     have lc5:v.cell? ⟨rb,5,none⟩=some (.string S1.t):=by rw [cell_block hz]; rfl
     have lc6:v.cell? ⟨rb,6,none⟩=some (.slice c1 c2 c3):=by rw [cell_block hz]; rfl
     have lc7:v.cell? ⟨rb,7,none⟩=some (.int .i64 S1.n):=by rw [cell_block hz]; rfl
     have lc8:v.cell? ⟨rb,8,none⟩=some (.int .i64 S1.c):=by rw [cell_block hz]; rfl
     have lc9:v.cell? ⟨rb,9,none⟩=some (.slice c4 c5 c6):=by rw [cell_block hz]; rfl
     have HSt:=hDx hst;clear hdep hag hst hb hz;go_simp;exact hK _ _ trivial rfl (B4.cong hk2 (Al.keep (L:=L) rfl rfl (slot_put (by decide)) (slot_put (by decide)) (HSt.out.al hk2)) (slot_put (by decide)).symm (slot_put (by decide)).symm HSt.out)
   · intro L z v hL hst hag hpre hdep;refine ⟨rfl,fun K hK=>?_⟩;have d16:z.tmps.getD 16 undef=.agg #[.int .i64 S1.k,.int .i64 S1.w,.int .i64 S1.h,.int .i64 S1.x,.int .i64 S1.y,.string S1.t,.slice c1 c2 c3,.int .i64 S1.n,.int .i64 S1.c,.slice c4 c5 c6]:=hdep ⟨0,.data⟩ (by simp) rfl _ _ rfl rfl;have e16:=gEx d16;have hb:=hst.base;have HCa:=hDx (ntold_any S1 c1 c2 c3 c4 c5 c6 v ((HO1.out.below (by rw [HM5.out]; exact hb)).snIn) HO1b.out);have hsz:17<z.tmps.size:=by rw [hag.2.1]; show 17<61; decide
     have HSt:=hDx hst;have HBv:=hDx hb;unfold snA at HCa;clear hdep hag hst hb;go_simp;refine HCa.out.mono ?_;rintro e w' ⟨xa,xn,xc,ya,yn,yc,rfl,hT,hb2⟩;have hmr:=B4.more (by rw [HM5.out]; exact Nat.le_refl _) (by decide) HSt.out hb2;exact hK _ _ trivial True.intro ⟨hmr.1,(Al.keep (L:=L) rfl rfl (slot_put (by decide)) (slot_put (by decide)) hmr.2),⟨xa,xn,xc,ya,yn,yc,slot_same hsz,hT⟩⟩
   · intro k L z v hk hL hst hag hpre hdep;have hk2:k≤2:=Nat.le_trans hk (by decide);refine .inl ⟨rfl,fun K hK=>?_⟩;have d3:z.tmps.getD 3 undef=.pointer (some ⟨rb+1,0,none⟩):=hag.2.2 3 (by kernel_rfl);have e3:=gEx d3;have hb:=hst.base;have hz:=(hb.block (rb+1) HLt5.out.2).trans HZ2.out;unfold snA at hz;have lc0:v.cell? ⟨rb+1,0,none⟩=some (.int .i64 S2.k):=by rw [cell_block hz]; rfl
     have lc1:v.cell? ⟨rb+1,1,none⟩=some (.int .i64 S2.w):=by rw [cell_block hz]; rfl
     have lc2:v.cell? ⟨rb+1,2,none⟩=some (.int .i64 S2.h):=by rw [cell_block hz]; rfl
     have lc3:v.cell? ⟨rb+1,3,none⟩=some (.int .i64 S2.x):=by rw [cell_block hz]; rfl
     have lc4:v.cell? ⟨rb+1,4,none⟩=some (.int .i64 S2.y):=by rw [cell_block hz]; rfl
     have lc5:v.cell? ⟨rb+1,5,none⟩=some (.string S2.t):=by rw [cell_block hz]; rfl
     have lc6:v.cell? ⟨rb+1,6,none⟩=some (.slice g1 g2 g3):=by rw [cell_block hz]; rfl
     have lc7:v.cell? ⟨rb+1,7,none⟩=some (.int .i64 S2.n):=by rw [cell_block hz]; rfl
     have lc8:v.cell? ⟨rb+1,8,none⟩=some (.int .i64 S2.c):=by rw [cell_block hz]; rfl
     have lc9:v.cell? ⟨rb+1,9,none⟩=some (.slice g4 g5 g6):=by rw [cell_block hz]; rfl
     have HSt:=hDx hst;clear hdep hag hst hb hz;go_simp;exact hK _ _ trivial rfl (B4.cong hk2 (Al.keep (L:=L) rfl rfl (slot_put (by decide)) (slot_put (by decide)) (HSt.out.al hk2)) (slot_put (by decide)).symm (slot_put (by decide)).symm HSt.out)
   · intro L z v hL hst hag hpre hdep;refine ⟨rfl,fun K hK=>?_⟩;have d18:z.tmps.getD 18 undef=.agg #[.int .i64 S2.k,.int .i64 S2.w,.int .i64 S2.h,.int .i64 S2.x,.int .i64 S2.y,.string S2.t,.slice g1 g2 g3,.int .i64 S2.n,.int .i64 S2.c,.slice g4 g5 g6]:=hdep ⟨2,.data⟩ (by simp) rfl _ _ rfl rfl;have e18:=gEx d18;have hb:=hst.base;have HCa:=hDx (ntold_any S2 g1 g2 g3 g4 g5 g6 v ((HO2.out.below (by rw [HM5.out]; exact hb)).snIn) HO2b.out);have hsz:19<z.tmps.size:=by rw [hag.2.1]; show 19<61; decide
     have HSt:=hDx hst;have HBv:=hDx hb;unfold snA at HCa;clear hdep hag hst hb;go_simp;refine HCa.out.mono ?_;rintro e w' ⟨xa,xn,xc,ya,yn,yc,rfl,hT,hb2⟩;have hmr:=B4.more (by rw [HM5.out]; exact Nat.le_refl _) (by decide) HSt.out hb2;exact hK _ _ trivial True.intro ⟨hmr.1,(Al.keep (L:=L) rfl rfl (slot_put (by decide)) (slot_put (by decide)) hmr.2.1),by rw [slot_put (by decide)]; exact hmr.2.2,⟨xa,xn,xc,ya,yn,yc,slot_same hsz,hT⟩⟩
   · intro k L z v hk hL hst hag hpre hdep;have hk2:k≤2:=Nat.le_trans hk (by decide);refine .inl ⟨rfl,fun K hK=>?_⟩;have hsz:5<z.tmps.size:=by rw [hag.2.1]; show 5<61; decide
     have HBv:=hDx hst.base;have HAl:=hDx (hst.al hk2);have HSt:=hDx hst;clear hdep hag hst;go_simp;have hb2:Below v.heap.size v (v.alloc (.cells #[.int .i64 0,.int .i64 0,.int .i64 0,.int .i64 0,.int .i64 0,.string ⟨#[]⟩,.slice none 0 0,.int .i64 0,.int .i64 0,.slice none 0 0] 32)):=(Below.refl _ _).alloc (Nat.le_refl _) _;have hmr:=B4.more (by rw [HM5.out]; exact Nat.le_refl _) hk2 HSt.out hb2;have hA2:=HAl.out.below hb2;exact hK _ _ trivial True.intro (B4.cong hk2 ⟨fun _=>⟨v.heap.size,slot_same hsz,by have:=HBv.out.size; have:=HM5.out; omega,heap_alloc_new v _⟩,fun e=>by rw [slot_put (by decide)]; exact hA2.b e,fun _ e h=>by rw [slot_same hsz,slot_put (by decide)] at h; obtain ⟨p,h1,-,h3⟩ := HAl.out.b e; rw [h1] at h; injection h with h; injection h with h; injection h with h; have:=(gSx.1 h3).1; omega⟩ (slot_put (by decide)).symm (slot_put (by decide)).symm hmr)
   · intro k L z v hk hL hst hag hpre hdep;have hk2:k≤2:=Nat.le_trans hk (by decide);refine .inl ⟨rfl,fun K hK=>?_⟩;have hsz:6<z.tmps.size:=by rw [hag.2.1]; show 6<61; decide
     have HBv:=hDx hst.base;have HAl:=hDx (hst.al hk2);have HSt:=hDx hst;clear hdep hag hst;go_simp;have hb2:Below v.heap.size v (v.alloc (.cells #[.int .i64 0,.int .i64 0,.int .i64 0,.int .i64 0,.int .i64 0,.string ⟨#[]⟩,.slice none 0 0,.int .i64 0,.int .i64 0,.slice none 0 0] 32)):=(Below.refl _ _).alloc (Nat.le_refl _) _;have hmr:=B4.more (by rw [HM5.out]; exact Nat.le_refl _) hk2 HSt.out hb2;have hA2:=HAl.out.below hb2;exact hK _ _ trivial True.intro (B4.cong hk2 ⟨fun e=>by rw [slot_put (by decide)]; exact hA2.a e,fun _=>⟨v.heap.size,slot_same hsz,by have:=HBv.out.size; have:=HM5.out; omega,heap_alloc_new v _⟩,fun e _ h=>by rw [slot_same hsz,slot_put (by decide)] at h; obtain ⟨p,h1,-,h3⟩ := HAl.out.a e; rw [h1] at h; injection h with h; injection h with h; injection h with h; have:=(gSx.1 h3).1; omega⟩ (slot_put (by decide)).symm (slot_put (by decide)).symm hmr)
   · intro L z v hL hst hag hpre hdep;refine ⟨rfl,fun K hK=>?_⟩;have h4:L 4=true:=hpre ⟨4,.data⟩ (by simp) rfl;have h5:L 5=true:=hpre ⟨5,.phase⟩ (by simp) rfl;obtain ⟨hb,hA,⟨xa,xn,xc,ya,yn,yc,ev,hT⟩,hv⟩ : Below m5 wE v∧Al 5 6 m5 L (Go.Proofs.YtagolklnjhpbdaaDoor.R.slot z) v∧TV (z.tmps.getD 17 undef) S1 v∧TV (z.tmps.getD 19 undef) S2 v:=hst;obtain ⟨p5,ep,hp5,hz⟩ := hA.a h4;obtain ⟨p6,eq,hp6,hz6⟩ := hA.b h5;have hne:p5≠p6:=fun e=>hA.n h4 h5 (by rw [ep,eq,e])
     unfold snA at ev;have d17:z.tmps.getD 17 undef=.agg #[.int .i64 S1.k,.int .i64 S1.w,.int .i64 S1.h,.int .i64 S1.x,.int .i64 S1.y,.string S1.t,.slice xa xn xc,.int .i64 S1.n,.int .i64 S1.c,.slice ya yn yc]:=ev;have e17:=gEx d17;have d5:z.tmps.getD 5 undef=.pointer (some ⟨p5,0,none⟩):=ep;have e5:=gEx d5;have lc0:v.cell? ⟨p5,0,none⟩=some (.int .i64 0):=by rw [cell_block hz]; rfl
     have lc1:v.cell? ⟨p5,1,none⟩=some (.int .i64 0):=by rw [cell_block hz]; rfl
     have lc2:v.cell? ⟨p5,2,none⟩=some (.int .i64 0):=by rw [cell_block hz]; rfl
     have lc3:v.cell? ⟨p5,3,none⟩=some (.int .i64 0):=by rw [cell_block hz]; rfl
     have lc4:v.cell? ⟨p5,4,none⟩=some (.int .i64 0):=by rw [cell_block hz]; rfl
     have lc5:v.cell? ⟨p5,5,none⟩=some (.string ⟨#[]⟩):=by rw [cell_block hz]; rfl
     have lc6:v.cell? ⟨p5,6,none⟩=some (.slice none 0 0):=by rw [cell_block hz]; rfl
     have lc7:v.cell? ⟨p5,7,none⟩=some (.int .i64 0):=by rw [cell_block hz]; rfl
     have lc8:v.cell? ⟨p5,8,none⟩=some (.int .i64 0):=by rw [cell_block hz]; rfl
     have lc9:v.cell? ⟨p5,9,none⟩=some (.slice none 0 0):=by rw [cell_block hz]; rfl
     have f0:=frozen_block hz 0;have f1:=frozen_block hz 1;have f2:=frozen_block hz 2;have f3:=frozen_block hz 3;have f4:=frozen_block hz 4;have f5:=frozen_block hz 5;have f6:=frozen_block hz 6;have f7:=frozen_block hz 7;have f8:=frozen_block hz 8;have f9:=frozen_block hz 9;obtain ⟨gg,hx⟩ := set10 hz (.int .i64 S1.k) (.int .i64 S1.w) (.int .i64 S1.h) (.int .i64 S1.x) (.int .i64 S1.y) (.string S1.t) (.slice xa xn xc) (.int .i64 S1.n) (.int .i64 S1.c) (.slice ya yn yc);have HGg:=hDx gg;have HXx:=hDx hx;have HZz:=hDx hz;have HTt:=hDx hT;have HBv:=hDx hb;have HV:=hDx hv;have HP6:=hDx hz6;have HEp:Hid (Go.Proofs.YtagolklnjhpbdaaDoor.R.slot z 5=.pointer (some ⟨p5,0,none⟩)):=hDx ep;have HEq:Hid (Go.Proofs.YtagolklnjhpbdaaDoor.R.slot z 6=.pointer (some ⟨p6,0,none⟩)):=hDx eq;have HNe:=hDx hne;have HPm:=hDx (And.intro hp5 hp6);clear hdep hag hb hz hT hv gg hx ev ep eq hA hpre hz6 hne hp5 hp6;go_simp
     exact hK undef _ trivial True.intro ⟨HBv.out.trans ((Below.refl m5 v).grown HGg.out (by have:=HBv.out.size; have:=HM5.out; omega) (fun q e=>by have:=Option.some.inj e; have:=HPm.out.1; omega)),p5,p6,HEp.out,HEq.out,HPm.out.2,HNe.out,⟨xa,xn,xc,ya,yn,yc,HXx.out,HTt.out.wrote HGg.out HZz.out⟩,(HGg.out.block p6 (gSx.1 HP6.out).1 (fun e=>HNe.out (Option.some.inj e).symm)).trans HP6.out,HV.out.wrote HGg.out HZz.out⟩
   · intro L z v hL hst hag hpre hdep;refine ⟨rfl,fun K hK=>?_⟩;obtain ⟨hb,p5,p6,ep5,ep,hp6,hne,hto,hz,⟨xa,xn,xc,ya,yn,yc,ev,hT⟩⟩ : Below m5 wE v∧∃ p5 p6,z.tmps.getD 5 undef=.pointer (some ⟨p5,0,none⟩)∧z.tmps.getD 6 undef=.pointer (some ⟨p6,0,none⟩)∧m5≤p6∧p5≠p6∧TO p5 S1 v∧v.heap[p6]?=some (.cells #[.int .i64 0,.int .i64 0,.int .i64 0,.int .i64 0,.int .i64 0,.string ⟨#[]⟩,.slice none 0 0,.int .i64 0,.int .i64 0,.slice none 0 0] 32 (0,0))∧TV (z.tmps.getD 19 undef) S2 v:=hst;unfold snA at ev;have d19:z.tmps.getD 19 undef=.agg #[.int .i64 S2.k,.int .i64 S2.w,.int .i64 S2.h,.int .i64 S2.x,.int .i64 S2.y,.string S2.t,.slice xa xn xc,.int .i64 S2.n,.int .i64 S2.c,.slice ya yn yc]:=ev;have e19:=gEx d19;have d6:z.tmps.getD 6 undef=.pointer (some ⟨p6,0,none⟩):=ep;have e6:=gEx d6;have lc0:v.cell? ⟨p6,0,none⟩=some (.int .i64 0):=by rw [cell_block hz]; rfl
     have lc1:v.cell? ⟨p6,1,none⟩=some (.int .i64 0):=by rw [cell_block hz]; rfl
     have lc2:v.cell? ⟨p6,2,none⟩=some (.int .i64 0):=by rw [cell_block hz]; rfl
     have lc3:v.cell? ⟨p6,3,none⟩=some (.int .i64 0):=by rw [cell_block hz]; rfl
     have lc4:v.cell? ⟨p6,4,none⟩=some (.int .i64 0):=by rw [cell_block hz]; rfl
     have lc5:v.cell? ⟨p6,5,none⟩=some (.string ⟨#[]⟩):=by rw [cell_block hz]; rfl
     have lc6:v.cell? ⟨p6,6,none⟩=some (.slice none 0 0):=by rw [cell_block hz]; rfl
     have lc7:v.cell? ⟨p6,7,none⟩=some (.int .i64 0):=by rw [cell_block hz]; rfl
     have lc8:v.cell? ⟨p6,8,none⟩=some (.int .i64 0):=by rw [cell_block hz]; rfl
     have lc9:v.cell? ⟨p6,9,none⟩=some (.slice none 0 0):=by rw [cell_block hz]; rfl
     have f0:=frozen_block hz 0;have f1:=frozen_block hz 1;have f2:=frozen_block hz 2;have f3:=frozen_block hz 3;have f4:=frozen_block hz 4;have f5:=frozen_block hz 5;have f6:=frozen_block hz 6;have f7:=frozen_block hz 7;have f8:=frozen_block hz 8;have f9:=frozen_block hz 9;obtain ⟨gg,hx⟩ := set10 hz (.int .i64 S2.k) (.int .i64 S2.w) (.int .i64 S2.h) (.int .i64 S2.x) (.int .i64 S2.y) (.string S2.t) (.slice xa xn xc) (.int .i64 S2.n) (.int .i64 S2.c) (.slice ya yn yc);have HGg:=hDx gg;have HXx:=hDx hx;have HZz:=hDx hz;have HTt:=hDx hT;have HBv:=hDx hb;have HTo:=hDx hto;have HEp:Hid (Go.Proofs.YtagolklnjhpbdaaDoor.R.slot z 5=.pointer (some ⟨p5,0,none⟩)):=hDx ep5;have HEq:Hid (Go.Proofs.YtagolklnjhpbdaaDoor.R.slot z 6=.pointer (some ⟨p6,0,none⟩)):=hDx ep;have HNe:=hDx hne;have HPm:=hDx hp6;clear hdep hag hb hz hT hto gg hx ev ep ep5 hpre hne hp6;go_simp
     exact hK undef _ trivial True.intro ⟨HBv.out.trans ((Below.refl m5 v).grown HGg.out (by have:=HBv.out.size; have:=HM5.out; omega) (fun q e=>by have:=Option.some.inj e; have:=HPm.out; omega)),p5,p6,HEp.out,HEq.out,HTo.out.wrote HGg.out HZz.out HNe.out,⟨xa,xn,xc,ya,yn,yc,HXx.out,HTt.out.wrote HGg.out HZz.out⟩⟩
  case hdone =>
   intro z v L hall hst hag hok;obtain ⟨hb4,p5,p6,f5,f6,hx5,hx6⟩ : Below m5 wE v∧∃ p5 p6,z.tmps.getD 5 undef=.pointer (some ⟨p5,0,none⟩)∧z.tmps.getD 6 undef=.pointer (some ⟨p6,0,none⟩)∧TO p5 S1 v∧TO p6 S2 v:=hst;have d5:z.tmps.getD 5 undef=.pointer (some ⟨p5,0,none⟩):=f5;have d6:z.tmps.getD 6 undef=.pointer (some ⟨p6,0,none⟩):=f6;have HB5:=hDx hb4;have HX5:=hDx hx5;have HX6:=hDx hx6;clear f5 f6 hb4 hx5 hx6;obtain ⟨uu,hu,hzz⟩ := agree_frame [16,17,18,19,5,6] rfl hag;have e5:=(hu 5).trans d5;have e6:=(hu 6).trans d6;subst hzz;simp only [List.foldl_cons,List.foldl_nil];rw [e5,e6];clear e5 d5 e6 d6 hu hag hok
   try dsimp only [Exit.then]
   simp only [List.setIfInBounds_toArray,List.set_cons_succ,List.set_cons_zero];generalize uu 16=u16',uu 17=u17',uu 18=u18',uu 19=u19';clear uu;rename_i K4 hK4;refine hK4 _ _ ?_;obtain ⟨wF0,hwF⟩ : ∃ wF,v=wF:=⟨_,rfl⟩;rw [hwF] at HB5 HX5 HX6 ⊢;clear hwF;obtain ⟨x1,x2,x3,x4,x5,x6,hx5,hT1⟩ := HX5.out;obtain ⟨y1,y2,y3,y4,y5,y6,hx6,hT2⟩ := HX6.out;have hF1:=(HB5.out.block rb HLt5.out.1).trans HZ1.out;have hF2:=(HB5.out.block (rb+1) HLt5.out.2).trans HZ2.out;have hbF:Below wE.heap.size wE wF0:=by rw [HM5.out]; exact HB5.out
   have hO1:=HO1.out.below hbF;have hO2:=HO2.out.below hbF;have HBF0:Hid (Below rb w wF0):=hDx (HBE.out.trans (hbF.mono (by have:=HLt5.out.1; have:=HM5.out; omega)));have HDf:Hid (Calls Tryd.prog 10 #[.agg (snA S1 c1 c2 c3 c4 c5 c6),.agg (snA S2 g1 g2 g3 g4 g5 g6)] wF0 (DiPost S1 S2 wF0)):=hDx (diff_any S1 S2 c1 c2 c3 c4 c5 c6 g1 g2 g3 g4 g5 g6 wF0 hO1.snIn HO1b.out hO2.snIn HO2b.out (S.tab_of HTb.out (show Below w.heap.size w wF0 from by rw [HRb.out]; exact HBF0.out)) 1449 (few_row HFw2.out S1) (few_all HFw2.out S1));obtain ⟨d,hd⟩ : ∃ t:ByteArray,(⟨(diffN S1 S2).toArray⟩ : ByteArray)=t:=⟨_,rfl⟩;have HD:Hid (d.data.toList=diffN S1 S2):=hDx (by rw [← hd]);unfold DiPost at HDf;rw [hd] at HDf;clear hd;unfold snA at HDf;have HF1:=hDx hF1;have HF2:=hDx hF2;have HO1F:=hDx hO1;have HO2F:=hDx hO2;have HX5F:=hDx hx5;have HX6F:=hDx hx6;have HT1F:=hDx hT1;have HT2F:=hDx hT2
   clear hF1 hF2 hbF hO1 hO2 hx5 hx6 hT1 hT2;obtain ⟨k0,k1,k2,k3,k4,k5,k6,k7,k8,k9⟩ := ten_cells (s:=S1) (ra:=c1) (rn:=c2) (rc:=c3) (ga:=c4) (gn:=c5) (gc:=c6) HF1.out;obtain ⟨l0,l1,l2,l3,l4,l5,l6,l7,l8,l9⟩ := ten_cells (s:=S2) (ra:=g1) (rn:=g2) (rc:=g3) (ga:=g4) (gn:=g5) (gc:=g6) HF2.out
   go_upto_region 5 with fail
   go_wp2_with fail
   refine HDf.out.mono ?_;rintro e wF ⟨rfl,hbF⟩;have hF1:=(hbF.block _ (gSx.1 HF1.out).1).trans HF1.out;have hF2:=(hbF.block _ (gSx.1 HF2.out).1).trans HF2.out;have hx5:=(hbF.block _ (gSx.1 HX5F.out).1).trans HX5F.out;have hx6:=(hbF.block _ (gSx.1 HX6F.out).1).trans HX6F.out;have hO1:=HO1F.out.below hbF;have hO2:=HO2F.out.below hbF;have hT1:=HT1F.out.below hbF;have hT2:=HT2F.out.below hbF;have HBF:Hid (Below rb w wF):=hDx (HBF0.out.trans (hbF.mono (by have:=(gSx.1 HF1.out).1; omega)));clear hbF k0 k1 k2 k3 k4 k5 k6 k7 k8 k9 l0 l1 l2 l3 l4 l5 l6 l7 l8 l9 HDf HF1 HF2 HX5F HX6F HO1F HO2F HT1F HT2F;have HTF:Hid (∀ v,Below wF.heap.size wF v→S.Tab v):=hDx (fun v hb=>S.tab_of HTb.out (show Below w.heap.size w v from by rw [HRb.out]; exact HBF.out.trans (hb.mono (by have:=(gSx.1 hF1).1; omega))))
   have HEndF:Hid (∀ v,Below wF.heap.size wF v→P (.returned (.bool true)) v):=hDx (fun v hb=>HEnd.out v (HBF.out.trans (hb.mono (by have:=(gSx.1 hF1).1; omega))))
   have HZF:Hid (∀ v,Below wF.heap.size wF v→v.heap[rb]?=some (.cells #[.int .i64 S1.k,.int .i64 S1.w,.int .i64 S1.h,.int .i64 S1.x,.int .i64 S1.y,.string S1.t,.slice c1 c2 c3,.int .i64 S1.n,.int .i64 S1.c,.slice c4 c5 c6] 25 (0,0))∧v.heap[rb+1]?=some (.cells #[.int .i64 S2.k,.int .i64 S2.w,.int .i64 S2.h,.int .i64 S2.x,.int .i64 S2.y,.string S2.t,.slice g1 g2 g3,.int .i64 S2.n,.int .i64 S2.c,.slice g4 g5 g6] 25 (0,0))∧v.heap[p5]?=some (.cells #[.int .i64 S1.k,.int .i64 S1.w,.int .i64 S1.h,.int .i64 S1.x,.int .i64 S1.y,.string S1.t,.slice x1 x2 x3,.int .i64 S1.n,.int .i64 S1.c,.slice x4 x5 x6] 32 (0,0))∧v.heap[p6]?=some (.cells #[.int .i64 S2.k,.int .i64 S2.w,.int .i64 S2.h,.int .i64 S2.x,.int .i64 S2.y,.string S2.t,.slice y1 y2 y3,.int .i64 S2.n,.int .i64 S2.c,.slice y4 y5 y6] 32 (0,0))):=hDx (fun v hb=>⟨(hb.block _ (gSx.1 hF1).1).trans hF1,(hb.block _ (gSx.1 hF2).1).trans hF2,(hb.block _ (gSx.1 hx5).1).trans hx5,(hb.block _ (gSx.1 hx6).1).trans hx6⟩)
   have HMy1:Hid (∀ v,Below wF.heap.size wF v→Calls Tryd.prog 15 #[.agg #[.int .i64 S1.k,.int .i64 S1.w,.int .i64 S1.h,.int .i64 S1.x,.int .i64 S1.y,.string S1.t,.slice x1 x2 x3,.int .i64 S1.n,.int .i64 S1.c,.slice x4 x5 x6]] v fun e w'=>e=.returned (.bool (decide (MayN S1)))∧Below v.heap.size v w'):=hDx (fun v hb=>nrfmay_any S1 x1 x2 x3 x4 x5 x6 v ((hT1.below hb).snIn) HO1b.out);have HPk2:Hid (∀ v,Below wF.heap.size wF v→Calls Tryd.prog 16 #[.agg #[.int .i64 S2.k,.int .i64 S2.w,.int .i64 S2.h,.int .i64 S2.x,.int .i64 S2.y,.string S2.t,.slice y1 y2 y3,.int .i64 S2.n,.int .i64 S2.c,.slice y4 y5 y6]] v fun e w'=>∃ t:ByteArray,e=.returned (.string t)∧t.data.toList=packN S2∧Below v.heap.size v w'):=hDx (fun v hb=>nrfpack_any S2 y1 y2 y3 y4 y5 y6 v ((hT2.below hb).snIn) HO2b.out)
   have HRd:Hid (∀ v,Below wF.heap.size wF v→Calls Tryd.prog 11 #[.agg #[.int .i64 S1.k,.int .i64 S1.w,.int .i64 S1.h,.int .i64 S1.x,.int .i64 S1.y,.string S1.t,.slice x1 x2 x3,.int .i64 S1.n,.int .i64 S1.c,.slice x4 x5 x6],.agg #[.int .i64 S2.k,.int .i64 S2.w,.int .i64 S2.h,.int .i64 S2.x,.int .i64 S2.y,.string S2.t,.slice y1 y2 y3,.int .i64 S2.n,.int .i64 S2.c,.slice y4 y5 y6]] v fun e w'=>e=.returned (.string d)∧Below v.heap.size v w'):=hDx (fun v hb=>by
    refine (rfdiff_any S1 S2 x1 x2 x3 x4 x5 x6 y1 y2 y3 y4 y5 y6 v ((hT1.below hb).snIn) HO1b.out ((hT2.below hb).snIn) HO2b.out HFw2.out).mono ?_;rintro e w' ⟨t,rfl,ht,h2⟩;exact ⟨by rw [show t=d from bytes_eqN (by rw [ht,HD.out])],h2⟩)
   obtain ⟨dl,hdl⟩ : ∃ l,((difL S1 0 S2.R).map fun x=>(x.1:Int))=l:=⟨_,rfl⟩;obtain ⟨dn,hdn⟩ : ∃ n,dl.length=n:=⟨_,rfl⟩;have HDn:Hid (dn≤8):=hDx (by
    have h1:=difL_length S1 S2.R 0;have h2:=HFw2.out.1;rw [← hdn,← hdl,List.length_map];omega)
   have HC1:Hid (∀ v,Below wF.heap.size wF v→Calls Tryd.prog 13 #[.agg #[.int .i64 S1.k,.int .i64 S1.w,.int .i64 S1.h,.int .i64 S1.x,.int .i64 S1.y,.string S1.t,.slice c1 c2 c3,.int .i64 S1.n,.int .i64 S1.c,.slice c4 c5 c6],.agg #[.int .i64 S2.k,.int .i64 S2.w,.int .i64 S2.h,.int .i64 S2.x,.int .i64 S2.y,.string S2.t,.slice g1 g2 g3,.int .i64 S2.n,.int .i64 S2.c,.slice g4 g5 g6]] v fun e w'=>∃ ia ic,e=.returned (.slice ia dn ic)∧Go.Proofs.YtagolklnjhpbdaaDoor.W.IntsIn ia dn dl w'∧Below v.heap.size v w'):=hDx (fun v hb=>by
    refine (changes_any S1 S2 c1 c2 c3 c4 c5 c6 g1 g2 g3 g4 g5 g6 v ((hO1.below hb).snIn) HO1b.out ((hO2.below hb).snIn) HO2b.out).mono ?_;rintro e w' ⟨vl,rfl,ho,h2⟩;rw [hdl] at ho;obtain ⟨ia,ic,rfl,hi,-⟩ := ho.shape;rw [hdn] at hi ⊢;exact ⟨ia,ic,rfl,hi,h2⟩)
   have HC2:Hid (∀ v,Below wF.heap.size wF v→Calls Tryd.prog 14 #[.agg #[.int .i64 S1.k,.int .i64 S1.w,.int .i64 S1.h,.int .i64 S1.x,.int .i64 S1.y,.string S1.t,.slice x1 x2 x3,.int .i64 S1.n,.int .i64 S1.c,.slice x4 x5 x6],.agg #[.int .i64 S2.k,.int .i64 S2.w,.int .i64 S2.h,.int .i64 S2.x,.int .i64 S2.y,.string S2.t,.slice y1 y2 y3,.int .i64 S2.n,.int .i64 S2.c,.slice y4 y5 y6]] v fun e w'=>∃ ia ic,e=.returned (.slice ia dn ic)∧Go.Proofs.YtagolklnjhpbdaaDoor.W.IntsIn ia dn dl w'∧Below v.heap.size v w'):=hDx (fun v hb=>by
    refine (rfchanges_any S1 S2 x1 x2 x3 x4 x5 x6 y1 y2 y3 y4 y5 y6 v ((hT1.below hb).snIn) HO1b.out ((hT2.below hb).snIn) HO2b.out).mono ?_;rintro e w' ⟨vl,rfl,ho,h2⟩;rw [hdl] at ho;obtain ⟨ia,ic,rfl,hi,-⟩ := ho.shape;rw [hdn] at hi ⊢;exact ⟨ia,ic,rfl,hi,h2⟩)
   have HAp:Hid (∀ v,Below wF.heap.size wF v→Calls Tryd.prog 17 #[.agg #[.int .i64 S1.k,.int .i64 S1.w,.int .i64 S1.h,.int .i64 S1.x,.int .i64 S1.y,.string S1.t,.slice c1 c2 c3,.int .i64 S1.n,.int .i64 S1.c,.slice c4 c5 c6],.string d] v (ApPost (applyN S1 (diffN S1 S2)) v)):=hDx (fun v hb=>by
    have h:=apply_any d (by have h1:=diffN_len HFw2.out S1; rw [← HD.out] at h1; have h2:d.data.toList.length=d.size:=rfl; omega) S1 c1 c2 c3 c4 c5 c6 v ((hO1.below hb).snIn) HO1b.out (HTF.out v hb);rw [HD.out] at h;exact h)
   have HIs:Hid (∀ v ka kn kc la ln lc,Below wF.heap.size wF v→SnIn .i32 ka kn kc la ln lc S2 v→Calls Tryd.prog 18 #[.agg (snA S2 ka kn kc la ln lc),.agg #[.int .i64 S2.k,.int .i64 S2.w,.int .i64 S2.h,.int .i64 S2.x,.int .i64 S2.y,.string S2.t,.slice y1 y2 y3,.int .i64 S2.n,.int .i64 S2.c,.slice y4 y5 y6]] v fun e w'=>e=.returned (.bool true)∧Below v.heap.size v w'):=hDx (fun v ka kn kc la ln lc hb hn=>by
    have h:=nis_any S2 S2 ka kn kc la ln lc y1 y2 y3 y4 y5 y6 v hn ((hT2.below hb).snIn) HO2b.out HO2b.out;rw [decide_eq_true rfl] at h;exact h)
   clear hF1 hF2 hx5 hx6 hO1 hO2 hT1 hT2 hdl hdn
   go_upto_region 6 with fail
   obtain ⟨wg,hwg⟩ : ∃ wg,wF=wg:=⟨_,rfl⟩;have HEg:Hid (Below wF.heap.size wF wg):=hDx (by rw [← hwg]; exact Below.refl _ _);rw [hwg];clear hwg;refine wp_region_due [] [0,0,0,0,0,0,0,0,0,0,0,0,0,0,0] (by kernel_rfl) (fun _ _ u=>Below wg.heap.size wg u) (fun u u2=>Below u.heap.size u u2) (BkOk6 S1 S2 c1 c2 c3 c4 c5 c6 g1 g2 g3 g4 g5 g6 x1 x2 x3 x4 x5 x6 y1 y2 y3 y4 y5 y6 d dn dl) (by rfl) (by kernel_rfl) (by kernel_rfl) (by kernel_rfl) (by kernel_rfl) ?hcong ?hOk ?hop ?hdone ?h0
   case hcong=>exact fun k f f2 u hs hst=>hst
   case hOk=>intro i u w1 w2 h hr; unfold BkOk6 at h ⊢; split <;> first | exact True.intro | exact h | (obtain ⟨ia,ic,e,h⟩ := h; exact ⟨ia,ic,e,Go.Proofs.YtagolklnjhpbdaaDoor.W.IntsIn.belowAll h hr⟩)
   case h0=>exact (Below.refl _ _).drew
   case hop =>
    refine ⟨?_,?_,?_,?_,?_,?_,?_,?_,?_,?_,?_,?_,?_,?_,?_,trivial⟩
    · intro k z v hk hst hag hdep;refine .inl ⟨rfl,fun K hK=>?_⟩;have d7:z.tmps.getD 7 undef=.string d:=hag.2.2 7 (by kernel_rfl);have e7:=gEx d7;have HSt:=hDx hst;clear hdep hag hst;go_simp;exact hK _ _ (Below.refl _ _) rfl HSt.out
    · intro k z v hk hst hag hdep;refine .inl ⟨rfl,fun K hK=>?_⟩;have d5:z.tmps.getD 5 undef=.pointer (some ⟨p5,0,none⟩):=hag.2.2 5 (by kernel_rfl);have e5:=gEx d5;have hb:Below wg.heap.size wg v:=hst;have hz:=(HZF.out v (HEg.out.trans (hb.mono HEg.out.size))).2.2.1;have lc0:v.cell? ⟨p5,0,none⟩=some (.int .i64 S1.k):=by rw [cell_block hz]; rfl
      have lc1:v.cell? ⟨p5,1,none⟩=some (.int .i64 S1.w):=by rw [cell_block hz]; rfl
      have lc2:v.cell? ⟨p5,2,none⟩=some (.int .i64 S1.h):=by rw [cell_block hz]; rfl
      have lc3:v.cell? ⟨p5,3,none⟩=some (.int .i64 S1.x):=by rw [cell_block hz]; rfl
      have lc4:v.cell? ⟨p5,4,none⟩=some (.int .i64 S1.y):=by rw [cell_block hz]; rfl
      have lc5:v.cell? ⟨p5,5,none⟩=some (.string S1.t):=by rw [cell_block hz]; rfl
      have lc6:v.cell? ⟨p5,6,none⟩=some (.slice x1 x2 x3):=by rw [cell_block hz]; rfl
      have lc7:v.cell? ⟨p5,7,none⟩=some (.int .i64 S1.n):=by rw [cell_block hz]; rfl
      have lc8:v.cell? ⟨p5,8,none⟩=some (.int .i64 S1.c):=by rw [cell_block hz]; rfl
      have lc9:v.cell? ⟨p5,9,none⟩=some (.slice x4 x5 x6):=by rw [cell_block hz]; rfl
      clear hb hz;have HSt:=hDx hst;clear hdep hag hst;go_simp;exact hK _ _ (Below.refl _ _) rfl HSt.out
    · intro k z v hk hst hag hdep;refine .inl ⟨rfl,fun K hK=>?_⟩;have d6:z.tmps.getD 6 undef=.pointer (some ⟨p6,0,none⟩):=hag.2.2 6 (by kernel_rfl);have e6:=gEx d6;have hb:Below wg.heap.size wg v:=hst;have hz:=(HZF.out v (HEg.out.trans (hb.mono HEg.out.size))).2.2.2;have lc0:v.cell? ⟨p6,0,none⟩=some (.int .i64 S2.k):=by rw [cell_block hz]; rfl
      have lc1:v.cell? ⟨p6,1,none⟩=some (.int .i64 S2.w):=by rw [cell_block hz]; rfl
      have lc2:v.cell? ⟨p6,2,none⟩=some (.int .i64 S2.h):=by rw [cell_block hz]; rfl
      have lc3:v.cell? ⟨p6,3,none⟩=some (.int .i64 S2.x):=by rw [cell_block hz]; rfl
      have lc4:v.cell? ⟨p6,4,none⟩=some (.int .i64 S2.y):=by rw [cell_block hz]; rfl
      have lc5:v.cell? ⟨p6,5,none⟩=some (.string S2.t):=by rw [cell_block hz]; rfl
      have lc6:v.cell? ⟨p6,6,none⟩=some (.slice y1 y2 y3):=by rw [cell_block hz]; rfl
      have lc7:v.cell? ⟨p6,7,none⟩=some (.int .i64 S2.n):=by rw [cell_block hz]; rfl
      have lc8:v.cell? ⟨p6,8,none⟩=some (.int .i64 S2.c):=by rw [cell_block hz]; rfl
      have lc9:v.cell? ⟨p6,9,none⟩=some (.slice y4 y5 y6):=by rw [cell_block hz]; rfl
      clear hb hz;have HSt:=hDx hst;clear hdep hag hst;go_simp;exact hK _ _ (Below.refl _ _) rfl HSt.out
    · intro k z v hk hst hag hdep;refine .inl ⟨rfl,fun K hK=>?_⟩;have d24:z.tmps.getD 24 undef=.agg #[.int .i64 S1.k,.int .i64 S1.w,.int .i64 S1.h,.int .i64 S1.x,.int .i64 S1.y,.string S1.t,.slice x1 x2 x3,.int .i64 S1.n,.int .i64 S1.c,.slice x4 x5 x6]:=hdep ⟨1,.data⟩ (by simp) rfl _ _ rfl rfl;have e24:=gEx d24;have d25:z.tmps.getD 25 undef=.agg #[.int .i64 S2.k,.int .i64 S2.w,.int .i64 S2.h,.int .i64 S2.x,.int .i64 S2.y,.string S2.t,.slice y1 y2 y3,.int .i64 S2.n,.int .i64 S2.c,.slice y4 y5 y6]:=hdep ⟨2,.data⟩ (by simp) rfl _ _ rfl rfl;have e25:=gEx d25;have hb:Below wg.heap.size wg v:=hst;have HC:=hDx (HRd.out v (HEg.out.trans (hb.mono HEg.out.size)));have HBv:=hDx hb;clear hdep hag hst hb;go_simp;refine HC.out.mono ?_;rintro e w' ⟨rfl,h9⟩;exact hK _ _ h9 rfl (HBv.out.trans (h9.mono HBv.out.size))
    · intro k z v hk hst hag hdep;refine .inl ⟨rfl,fun K hK=>?_⟩;have d23:z.tmps.getD 23 undef=.string d:=hdep ⟨0,.data⟩ (by simp) rfl _ _ rfl rfl;have e23:=gEx d23;have d26:z.tmps.getD 26 undef=.string d:=hdep ⟨3,.data⟩ (by simp) rfl _ _ rfl rfl;have e26:=gEx d26;have HSt:=hDx hst;clear hdep hag hst;go_simp;exact hK _ _ (Below.refl _ _) rfl HSt.out
    · intro k z v hk hst hag hdep;refine .inl ⟨rfl,fun K hK=>?_⟩;have d27:z.tmps.getD 27 undef=.bool false:=hdep ⟨4,.data⟩ (by simp) rfl _ _ rfl rfl;have e27:=gEx d27;have HSt:=hDx hst;clear hdep hag hst;go_simp;exact hK _ _ (Below.refl _ _) rfl HSt.out
    · intro k z v hk hst hag hdep;have dg:BkOk6 S1 S2 c1 c2 c3 c4 c5 c6 g1 g2 g3 g4 g5 g6 x1 x2 x3 x4 x5 x6 y1 y2 y3 y4 y5 y6 d dn dl 5 (z.tmps.getD 28 undef) v:=hdep ⟨5,.guard⟩ (by simp) rfl _ _ rfl rfl;simp only [BkOk6] at dg;refine .inl ⟨wanted_of (j:=5) rfl rfl rfl dg (by rw [hag.2.1]; show 28<61; decide),fun K hK=>?_⟩;have d2:z.tmps.getD 2 undef=.pointer (some ⟨rb,0,none⟩):=hag.2.2 2 (by kernel_rfl);have e2:=gEx d2;have hb:Below wg.heap.size wg v:=hst;have hz:=(HZF.out v (HEg.out.trans (hb.mono HEg.out.size))).1;have lc0:v.cell? ⟨rb,0,none⟩=some (.int .i64 S1.k):=by rw [cell_block hz]; rfl
      have lc1:v.cell? ⟨rb,1,none⟩=some (.int .i64 S1.w):=by rw [cell_block hz]; rfl
      have lc2:v.cell? ⟨rb,2,none⟩=some (.int .i64 S1.h):=by rw [cell_block hz]; rfl
      have lc3:v.cell? ⟨rb,3,none⟩=some (.int .i64 S1.x):=by rw [cell_block hz]; rfl
      have lc4:v.cell? ⟨rb,4,none⟩=some (.int .i64 S1.y):=by rw [cell_block hz]; rfl
      have lc5:v.cell? ⟨rb,5,none⟩=some (.string S1.t):=by rw [cell_block hz]; rfl
      have lc6:v.cell? ⟨rb,6,none⟩=some (.slice c1 c2 c3):=by rw [cell_block hz]; rfl
      have lc7:v.cell? ⟨rb,7,none⟩=some (.int .i64 S1.n):=by rw [cell_block hz]; rfl
      have lc8:v.cell? ⟨rb,8,none⟩=some (.int .i64 S1.c):=by rw [cell_block hz]; rfl
      have lc9:v.cell? ⟨rb,9,none⟩=some (.slice c4 c5 c6):=by rw [cell_block hz]; rfl
      clear hb hz;have HSt:=hDx hst;clear hdep hag hst;go_simp;exact hK _ _ (Below.refl _ _) rfl HSt.out
    · intro k z v hk hst hag hdep;have dg:BkOk6 S1 S2 c1 c2 c3 c4 c5 c6 g1 g2 g3 g4 g5 g6 x1 x2 x3 x4 x5 x6 y1 y2 y3 y4 y5 y6 d dn dl 5 (z.tmps.getD 28 undef) v:=hdep ⟨5,.guard⟩ (by simp) rfl _ _ rfl rfl;simp only [BkOk6] at dg;refine .inl ⟨wanted_of (j:=5) rfl rfl rfl dg (by rw [hag.2.1]; show 28<61; decide),fun K hK=>?_⟩;have d3:z.tmps.getD 3 undef=.pointer (some ⟨rb+1,0,none⟩):=hag.2.2 3 (by kernel_rfl);have e3:=gEx d3;have hb:Below wg.heap.size wg v:=hst;have hz:=(HZF.out v (HEg.out.trans (hb.mono HEg.out.size))).2.1;have lc0:v.cell? ⟨rb+1,0,none⟩=some (.int .i64 S2.k):=by rw [cell_block hz]; rfl
      have lc1:v.cell? ⟨rb+1,1,none⟩=some (.int .i64 S2.w):=by rw [cell_block hz]; rfl
      have lc2:v.cell? ⟨rb+1,2,none⟩=some (.int .i64 S2.h):=by rw [cell_block hz]; rfl
      have lc3:v.cell? ⟨rb+1,3,none⟩=some (.int .i64 S2.x):=by rw [cell_block hz]; rfl
      have lc4:v.cell? ⟨rb+1,4,none⟩=some (.int .i64 S2.y):=by rw [cell_block hz]; rfl
      have lc5:v.cell? ⟨rb+1,5,none⟩=some (.string S2.t):=by rw [cell_block hz]; rfl
      have lc6:v.cell? ⟨rb+1,6,none⟩=some (.slice g1 g2 g3):=by rw [cell_block hz]; rfl
      have lc7:v.cell? ⟨rb+1,7,none⟩=some (.int .i64 S2.n):=by rw [cell_block hz]; rfl
      have lc8:v.cell? ⟨rb+1,8,none⟩=some (.int .i64 S2.c):=by rw [cell_block hz]; rfl
      have lc9:v.cell? ⟨rb+1,9,none⟩=some (.slice g4 g5 g6):=by rw [cell_block hz]; rfl
      clear hb hz;have HSt:=hDx hst;clear hdep hag hst;go_simp;exact hK _ _ (Below.refl _ _) rfl HSt.out
    · intro k z v hk hst hag hdep;have dg:BkOk6 S1 S2 c1 c2 c3 c4 c5 c6 g1 g2 g3 g4 g5 g6 x1 x2 x3 x4 x5 x6 y1 y2 y3 y4 y5 y6 d dn dl 5 (z.tmps.getD 28 undef) v:=hdep ⟨5,.guard⟩ (by simp) rfl _ _ rfl rfl;simp only [BkOk6] at dg;refine .inl ⟨wanted_of (j:=5) rfl rfl rfl dg (by rw [hag.2.1]; show 28<61; decide),fun K hK=>?_⟩;have d29:z.tmps.getD 29 undef=.agg #[.int .i64 S1.k,.int .i64 S1.w,.int .i64 S1.h,.int .i64 S1.x,.int .i64 S1.y,.string S1.t,.slice c1 c2 c3,.int .i64 S1.n,.int .i64 S1.c,.slice c4 c5 c6]:=hdep ⟨6,.data⟩ (by simp) rfl _ _ rfl rfl;have e29:=gEx d29;have d30:z.tmps.getD 30 undef=.agg #[.int .i64 S2.k,.int .i64 S2.w,.int .i64 S2.h,.int .i64 S2.x,.int .i64 S2.y,.string S2.t,.slice g1 g2 g3,.int .i64 S2.n,.int .i64 S2.c,.slice g4 g5 g6]:=hdep ⟨7,.data⟩ (by simp) rfl _ _ rfl rfl;have e30:=gEx d30;have hb:Below wg.heap.size wg v:=hst
      have HC:=hDx (HC1.out v (HEg.out.trans (hb.mono HEg.out.size)));have HBv:=hDx hb;clear hdep hag hst hb;go_simp;refine HC.out.mono ?_;rintro e w' ⟨ia,ic,rfl,hi,h9⟩;exact hK _ _ h9 ⟨ia,ic,rfl,hi⟩ (HBv.out.trans (h9.mono HBv.out.size))
    · intro k z v hk hst hag hdep;have dg:BkOk6 S1 S2 c1 c2 c3 c4 c5 c6 g1 g2 g3 g4 g5 g6 x1 x2 x3 x4 x5 x6 y1 y2 y3 y4 y5 y6 d dn dl 5 (z.tmps.getD 28 undef) v:=hdep ⟨5,.guard⟩ (by simp) rfl _ _ rfl rfl;simp only [BkOk6] at dg;refine .inl ⟨wanted_of (j:=5) rfl rfl rfl dg (by rw [hag.2.1]; show 28<61; decide),fun K hK=>?_⟩;have d5:z.tmps.getD 5 undef=.pointer (some ⟨p5,0,none⟩):=hag.2.2 5 (by kernel_rfl);have e5:=gEx d5;have hb:Below wg.heap.size wg v:=hst;have hz:=(HZF.out v (HEg.out.trans (hb.mono HEg.out.size))).2.2.1;have lc0:v.cell? ⟨p5,0,none⟩=some (.int .i64 S1.k):=by rw [cell_block hz]; rfl
      have lc1:v.cell? ⟨p5,1,none⟩=some (.int .i64 S1.w):=by rw [cell_block hz]; rfl
      have lc2:v.cell? ⟨p5,2,none⟩=some (.int .i64 S1.h):=by rw [cell_block hz]; rfl
      have lc3:v.cell? ⟨p5,3,none⟩=some (.int .i64 S1.x):=by rw [cell_block hz]; rfl
      have lc4:v.cell? ⟨p5,4,none⟩=some (.int .i64 S1.y):=by rw [cell_block hz]; rfl
      have lc5:v.cell? ⟨p5,5,none⟩=some (.string S1.t):=by rw [cell_block hz]; rfl
      have lc6:v.cell? ⟨p5,6,none⟩=some (.slice x1 x2 x3):=by rw [cell_block hz]; rfl
      have lc7:v.cell? ⟨p5,7,none⟩=some (.int .i64 S1.n):=by rw [cell_block hz]; rfl
      have lc8:v.cell? ⟨p5,8,none⟩=some (.int .i64 S1.c):=by rw [cell_block hz]; rfl
      have lc9:v.cell? ⟨p5,9,none⟩=some (.slice x4 x5 x6):=by rw [cell_block hz]; rfl
      clear hb hz;have HSt:=hDx hst;clear hdep hag hst;go_simp;exact hK _ _ (Below.refl _ _) rfl HSt.out
    · intro k z v hk hst hag hdep;have dg:BkOk6 S1 S2 c1 c2 c3 c4 c5 c6 g1 g2 g3 g4 g5 g6 x1 x2 x3 x4 x5 x6 y1 y2 y3 y4 y5 y6 d dn dl 5 (z.tmps.getD 28 undef) v:=hdep ⟨5,.guard⟩ (by simp) rfl _ _ rfl rfl;simp only [BkOk6] at dg;refine .inl ⟨wanted_of (j:=5) rfl rfl rfl dg (by rw [hag.2.1]; show 28<61; decide),fun K hK=>?_⟩;have d6:z.tmps.getD 6 undef=.pointer (some ⟨p6,0,none⟩):=hag.2.2 6 (by kernel_rfl);have e6:=gEx d6;have hb:Below wg.heap.size wg v:=hst;have hz:=(HZF.out v (HEg.out.trans (hb.mono HEg.out.size))).2.2.2;have lc0:v.cell? ⟨p6,0,none⟩=some (.int .i64 S2.k):=by rw [cell_block hz]; rfl
      have lc1:v.cell? ⟨p6,1,none⟩=some (.int .i64 S2.w):=by rw [cell_block hz]; rfl
      have lc2:v.cell? ⟨p6,2,none⟩=some (.int .i64 S2.h):=by rw [cell_block hz]; rfl
      have lc3:v.cell? ⟨p6,3,none⟩=some (.int .i64 S2.x):=by rw [cell_block hz]; rfl
      have lc4:v.cell? ⟨p6,4,none⟩=some (.int .i64 S2.y):=by rw [cell_block hz]; rfl
      have lc5:v.cell? ⟨p6,5,none⟩=some (.string S2.t):=by rw [cell_block hz]; rfl
      have lc6:v.cell? ⟨p6,6,none⟩=some (.slice y1 y2 y3):=by rw [cell_block hz]; rfl
      have lc7:v.cell? ⟨p6,7,none⟩=some (.int .i64 S2.n):=by rw [cell_block hz]; rfl
      have lc8:v.cell? ⟨p6,8,none⟩=some (.int .i64 S2.c):=by rw [cell_block hz]; rfl
      have lc9:v.cell? ⟨p6,9,none⟩=some (.slice y4 y5 y6):=by rw [cell_block hz]; rfl
      clear hb hz;have HSt:=hDx hst;clear hdep hag hst;go_simp;exact hK _ _ (Below.refl _ _) rfl HSt.out
    · intro k z v hk hst hag hdep;have dg:BkOk6 S1 S2 c1 c2 c3 c4 c5 c6 g1 g2 g3 g4 g5 g6 x1 x2 x3 x4 x5 x6 y1 y2 y3 y4 y5 y6 d dn dl 5 (z.tmps.getD 28 undef) v:=hdep ⟨5,.guard⟩ (by simp) rfl _ _ rfl rfl;simp only [BkOk6] at dg;refine .inl ⟨wanted_of (j:=5) rfl rfl rfl dg (by rw [hag.2.1]; show 28<61; decide),fun K hK=>?_⟩;have d32:z.tmps.getD 32 undef=.agg #[.int .i64 S1.k,.int .i64 S1.w,.int .i64 S1.h,.int .i64 S1.x,.int .i64 S1.y,.string S1.t,.slice x1 x2 x3,.int .i64 S1.n,.int .i64 S1.c,.slice x4 x5 x6]:=hdep ⟨9,.data⟩ (by simp) rfl _ _ rfl rfl;have e32:=gEx d32;have d33:z.tmps.getD 33 undef=.agg #[.int .i64 S2.k,.int .i64 S2.w,.int .i64 S2.h,.int .i64 S2.x,.int .i64 S2.y,.string S2.t,.slice y1 y2 y3,.int .i64 S2.n,.int .i64 S2.c,.slice y4 y5 y6]:=hdep ⟨10,.data⟩ (by simp) rfl _ _ rfl rfl;have e33:=gEx d33;have hb:Below wg.heap.size wg v:=hst
      have HC:=hDx (HC2.out v (HEg.out.trans (hb.mono HEg.out.size)));have HBv:=hDx hb;clear hdep hag hst hb;go_simp;refine HC.out.mono ?_;rintro e w' ⟨ia,ic,rfl,hi,h9⟩;exact hK _ _ h9 ⟨ia,ic,rfl,hi⟩ (HBv.out.trans (h9.mono HBv.out.size))
    · intro k z v hk hst hag hdep;have dg:BkOk6 S1 S2 c1 c2 c3 c4 c5 c6 g1 g2 g3 g4 g5 g6 x1 x2 x3 x4 x5 x6 y1 y2 y3 y4 y5 y6 d dn dl 5 (z.tmps.getD 28 undef) v:=hdep ⟨5,.guard⟩ (by simp) rfl _ _ rfl rfl;simp only [BkOk6] at dg;refine .inl ⟨wanted_of (j:=5) rfl rfl rfl dg (by rw [hag.2.1]; show 28<61; decide),fun K hK=>?_⟩;have d31':BkOk6 S1 S2 c1 c2 c3 c4 c5 c6 g1 g2 g3 g4 g5 g6 x1 x2 x3 x4 x5 x6 y1 y2 y3 y4 y5 y6 d dn dl 8 (z.tmps.getD 31 undef) v:=hdep ⟨8,.data⟩ (by simp) rfl _ _ rfl rfl;simp only [BkOk6] at d31';obtain ⟨ia31,ic31,d31,HN31⟩ := d31';have e31:=gEx d31;have d34':BkOk6 S1 S2 c1 c2 c3 c4 c5 c6 g1 g2 g3 g4 g5 g6 x1 x2 x3 x4 x5 x6 y1 y2 y3 y4 y5 y6 d dn dl 11 (z.tmps.getD 34 undef) v:=hdep ⟨11,.data⟩ (by simp) rfl _ _ rfl rfl;simp only [BkOk6] at d34';obtain ⟨ia34,ic34,d34,HN34⟩ := d34';have e34:=gEx d34;have hb:Below wg.heap.size wg v:=hst
      have HC:=hDx (sameInts_any ia31 ia34 dn ic31 ic34 dl v HN31 HN34 (by have:=HDn.out; omega));have HBv:=hDx hb;clear hdep hag hst hb HN31 HN34;go_simp;refine HC.out.mono ?_;rintro e w' ⟨rfl,h9⟩;exact hK _ _ h9 rfl (HBv.out.trans (h9.mono HBv.out.size))
    · intro k z v hk hst hag hdep;have dg:BkOk6 S1 S2 c1 c2 c3 c4 c5 c6 g1 g2 g3 g4 g5 g6 x1 x2 x3 x4 x5 x6 y1 y2 y3 y4 y5 y6 d dn dl 5 (z.tmps.getD 28 undef) v:=hdep ⟨5,.guard⟩ (by simp) rfl _ _ rfl rfl;simp only [BkOk6] at dg;refine .inl ⟨wanted_of (j:=5) rfl rfl rfl dg (by rw [hag.2.1]; show 28<61; decide),fun K hK=>?_⟩;have d35:z.tmps.getD 35 undef=.bool true:=hdep ⟨12,.data⟩ (by simp) rfl _ _ rfl rfl;have e35:=gEx d35;have HSt:=hDx hst;clear hdep hag hst;go_simp;exact hK _ _ (Below.refl _ _) rfl HSt.out
    · intro k z v hk hst hag hdep;refine .inl ⟨rfl,fun K hK=>?_⟩;have d28:z.tmps.getD 28 undef=.bool false:=hdep ⟨5,.data⟩ (by simp) rfl _ _ rfl rfl;have e28:=gEx d28;have d36:z.tmps.getD 36 undef=.bool false:=hdep ⟨13,.data⟩ (by simp) rfl _ _ rfl rfl;have e36:=gEx d36;have HSt:=hDx hst;clear hdep hag hst;go_simp;exact hK _ _ (Below.refl _ _) rfl HSt.out
   case hdone =>
    intro z v hst hag hok;have d37:z.tmps.getD 37 undef=.bool false:=hok 14 _ 37 rfl rfl;have HEv:Hid (Below wF.heap.size wF v):=hDx (HEg.out.trans (Below.mono hst HEg.out.size));clear hst;obtain ⟨uu,hu,hzz⟩ := agree_frame [23,24,25,26,27,28,29,30,31,32,33,34,35,36,37] rfl hag;have e37:=(hu 37).trans d37;subst hzz;simp only [List.foldl_cons,List.foldl_nil];rw [e37];clear e37 d37 hu hag hok
    try dsimp only [Exit.then]
    simp only [List.setIfInBounds_toArray,List.set_cons_succ,List.set_cons_zero];generalize uu 23=u23',uu 24=u24',uu 25=u25',uu 26=u26',uu 27=u27',uu 28=u28',uu 29=u29',uu 30=u30',uu 31=u31',uu 32=u32',uu 33=u33',uu 34=u34',uu 35=u35',uu 36=u36';clear uu;rename_i K6 hK6
    try (refine hK6 _ _ ?_)
    obtain ⟨wh,hwh⟩ : ∃ wh,v=wh:=⟨_,rfl⟩;rw [hwh] at HEv ⊢;clear hwh;have HMy:=hDx (HMy1.out wh HEv.out);have hzz:=(HZF.out wh HEv.out).2.2.1;obtain ⟨n0,n1,n2,n3,n4,n5,n6,n7,n8,n9⟩ := ten_cells (s:=S1) (ra:=x1) (rn:=x2) (rc:=x3) (ga:=x4) (gn:=x5) (gc:=x6) hzz;clear hzz
    go_wp2_with fail
    refine HMy.out.mono ?_;rintro e wi ⟨rfl,hbi⟩;have HEi:Hid (Below wF.heap.size wF wi):=hDx (HEv.out.trans (hbi.mono HEv.out.size));clear hbi n0 n1 n2 n3 n4 n5 n6 n7 n8 n9 HMy;by_cases hm:MayN S1
    rotate_left
    · rw [decide_eq_false hm];obtain ⟨q1,q2⟩ := toList_nil (b:=d) (by rw [HD.out]; exact (diffN_nil S1 S2).2 (fun h=>hm h.1));have hend:=hDx (HEndF.out wi HEi.out);clear hm
      go_wp2_with fail
      exact hend.out
    rw [decide_eq_true hm];have HMa:=hDx hm;clear hm;have HPk:=hDx (HPk2.out wi HEi.out);have hzz:=(HZF.out wi HEi.out).2.2.2;obtain ⟨n0,n1,n2,n3,n4,n5,n6,n7,n8,n9⟩ := ten_cells (s:=S2) (ra:=y1) (rn:=y2) (rc:=y3) (ga:=y4) (gn:=y5) (gc:=y6) hzz;clear hzz
    go_wp2_with fail
    refine HPk.out.mono ?_;rintro e wj ⟨t,rfl,ht,hbj⟩;have HEj:Hid (Below wF.heap.size wF wj):=hDx (HEi.out.trans (hbj.mono HEi.out.size));clear hbj n0 n1 n2 n3 n4 n5 n6 n7 n8 n9 HPk;by_cases hp:packN S2=[]
    · obtain ⟨r1,r2⟩ := toList_nil (b:=t) (by rw [ht]; exact hp);obtain ⟨q1,q2⟩ := toList_nil (b:=d) (by rw [HD.out]; exact (diffN_nil S1 S2).2 (fun h=>(packN_full S2).1 hp h.2));have hend:=hDx (HEndF.out wj HEj.out);clear hp ht
      go_wp2_with fail
      exact hend.out
    obtain ⟨r1,r2⟩ := toList_some (b:=t) (by rw [ht]; exact hp);have HFu:Hid (FullN S2):=hDx (Classical.byContradiction fun h=>hp ((packN_full S2).2 h));clear hp ht;have HApj:=hDx (HAp.out wj HEj.out);rw [apply_back HMa.out HFu.out] at HApj;unfold ApPost at HApj;have hzz:=(HZF.out wj HEj.out).1;obtain ⟨n0,n1,n2,n3,n4,n5,n6,n7,n8,n9⟩ := ten_cells (s:=S1) (ra:=c1) (rn:=c2) (rc:=c3) (ga:=c4) (gn:=c5) (gc:=c6) hzz;clear hzz
    go_wp2_with fail
    refine HApj.out.mono ?_;rintro e wk ⟨ka,kn,kc,la,lN,lC,rfl,hnk,hbk⟩;obtain ⟨tb,htb⟩ : ∃ b,wk.heap.size=b:=⟨_,rfl⟩;obtain ⟨wl,hwl⟩ : ∃ w8,wk.alloc (.cells (snA S2 ka kn kc la lN lC) 25)=w8:=⟨_,rfl⟩;have hbl:Below wk.heap.size wk wl:=by rw [← hwl]; exact (Below.refl _ _).alloc (Nat.le_refl _) _
    have htl:wl.heap[tb]?=some (.cells (snA S2 ka kn kc la lN lC) 25 (0,0)):=by rw [← hwl,← htb]; exact heap_alloc_new wk _
    have HEl:Hid (Below wF.heap.size wF wl):=hDx (HEj.out.trans ((hbk.trans (hbl.mono hbk.size)).mono HEj.out.size));have HIl:=hDx (HIs.out wl ka kn kc la lN lC HEl.out (hnk.belowAll hbl));have HWl:=hDx hwl;have HTl:=hDx htl;have HTb2:=hDx htb;clear hbk hnk htb hwl hbl htl HApj n0 n1 n2 n3 n4 n5 n6 n7 n8 n9;unfold snA at HWl HIl;unfold snA
    go_upto_region 11 with fail
    rw [HWl.out,HTb2.out];obtain ⟨n0,n1,n2,n3,n4,n5,n6,n7,n8,n9⟩ := ten_cells (s:=S2) (ra:=ka) (rn:=kn) (rc:=kc) (ga:=la) (gn:=lN) (gc:=lC) HTl.out;have hzz:=(HZF.out wl HEl.out).2.2.2;obtain ⟨m0,m1,m2,m3,m4,m5,m6,m7,m8,m9⟩ := ten_cells (s:=S2) (ra:=y1) (rn:=y2) (rc:=y3) (ga:=y4) (gn:=y5) (gc:=y6) hzz;clear hzz
    go_wp2_with fail
    refine HIl.out.mono ?_;rintro e wm ⟨rfl,hbm⟩;have hend:=hDx (HEndF.out wm (HEl.out.trans (hbm.mono HEl.out.size)));clear hbm n0 n1 n2 n3 n4 n5 n6 n7 n8 n9 m0 m1 m2 m3 m4 m5 m6 m7 m8 m9
    go_wp2_with fail
    exact hend.out
end Go.Proofs.YtagolklnjhpbdaaDoor.K
