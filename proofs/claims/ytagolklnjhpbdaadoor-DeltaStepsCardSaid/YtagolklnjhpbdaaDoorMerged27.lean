import Derived.Test.YtagolklnjhpbdaaDoorMerged0
import GoSem.Claim
import Derived.Test.YtagolklnjhpbdaaDoorMerged10
import Derived.Test.YtagolklnjhpbdaaDoorMerged12
import Derived.Test.YtagolklnjhpbdaaDoorMerged11
import Derived.Test.YtagolklnjhpbdaaDoorMerged14
import Derived.Laws.ResultCell
import Derived.Deep.Cut
import Derived.Deep.CutBlock
import Derived.Test.YtagolklnjhpbdaaDoorMerged24
import Derived.Test.YtagolklnjhpbdaaDoorMerged19
import Derived.Test.YtagolklnjhpbdaaDoorMerged16
import Derived.Test.YtagolklnjhpbdaaDoorDtAp
import Derived.Test.YtagolklnjhpbdaaDoorMerged26
namespace Go.Proofs.YtagolklnjhpbdaaDoor.Z
structure Sty where
 fore:Int
 back:Int
 bold:Bool
 under:Bool
 inv:Bool
deriving DecidableEq
def Sty.zero:Sty:=⟨0,0,false,false,false⟩
def Sty.may (s:Sty):Prop:=0≤s.fore∧s.fore≤8∧0≤s.back∧s.back≤8
instance (s:Sty):Decidable s.may:=by unfold Sty.may; infer_instance
def taker (x:Int):Prop:=x=38∨x=48
instance (x:Int):Decidable (taker x):=by unfold taker; infer_instance
def b2 (b:Bool) (k:Int):Int:=if b then k else 0
def numS (s:Sty):Int:=if s.may then s.fore+9*s.back+b2 s.bold 81+b2 s.under 162+b2 s.inv 324 else 0
def ofN (n:Int):Sty:=⟨n % 9,n % 81 / 9,decide (81≤n % 162),decide (162≤n % 324),decide (324≤n)⟩
theorem numS_bound (s:Sty):0≤numS s∧numS s≤647:=by
 unfold numS
 split
 · rename_i h;obtain ⟨h1,h2,h3,h4⟩ := h;obtain ⟨f,b,u,v,w⟩ := s;simp only at *;cases u <;> cases v <;> cases w <;> simp [b2] <;> omega
 · omega
end Go.Proofs.YtagolklnjhpbdaaDoor.Z

namespace Go.Proofs.YtagolklnjhpbdaaDoor.K
open Go.Proofs.YtagolklnjhpbdaaDoor.Z (Sty numS numS_bound)
structure Sc where
 g:Gd
 x:Int
 y:Int
 st:Sty
 sx:Int
 sy:Int
 ss:Sty
 wait:Bool
 wraps:Bool
 top:Int
 bot:Int
 title:ByteArray
end Go.Proofs.YtagolklnjhpbdaaDoor.K

namespace Go.Proofs.YtagolklnjhpbdaaDoor.K
open Go.RowKit
end Go.Proofs.YtagolklnjhpbdaaDoor.K

namespace Go.Proofs.YtagolklnjhpbdaaDoor.Z
open Go.RowKit
theorem results_cell {fn:Func} {p:Tmp} {ty:TypeId} (h:fn.results=#[.cell p ty]) (tmps:Array Value) (P:Program) (w:World) :
    (results fn tmps).run P w=((asAddr (tmps.getD p undef)).run P w).andThen fun a w₁=>(loadVar ty a).run P w₁:=by
 simp only [results,h];simp [Sem.run_bind,Result.andThen]
def SBlk (t:TypeId) (p:Nat) (s:Sty) (w:World):Prop:=w.heap[p]?=some (.cells #[.int .i64 s.fore,.int .i64 s.back,.bool s.bold,.bool s.under,.bool s.inv] t (0,0))
theorem SBlk.new (t:TypeId) (w:World) (s:Sty):SBlk t w.heap.size s (w.alloc (.cells #[.int .i64 s.fore,.int .i64 s.back,.bool s.bold,.bool s.under,.bool s.inv] t)):=World.alloc_heap_new w _
theorem SBlk.lt {t:TypeId} {p:Nat} {s:Sty} {w:World} (h:SBlk t p s w):p<w.heap.size:=(gSx.1 h).1
theorem SBlk.c0 {t:TypeId} {p:Nat} {s:Sty} {w:World} (h:SBlk t p s w):w.cell? ⟨p,0,none⟩=some (.int .i64 s.fore):=by simp [World.cell?,show w.heap[p]?=_ from h]
theorem SBlk.c1 {t:TypeId} {p:Nat} {s:Sty} {w:World} (h:SBlk t p s w):w.cell? ⟨p,1,none⟩=some (.int .i64 s.back):=by simp [World.cell?,show w.heap[p]?=_ from h]
theorem SBlk.c2 {t:TypeId} {p:Nat} {s:Sty} {w:World} (h:SBlk t p s w):w.cell? ⟨p,2,none⟩=some (.bool s.bold):=by simp [World.cell?,show w.heap[p]?=_ from h]
theorem SBlk.c3 {t:TypeId} {p:Nat} {s:Sty} {w:World} (h:SBlk t p s w):w.cell? ⟨p,3,none⟩=some (.bool s.under):=by simp [World.cell?,show w.heap[p]?=_ from h]
theorem SBlk.c4 {t:TypeId} {p:Nat} {s:Sty} {w:World} (h:SBlk t p s w):w.cell? ⟨p,4,none⟩=some (.bool s.inv):=by simp [World.cell?,show w.heap[p]?=_ from h]
theorem SBlk.fr {t:TypeId} {p:Nat} {s:Sty} {w:World} (h:SBlk t p s w) (o:Nat):w.frozen? ⟨p,o,none⟩=false:=by simp [World.frozen?,show w.heap[p]?=_ from h]
theorem SBlk.below {t:TypeId} {p:Nat} {s:Sty} {w w':World} {B:Nat} (h:SBlk t p s w) (hb:Below B w w') (hp:p<B):SBlk t p s w':=(hb.block p hp).trans h
theorem SBlk.alloc {t:TypeId} {p:Nat} {s:Sty} {w:World} (h:SBlk t p s w) (o:Obj):SBlk t p s (w.alloc o):=(World.grownBy_alloc w o none).block p h.lt (by simp) |>.trans h
theorem SBlk.other {t:TypeId} {p k o:Nat} {s:Sty} {w:World} (h:SBlk t p s w) (hne:p≠k) (v:Value):SBlk t p s (w.setCell ⟨k,o,none⟩ v) :=
 (Below.heap_setCell w ⟨k,o,none⟩ v p hne).trans h
end Go.Proofs.YtagolklnjhpbdaaDoor.Z

namespace Go.Proofs.YtagolklnjhpbdaaDoor.Z
open Go.RowKit
end Go.Proofs.YtagolklnjhpbdaaDoor.Z

namespace Go.Proofs.YtagolklnjhpbdaaDoor.K
open Go.RowKit
open Go.Proofs.YtagolklnjhpbdaaDoor.Z (Sty numS)
end Go.Proofs.YtagolklnjhpbdaaDoor.K

namespace Go.Proofs.YtagolklnjhpbdaaDoor.K
open Go.RowKit Go.Proofs.YtagolklnjhpbdaaDoor.I
def ofN (k:Int) (x:Sc) (y:Bk):Sn:=⟨k,(x.g.W:Int),(x.g.rs.length:Int),x.x,x.y,x.title,x.g.rs,(y.L.length:Int),((chainB y.L:Nat):Int),y.G⟩
end Go.Proofs.YtagolklnjhpbdaaDoor.K

namespace Go.Proofs.YtagolklnjhpbdaaDoor.K
open Go.RowKit Go.Proofs.YtagolklnjhpbdaaDoor.I
def awS:Sn:=⟨1,1,1,0,0,⟨#[]⟩,[⟨[⟨32,0,0⟩],false⟩],0,0,[]⟩
theorem aw_b:SnB awS:=by
 refine ⟨by decide,fun r hr=>?_,fun r hr=>?_,by decide,fun g hg=>by cases hg⟩
 · rw [List.mem_singleton.1 hr]; decide
 · rw [List.mem_singleton.1 hr]; intro c hc; rw [List.mem_singleton.1 hc]; exact ⟨by decide,by decide⟩
end Go.Proofs.YtagolklnjhpbdaaDoor.K

namespace Go.Proofs.YtagolklnjhpbdaaDoor.K
open Go.RowKit Go.Proofs.YtagolklnjhpbdaaDoor.I
theorem aw17_diff:diffN emptyN awS=[0,1,1,1,0,0,0,0,0,0,1,0,0,1,32,0,0]:=by decide +kernel
theorem aw17_full:FullN awS:=by decide +kernel
theorem aw17_apply:applyN emptyN [0,1,1,1,0,0,0,0,0,0,1,0,0,1,32,0,0]=(awS,0):=by rw [← aw17_diff]; exact apply_back (.inl rfl) aw17_full
theorem aw17_few:(∀ x ∈ difL emptyN 0 awS.R,(packR x.2).length≤9)∧(difL emptyN 0 awS.R).length*(9+9)≤900000:=by decide +kernel
end Go.Proofs.YtagolklnjhpbdaaDoor.K

namespace Go.Proofs.YtagolklnjhpbdaaDoor.K
open Go.RowKit Go.Proofs.YtagolklnjhpbdaaDoor.I
theorem aw17_in {q:Nat} {a:Option Addr} {n c:Nat} {w:World} (hq:w.heap[q]?=some (.cells #[.slice a n c,.bool false] 57 (0,0))) (hr:RowV .i32 (Rv.val ⟨a,n,c,false⟩) ⟨[⟨32,0,0⟩],false⟩ w):SnIn .i32 (some ⟨q,0,none⟩) 1 1 none 0 0 awS w:=by
 refine ⟨⟨⟨[⟨a,n,c,false⟩],⟨rfl,Nat.le_refl _,by decide,.inr ⟨q,0,rfl,(gSx.1 hq).1,fun i d hi=>?_⟩⟩,⟨rfl,fun i u r hu hr2=>?_⟩,fun u _ _ b o _ hm=>by cases hm⟩,(fun e=>by cases e),fun _ b o _ hm=>by cases hm⟩,(zero_in w).beg,fun _=>rfl⟩
 · have h0:i=0:=by have:=(List.getElem?_eq_some_iff.1 hi).1; simp at this; omega
   subst h0;obtain rfl:(⟨a,n,c,false⟩ : Rv)=d:=by simpa using hi
   exact ⟨by rw [cell_block hq]; rfl,by rw [cell_block hq]; rfl⟩
 · have h0:i=0:=by have:=(List.getElem?_eq_some_iff.1 hu).1; simp at this; omega
   subst h0;obtain rfl:(⟨a,n,c,false⟩ : Rv)=u:=by simpa using hu
   have e:r=⟨[⟨32,0,0⟩],false⟩ := by
    have h2:awS.R[0]?=some r:=hr2;injection h2 with h2
    exact h2.symm
   rw [e];exact hr
set_option maxRecDepth 100000 in
set_option maxHeartbeats 16000000 in
theorem awake17_any (w:World) (hT:Go.Proofs.YtagolklnjhpbdaaDoor.S.Tab w):Calls Tryd.prog 7 #[] w fun e w'=>e=.returned (.bool true)∧Below w.heap.size w w':=by
 obtain ⟨P,hP⟩ : ∃ P:Ending→World→Prop,(fun e w'=>e=.returned (.bool true)∧Below w.heap.size w w')=P:=⟨_,rfl⟩;rw [hP];have HP:=hDx hP;have HT:=hDx hT;have h1:=rowBlank_any 1 0 w;rw [show blanks (nearN 1) 0=[⟨32,0,0⟩] from by decide] at h1;have H1:=hDx h1;have hz:=zeroSnap;clear hP hT h1
 go_enter Tryd.func7,Tryd.ntmps7
 go_wp2_with fail
 refine H1.out.mono ?_;intro e w1 hpost;obtain ⟨v,rfl,hrow,hb1⟩ := RowPost.rowV hpost;have hrow0:=hrow;obtain ⟨a,c,rfl,-,-⟩ := hrow;obtain ⟨q,hq⟩ : ∃ q,w1.heap.size=q:=⟨_,rfl⟩;obtain ⟨w2,hw2⟩ : ∃ w2,w1.alloc (.cells #[.slice a 1 c,.bool false] 57)=w2:=⟨_,rfl⟩;have hb2:Below w1.heap.size w1 w2:=by rw [← hw2]; exact (Below.refl _ _).alloc (Nat.le_refl _) _
 have hz2:w2.heap[q]?=some (.cells #[.slice a 1 c,.bool false] 57 (0,0)):=by rw [← hw2,← hq]; exact heap_alloc_new w1 _
 have hbb:w2.heap.size=q+1:=by rw [← hw2,World.size_alloc,hq]
 obtain ⟨w3,hw3⟩ : ∃ w3,w2.alloc (.cells #[.int .i64 1,.int .i64 1,.int .i64 1,.int .i64 0,.int .i64 0,.string ⟨#[]⟩,.slice (some ⟨q,0,none⟩) 1 1,.int .i64 0,.int .i64 0,.slice none 0 0] 25)=w3:=⟨_,rfl⟩;have hb3:Below w2.heap.size w2 w3:=by rw [← hw3]; exact (Below.refl _ _).alloc (Nat.le_refl _) _
 have hz3:w3.heap[q+1]?=some (.cells #[.int .i64 1,.int .i64 1,.int .i64 1,.int .i64 0,.int .i64 0,.string ⟨#[]⟩,.slice (some ⟨q,0,none⟩) 1 1,.int .i64 0,.int .i64 0,.slice none 0 0] 25 (0,0)):=by rw [← hw3,← hbb]; exact heap_alloc_new w2 _
 have hq3:=(hb3.block q (gSx.1 hz2).1).trans hz2;have hin:SnIn .i32 (some ⟨q,0,none⟩) 1 1 none 0 0 awS w3:=aw17_in hq3 ((show RowV .i32 (Rv.val ⟨a,1,c,false⟩) ⟨[⟨32,0,0⟩],false⟩ w1 from hrow0).belowAll hb2 |>.belowAll hb3);have hbw:Below w.heap.size w w3:=(hb1.trans (hb2.mono hb1.size)).trans (hb3.mono (Nat.le_trans hb1.size hb2.size));have HD:=diff_any emptyN awS none 0 0 none 0 0 (some ⟨q,0,none⟩) 1 1 none 0 0 w3 (zero_in w3) SnB.empty hin aw_b (Go.Proofs.YtagolklnjhpbdaaDoor.S.tab_of HT.out hbw) 9 aw17_few.1 aw17_few.2;unfold DiPost at HD;rw [aw17_diff] at HD;have HD:=hDx HD;obtain ⟨c0,c1,c2,c3,c4,c5,c6,c7,c8,c9⟩ := ten_cells (s:=awS) (ra:=some ⟨q,0,none⟩) (rn:=1) (rc:=1) (ga:=none) (gn:=0) (gc:=0) hz3;unfold awS at c0 c1 c2 c3 c4 c5 c7 c8;simp only at c0 c1 c2 c3 c4 c5 c6 c7 c8 c9;have HIn:=hDx hin;have HZ3:=hDx hz3;have HBw:=hDx hbw;have HW2:=hDx hw2;have HW3:=hDx hw3;have HQ:=hDx hq
 unfold snA emptyN awS at HD;simp only at HD;clear hrow0 hpost hb1 hb2 hz2 hb3 hz3 hq3 hin hbw hw2 hw3 hq hbb H1
 go_upto_region 2 with fail
 rw [HW2.out,HQ.out,HW3.out]
 go_wp2_with fail
 refine HD.out.mono ?_;rintro e w4 ⟨rfl,hb4⟩;have hbw4:Below w.heap.size w w4:=HBw.out.trans (hb4.mono HBw.out.size);have HAp:=apply_any ⟨#[0,1,1,1,0,0,0,0,0,0,1,0,0,1,32,0,0]⟩ (by decide) emptyN none 0 0 none 0 0 w4 (zero_in w4) SnB.empty (Go.Proofs.YtagolklnjhpbdaaDoor.S.tab_of HT.out hbw4);rw [show (⟨#[0,1,1,1,0,0,0,0,0,0,1,0,0,1,32,0,0]⟩ : ByteArray).data.toList=[0,1,1,1,0,0,0,0,0,0,1,0,0,1,32,0,0] from rfl,aw17_apply] at HAp;have HAp:=hDx HAp;have HI4:=hDx (HIn.out.belowAll hb4);have hz4:=(hb4.block (q+1) (gSx.1 HZ3.out).1).trans HZ3.out;have HZ4:=hDx hz4;have HBw4:=hDx hbw4;unfold snA emptyN at HAp;simp only at HAp;clear c0 c1 c2 c3 c4 c5 c6 c7 c8 c9 hb4 hbw4 hz4 HD HIn HZ3 HBw
 go_wp2_with fail
 refine HAp.out.mono ?_;rintro e w5 ⟨xa,xn,xc,ya,yn,yc,rfl,hin5,hb5⟩;unfold snA awS;simp only;obtain ⟨cb,hcb⟩ : ∃ cb,w5.heap.size=cb:=⟨_,rfl⟩;obtain ⟨w6,hw6⟩ : ∃ w6,w5.alloc (.cells #[.int .i64 1,.int .i64 1,.int .i64 1,.int .i64 0,.int .i64 0,.string ⟨#[]⟩,.slice xa xn xc,.int .i64 0,.int .i64 0,.slice ya yn yc] 25)=w6:=⟨_,rfl⟩;have hb6:Below w5.heap.size w5 w6:=by rw [← hw6]; exact (Below.refl _ _).alloc (Nat.le_refl _) _
 have hz6:w6.heap[cb]?=some (.cells #[.int .i64 1,.int .i64 1,.int .i64 1,.int .i64 0,.int .i64 0,.string ⟨#[]⟩,.slice xa xn xc,.int .i64 0,.int .i64 0,.slice ya yn yc] 25 (0,0)):=by rw [← hw6,← hcb]; exact heap_alloc_new w5 _
 have hz5:=(hb5.block (q+1) (gSx.1 HZ4.out).1).trans HZ4.out;have hz65:=(hb6.block (q+1) (gSx.1 hz5).1).trans hz5;have hbw6:Below w.heap.size w w6:=(HBw4.out.trans (hb5.mono HBw4.out.size)).trans (hb6.mono (Nat.le_trans HBw4.out.size hb5.size));have HSm:=nsame_any awS awS xa xn xc ya yn yc (some ⟨q,0,none⟩) 1 1 none 0 0 w6 (hin5.belowAll hb6) ((HI4.out.belowAll hb5).belowAll hb6) aw_b aw_b;rw [decide_eq_true rfl] at HSm;obtain ⟨c0,c1,c2,c3,c4,c5,c6,c7,c8,c9⟩ := ten_cells (s:=awS) (ra:=some ⟨q,0,none⟩) (rn:=1) (rc:=1) (ga:=none) (gn:=0) (gc:=0) hz65;obtain ⟨d0,d1,d2,d3,d4,d5,d6,d7,d8,d9⟩ := ten_cells (s:=awS) (ra:=xa) (rn:=xn) (rc:=xc) (ga:=ya) (gn:=yn) (gc:=yc) hz6;unfold awS at c0 c1 c2 c3 c4 c5 c7 c8 d0 d1 d2 d3 d4 d5 d7 d8;simp only at c0 c1 c2 c3 c4 c5 c6 c7 c8 c9 d0 d1 d2 d3 d4 d5 d6 d7 d8 d9;unfold snA awS at HSm;simp only at HSm;have HSm:=hDx HSm;have HW6:=hDx hw6;have HCb:=hDx hcb
 have HBw6:=hDx hbw6;clear hb6 hz6 hz5 hz65 hbw6 hw6 hcb hin5 hb5 HAp HI4 HZ4 HBw4
 go_upto_region 4 with fail
 rw [HW6.out,HCb.out]
 go_wp2_with fail
 refine HSm.out.mono ?_;rintro e w7 ⟨rfl,hb7⟩;have hend:Hid (P (.returned (.bool true)) w7):=hDx (by rw [← HP.out]; exact ⟨rfl,HBw6.out.trans (hb7.mono HBw6.out.size)⟩);clear c0 c1 c2 c3 c4 c5 c6 c7 c8 c9 d0 d1 d2 d3 d4 d5 d6 d7 d8 d9 hb7 HSm
 go_wp2_with fail
 exact hend.out
end Go.Proofs.YtagolklnjhpbdaaDoor.K

namespace Go.Proofs.YtagolklnjhpbdaaDoor.K
open Go.RowKit Go.Proofs.YtagolklnjhpbdaaDoor.I
end Go.Proofs.YtagolklnjhpbdaaDoor.K
