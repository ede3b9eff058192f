import Derived.Test.YtagolklnjhpbdaaDoorMerged0
import GoSem.Claim
import Derived.Test.YtagolklnjhpbdaaDoorMerged9
import Derived.Test.YtagolklnjhpbdaaDoorMerged12
import Derived.Test.YtagolklnjhpbdaaDoorMerged11
import Derived.Test.YtagolklnjhpbdaaDoorMerged14
import Derived.Laws.ResultCell
import Derived.Deep.Cut
import Derived.Deep.CutBlock
import Derived.Test.YtagolklnjhpbdaaDoorMerged24
import Derived.Test.YtagolklnjhpbdaaDoorMerged19
import Derived.Test.YtagolklnjhpbdaaDoorMerged16
import Derived.Test.YtagolklnjhpbdaaDoorDtAp
import Derived.Test.YtagolklnjhpbdaaDoorMerged26
namespace Go.Proofs.YtagolklnjhpbdaaDoor.Z
structure Sty where
 fore:Int
 back:Int
 bold:Bool
 under:Bool
 inv:Bool
deriving DecidableEq
def Sty.zero:Sty:=⟨0,0,false,false,false⟩
def Sty.may (s:Sty):Prop:=0≤s.fore∧s.fore≤8∧0≤s.back∧s.back≤8
instance (s:Sty):Decidable s.may:=by unfold Sty.may; infer_instance
def taker (x:Int):Prop:=x=38∨x=48
instance (x:Int):Decidable (taker x):=by unfold taker; infer_instance
def b2 (b:Bool) (k:Int):Int:=if b then k else 0
def numS (s:Sty):Int:=if s.may then s.fore+9*s.back+b2 s.bold 81+b2 s.under 162+b2 s.inv 324 else 0
def ofN (n:Int):Sty:=⟨n % 9,n % 81 / 9,decide (81≤n % 162),decide (162≤n % 324),decide (324≤n)⟩
theorem numS_bound (s:Sty):0≤numS s∧numS s≤647:=by
 unfold numS
 split
 · rename_i h;obtain ⟨h1,h2,h3,h4⟩ := h;obtain ⟨f,b,u,v,w⟩ := s;simp only at *;cases u <;> cases v <;> cases w <;> simp [b2] <;> omega
 · omega
end Go.Proofs.YtagolklnjhpbdaaDoor.Z

namespace Go.Proofs.YtagolklnjhpbdaaDoor.K
open Go.Proofs.YtagolklnjhpbdaaDoor.Z (Sty numS numS_bound)
structure Sc where
 g:Gd
 x:Int
 y:Int
 st:Sty
 sx:Int
 sy:Int
 ss:Sty
 wait:Bool
 wraps:Bool
 top:Int
 bot:Int
 title:ByteArray
end Go.Proofs.YtagolklnjhpbdaaDoor.K

namespace Go.Proofs.YtagolklnjhpbdaaDoor.K
open Go.RowKit
end Go.Proofs.YtagolklnjhpbdaaDoor.K

namespace Go.Proofs.YtagolklnjhpbdaaDoor.Z
open Go.RowKit
theorem results_cell {fn:Func} {p:Tmp} {ty:TypeId} (h:fn.results=#[.cell p ty]) (tmps:Array Value) (P:Program) (w:World) :
    (results fn tmps).run P w=((asAddr (tmps.getD p undef)).run P w).andThen fun a w₁=>(loadVar ty a).run P w₁:=by
 simp only [results,h];simp [Sem.run_bind,Result.andThen]
def SBlk (t:TypeId) (p:Nat) (s:Sty) (w:World):Prop:=w.heap[p]?=some (.cells #[.int .i64 s.fore,.int .i64 s.back,.bool s.bold,.bool s.under,.bool s.inv] t (0,0))
theorem SBlk.new (t:TypeId) (w:World) (s:Sty):SBlk t w.heap.size s (w.alloc (.cells #[.int .i64 s.fore,.int .i64 s.back,.bool s.bold,.bool s.under,.bool s.inv] t)):=World.alloc_heap_new w _
theorem SBlk.lt {t:TypeId} {p:Nat} {s:Sty} {w:World} (h:SBlk t p s w):p<w.heap.size:=(gSx.1 h).1
theorem SBlk.c0 {t:TypeId} {p:Nat} {s:Sty} {w:World} (h:SBlk t p s w):w.cell? ⟨p,0,none⟩=some (.int .i64 s.fore):=by simp [World.cell?,show w.heap[p]?=_ from h]
theorem SBlk.c1 {t:TypeId} {p:Nat} {s:Sty} {w:World} (h:SBlk t p s w):w.cell? ⟨p,1,none⟩=some (.int .i64 s.back):=by simp [World.cell?,show w.heap[p]?=_ from h]
theorem SBlk.c2 {t:TypeId} {p:Nat} {s:Sty} {w:World} (h:SBlk t p s w):w.cell? ⟨p,2,none⟩=some (.bool s.bold):=by simp [World.cell?,show w.heap[p]?=_ from h]
theorem SBlk.c3 {t:TypeId} {p:Nat} {s:Sty} {w:World} (h:SBlk t p s w):w.cell? ⟨p,3,none⟩=some (.bool s.under):=by simp [World.cell?,show w.heap[p]?=_ from h]
theorem SBlk.c4 {t:TypeId} {p:Nat} {s:Sty} {w:World} (h:SBlk t p s w):w.cell? ⟨p,4,none⟩=some (.bool s.inv):=by simp [World.cell?,show w.heap[p]?=_ from h]
theorem SBlk.fr {t:TypeId} {p:Nat} {s:Sty} {w:World} (h:SBlk t p s w) (o:Nat):w.frozen? ⟨p,o,none⟩=false:=by simp [World.frozen?,show w.heap[p]?=_ from h]
theorem SBlk.below {t:TypeId} {p:Nat} {s:Sty} {w w':World} {B:Nat} (h:SBlk t p s w) (hb:Below B w w') (hp:p<B):SBlk t p s w':=(hb.block p hp).trans h
theorem SBlk.alloc {t:TypeId} {p:Nat} {s:Sty} {w:World} (h:SBlk t p s w) (o:Obj):SBlk t p s (w.alloc o):=(World.grownBy_alloc w o none).block p h.lt (by simp) |>.trans h
theorem SBlk.other {t:TypeId} {p k o:Nat} {s:Sty} {w:World} (h:SBlk t p s w) (hne:p≠k) (v:Value):SBlk t p s (w.setCell ⟨k,o,none⟩ v) :=
 (Below.heap_setCell w ⟨k,o,none⟩ v p hne).trans h
end Go.Proofs.YtagolklnjhpbdaaDoor.Z

namespace Go.Proofs.YtagolklnjhpbdaaDoor.Z
open Go.RowKit
end Go.Proofs.YtagolklnjhpbdaaDoor.Z

namespace Go.Proofs.YtagolklnjhpbdaaDoor.K
open Go.RowKit
open Go.Proofs.YtagolklnjhpbdaaDoor.Z (Sty numS)
end Go.Proofs.YtagolklnjhpbdaaDoor.K

namespace Go.Proofs.YtagolklnjhpbdaaDoor.K
open Go.RowKit Go.Proofs.YtagolklnjhpbdaaDoor.I
def ofN (k:Int) (x:Sc) (y:Bk):Sn:=⟨k,(x.g.W:Int),(x.g.rs.length:Int),x.x,x.y,x.title,x.g.rs,(y.L.length:Int),((chainB y.L:Nat):Int),y.G⟩
end Go.Proofs.YtagolklnjhpbdaaDoor.K

namespace Go.Proofs.YtagolklnjhpbdaaDoor.K
open Go.RowKit Go.Proofs.YtagolklnjhpbdaaDoor.I
def awS:Sn:=⟨1,1,1,0,0,⟨#[]⟩,[⟨[⟨32,0,0⟩],false⟩],0,0,[]⟩
theorem aw_b:SnB awS:=by
 refine ⟨by decide,fun r hr=>?_,fun r hr=>?_,by decide,fun g hg=>by cases hg⟩
 · rw [List.mem_singleton.1 hr]; decide
 · rw [List.mem_singleton.1 hr]; intro c hc; rw [List.mem_singleton.1 hc]; exact ⟨by decide,by decide⟩
end Go.Proofs.YtagolklnjhpbdaaDoor.K

namespace Go.Proofs.YtagolklnjhpbdaaDoor.K
open Go.RowKit Go.Proofs.YtagolklnjhpbdaaDoor.I
theorem aw17_diff:diffN emptyN awS=[0,1,1,1,0,0,0,0,0,0,1,0,0,1,32,0,0]:=by decide +kernel
theorem aw17_full:FullN awS:=by decide +kernel
theorem aw17_apply:applyN emptyN [0,1,1,1,0,0,0,0,0,0,1,0,0,1,32,0,0]=(awS,0):=by rw [← aw17_diff]; exact apply_back (.inl rfl) aw17_full
theorem aw17_few:(∀ x ∈ difL emptyN 0 awS.R,(packR x.2).length≤9)∧(difL emptyN 0 awS.R).length*(9+9)≤900000:=by decide +kernel
end Go.Proofs.YtagolklnjhpbdaaDoor.K

namespace Go.Proofs.YtagolklnjhpbdaaDoor.K
open Go.RowKit Go.Proofs.YtagolklnjhpbdaaDoor.I
theorem aw17_in {q:Nat} {a:Option Addr} {n c:Nat} {w:World} (hq:w.heap[q]?=some (.cells #[.slice a n c,.bool false] 57 (0,0))) (hr:RowV .i32 (Rv.val ⟨a,n,c,false⟩) ⟨[⟨32,0,0⟩],false⟩ w):SnIn .i32 (some ⟨q,0,none⟩) 1 1 none 0 0 awS w:=by
 refine ⟨⟨⟨[⟨a,n,c,false⟩],⟨rfl,Nat.le_refl _,by decide,.inr ⟨q,0,rfl,(gSx.1 hq).1,fun i d hi=>?_⟩⟩,⟨rfl,fun i u r hu hr2=>?_⟩,fun u _ _ b o _ hm=>by cases hm⟩,(fun e=>by cases e),fun _ b o _ hm=>by cases hm⟩,(zero_in w).beg,fun _=>rfl⟩
 · have h0:i=0:=by have:=(List.getElem?_eq_some_iff.1 hi).1; simp at this; omega
   subst h0;obtain rfl:(⟨a,n,c,false⟩ : Rv)=d:=by simpa using hi
   exact ⟨by rw [cell_block hq]; rfl,by rw [cell_block hq]; rfl⟩
 · have h0:i=0:=by have:=(List.getElem?_eq_some_iff.1 hu).1; simp at this; omega
   subst h0;obtain rfl:(⟨a,n,c,false⟩ : Rv)=u:=by simpa using hu
   have e:r=⟨[⟨32,0,0⟩],false⟩ := by
    have h2:awS.R[0]?=some r:=hr2;injection h2 with h2
    exact h2.symm
   rw [e];exact hr
set_option maxRecDepth 100000 in
set_option maxHeartbeats 16000000 in
theorem awake17_any (w:World) (hT:Go.Proofs.YtagolklnjhpbdaaDoor.S.Tab w):Calls Tryd.prog 7 #[] w fun e w'=>e=.returned (.bool true)∧Below w.heap.size w w':=by
 obtain ⟨P,hP⟩ : ∃ P:Ending→World→Prop,(fun e w'=>e=.returned (.bool true)∧Below w.heap.size w w')=P:=⟨_,rfl⟩;rw [hP];have HP:=hDx hP;have HT:=hDx hT;have h1:=rowBlank_any 1 0 w;rw [show blanks (nearN 1) 0=[⟨32,0,0⟩] from by decide] at h1;have H1:=hDx h1;have hz:=zeroSnap;clear hP hT h1
 go_enter Tryd.func7,Tryd.ntmps7
 go_wp2_with fail
 refine H1.out.mono ?_;intro e w1 hpost;obtain ⟨v,rfl,hrow,hb1⟩ := RowPost.rowV hpost;have hrow0:=hrow;obtain ⟨a,c,rfl,-,-⟩ := hrow;obtain ⟨q,hq⟩ : ∃ q,w1.heap.size=q:=⟨_,rfl⟩;obtain ⟨w2,hw2⟩ : ∃ w2,w1.alloc (.cells #[.slice a 1 c,.bool false] 57)=w2:=⟨_,rfl⟩;have hb2:Below w1.heap.size w1 w2:=by rw [← hw2]; exact (Below.refl _ _).alloc (Nat.le_refl _) _
 have hz2:w2.heap[q]?=some (.cells #[.slice a 1 c,.bool false] 57 (0,0)):=by rw [← hw2,← hq]; exact heap_alloc_new w1 _
 have hbb:w2.heap.size=q+1:=by rw [← hw2,World.size_alloc,hq]
 obtain ⟨w3,hw3⟩ : ∃ w3,w2.alloc (.cells #[.int .i64 1,.int .i64 1,.int .i64 1,.int .i64 0,.int .i64 0,.string ⟨#[]⟩,.slice (some ⟨q,0,none⟩) 1 1,.int .i64 0,.int .i64 0,.slice none 0 0] 25)=w3:=⟨_,rfl⟩;have hb3:Below w2.heap.size w2 w3:=by rw [← hw3]; exact (Below.refl _ _).alloc (Nat.le_refl _) _
 have hz3:w3.heap[q+1]?=some (.cells #[.int .i64 1,.int .i64 1,.int .i64 1,.int .i64 0,.int .i64 0,.string ⟨#[]⟩,.slice (some ⟨q,0,none⟩) 1 1,.int .i64 0,.int .i64 0,.slice none 0 0] 25 (0,0)):=by rw [← hw3,← hbb]; exact heap_alloc_new w2 _
 have hq3:=(hb3.block q (gSx.1 hz2).1).trans hz2;have hin:SnIn .i32 (some ⟨q,0,none⟩) 1 1 none 0 0 awS w3:=aw17_in hq3 ((show RowV .i32 (Rv.val ⟨a,1,c,false⟩) ⟨[⟨32,0,0⟩],false⟩ w1 from hrow0).belowAll hb2 |>.belowAll hb3);have hbw:Below w.heap.size w w3:=(hb1.trans (hb2.mono hb1.size)).trans (hb3.mono (Nat.le_trans hb1.size hb2.size));have HD:=diff_any emptyN awS none 0 0 none 0 0 (some ⟨q,0,none⟩) 1 1 none 0 0 w3 (zero_in w3) SnB.empty hin aw_b (Go.Proofs.YtagolklnjhpbdaaDoor.S.tab_of HT.out hbw) 9 aw17_few.1 aw17_few.2;unfold DiPost at HD;rw [aw17_diff] at HD;have HD:=hDx HD;obtain ⟨c0,c1,c2,c3,c4,c5,c6,c7,c8,c9⟩ := ten_cells (s:=awS) (ra:=some ⟨q,0,none⟩) (rn:=1) (rc:=1) (ga:=none) (gn:=0) (gc:=0) hz3;unfold awS at c0 c1 c2 c3 c4 c5 c7 c8;simp only at c0 c1 c2 c3 c4 c5 c6 c7 c8 c9;have HIn:=hDx hin;have HZ3:=hDx hz3;have HBw:=hDx hbw;have HW2:=hDx hw2;have HW3:=hDx hw3;have HQ:=hDx hq
 unfold snA emptyN awS at HD;simp only at HD;clear hrow0 hpost hb1 hb2 hz2 hb3 hz3 hq3 hin hbw hw2 hw3 hq hbb H1
 go_upto_region 2 with fail
 rw [HW2.out,HQ.out,HW3.out]
 go_wp2_with fail
 refine HD.out.mono ?_;rintro e w4 ⟨rfl,hb4⟩;have hbw4:Below w.heap.size w w4:=HBw.out.trans (hb4.mono HBw.out.size);have HAp:=apply_any ⟨#[0,1,1,1,0,0,0,0,0,0,1,0,0,1,32,0,0]⟩ (by decide) emptyN none 0 0 none 0 0 w4 (zero_in w4) SnB.empty (Go.Proofs.YtagolklnjhpbdaaDoor.S.tab_of HT.out hbw4);rw [show (⟨#[0,1,1,1,0,0,0,0,0,0,1,0,0,1,32,0,0]⟩ : ByteArray).data.toList=[0,1,1,1,0,0,0,0,0,0,1,0,0,1,32,0,0] from rfl,aw17_apply] at HAp;have HAp:=hDx HAp;have HI4:=hDx (HIn.out.belowAll hb4);have hz4:=(hb4.block (q+1) (gSx.1 HZ3.out).1).trans HZ3.out;have HZ4:=hDx hz4;have HBw4:=hDx hbw4;unfold snA emptyN at HAp;simp only at HAp;clear c0 c1 c2 c3 c4 c5 c6 c7 c8 c9 hb4 hbw4 hz4 HD HIn HZ3 HBw
 go_wp2_with fail
 refine HAp.out.mono ?_;rintro e w5 ⟨xa,xn,xc,ya,yn,yc,rfl,hin5,hb5⟩;unfold snA awS;simp only;obtain ⟨cb,hcb⟩ : ∃ cb,w5.heap.size=cb:=⟨_,rfl⟩;obtain ⟨w6,hw6⟩ : ∃ w6,w5.alloc (.cells #[.int .i64 1,.int .i64 1,.int .i64 1,.int .i64 0,.int .i64 0,.string ⟨#[]⟩,.slice xa xn xc,.int .i64 0,.int .i64 0,.slice ya yn yc] 25)=w6:=⟨_,rfl⟩;have hb6:Below w5.heap.size w5 w6:=by rw [← hw6]; exact (Below.refl _ _).alloc (Nat.le_refl _) _
 have hz6:w6.heap[cb]?=some (.cells #[.int .i64 1,.int .i64 1,.int .i64 1,.int .i64 0,.int .i64 0,.string ⟨#[]⟩,.slice xa xn xc,.int .i64 0,.int .i64 0,.slice ya yn yc] 25 (0,0)):=by rw [← hw6,← hcb]; exact heap_alloc_new w5 _
 have hz5:=(hb5.block (q+1) (gSx.1 HZ4.out).1).trans HZ4.out;have hz65:=(hb6.block (q+1) (gSx.1 hz5).1).trans hz5;have hbw6:Below w.heap.size w w6:=(HBw4.out.trans (hb5.mono HBw4.out.size)).trans (hb6.mono (Nat.le_trans HBw4.out.size hb5.size));have HSm:=nsame_any awS awS xa xn xc ya yn yc (some ⟨q,0,none⟩) 1 1 none 0 0 w6 (hin5.belowAll hb6) ((HI4.out.belowAll hb5).belowAll hb6) aw_b aw_b;rw [decide_eq_true rfl] at HSm;obtain ⟨c0,c1,c2,c3,c4,c5,c6,c7,c8,c9⟩ := ten_cells (s:=awS) (ra:=some ⟨q,0,none⟩) (rn:=1) (rc:=1) (ga:=none) (gn:=0) (gc:=0) hz65;obtain ⟨d0,d1,d2,d3,d4,d5,d6,d7,d8,d9⟩ := ten_cells (s:=awS) (ra:=xa) (rn:=xn) (rc:=xc) (ga:=ya) (gn:=yn) (gc:=yc) hz6;unfold awS at c0 c1 c2 c3 c4 c5 c7 c8 d0 d1 d2 d3 d4 d5 d7 d8;simp only at c0 c1 c2 c3 c4 c5 c6 c7 c8 c9 d0 d1 d2 d3 d4 d5 d6 d7 d8 d9;unfold snA awS at HSm;simp only at HSm;have HSm:=hDx HSm;have HW6:=hDx hw6;have HCb:=hDx hcb
 have HBw6:=hDx hbw6;clear hb6 hz6 hz5 hz65 hbw6 hw6 hcb hin5 hb5 HAp HI4 HZ4 HBw4
 go_upto_region 4 with fail
 rw [HW6.out,HCb.out]
 go_wp2_with fail
 refine HSm.out.mono ?_;rintro e w7 ⟨rfl,hb7⟩;have hend:Hid (P (.returned (.bool true)) w7):=hDx (by rw [← HP.out]; exact ⟨rfl,HBw6.out.trans (hb7.mono HBw6.out.size)⟩);clear c0 c1 c2 c3 c4 c5 c6 c7 c8 c9 d0 d1 d2 d3 d4 d5 d6 d7 d8 d9 hb7 HSm
 go_wp2_with fail
 exact hend.out
end Go.Proofs.YtagolklnjhpbdaaDoor.K

namespace Go.Proofs.YtagolklnjhpbdaaDoor.K
open Go.Proofs.YtagolklnjhpbdaaDoor.R (agree_frame wp_region_due)
open Go.RowKit Go.Proofs.YtagolklnjhpbdaaDoor.I
def SmOkT (rb p1 o1 n1 c1 p2 o2 c2 j:Nat) (x s t x' s' t':Int):Nat→Value→World→Prop
  | 0,u,_=>u=.pointer (some ⟨rb,0,none⟩)
  | 1,u,_=>u=.slice (some ⟨p1,o1,none⟩) n1 c1
  | 2,u,_=>u=.int .i64 (j:Int)
  | 3,u,_=>u=.pointer (some ⟨p1,o1+j*3,none⟩)
  | 4,u,_=>u=.agg #[.int .i64 x,.int .i64 s,.int .i64 t]
  | 5,u,_=>u=.pointer (some ⟨rb+1,0,none⟩)
  | 6,u,_=>u=.slice (some ⟨p2,o2,none⟩) n1 c2
  | 7,u,_=>u=.int .i64 (j:Int)
  | 8,u,_=>u=.pointer (some ⟨p2,o2+j*3,none⟩)
  | 9,u,_=>u=.agg #[.int .i64 x',.int .i64 s',.int .i64 t']
  | 10,u,_=>u=.bool false
  | _,_,_=>True
def SmOkF (rb p1 o1 n1 c1 p2 o2 c2 j:Nat) (x s t x' s' t':Int):Nat→Value→World→Prop
  | 0,u,_=>u=.pointer (some ⟨rb,0,none⟩)
  | 1,u,_=>u=.slice (some ⟨p1,o1,none⟩) n1 c1
  | 2,u,_=>u=.int .i64 (j:Int)
  | 3,u,_=>u=.pointer (some ⟨p1,o1+j*3,none⟩)
  | 4,u,_=>u=.agg #[.int .i64 x,.int .i64 s,.int .i64 t]
  | 5,u,_=>u=.pointer (some ⟨rb+1,0,none⟩)
  | 6,u,_=>u=.slice (some ⟨p2,o2,none⟩) n1 c2
  | 7,u,_=>u=.int .i64 (j:Int)
  | 8,u,_=>u=.pointer (some ⟨p2,o2+j*3,none⟩)
  | 9,u,_=>u=.agg #[.int .i64 x',.int .i64 s',.int .i64 t']
  | 10,u,_=>u=.bool true
  | _,_,_=>True
set_option maxRecDepth 100000 in
set_option maxHeartbeats 8000000 in
theorem rfsame_any (a1 a2:Option Addr) (n1 n2 c1 c2:Nat) (b1 b2:Bool) (r1 r2:Ro) (w:World) (h1:RowV .i64 (.agg #[.slice a1 n1 c1,.bool b1]) r1 w) (h2:RowV .i64 (.agg #[.slice a2 n2 c2,.bool b2]) r2 w) (hn:(n1:Int)≤1000000) (hn2:(n2:Int)≤1000000) :
    Calls Tryd.prog 41 #[.agg #[.slice a1 n1 c1,.bool b1],.agg #[.slice a2 n2 c2,.bool b2]] w fun e w'=>e=.returned (.bool (decide (r1=r2)))∧Below w.heap.size w w':=by
 obtain ⟨rb,hrb⟩ : ∃ rb,w.heap.size=rb:=⟨_,rfl⟩;obtain ⟨P,hP⟩ : ∃ P:Ending→World→Prop,(fun e w'=>e=.returned (.bool (decide (r1=r2)))∧Below w.heap.size w w')=P:=⟨_,rfl⟩;rw [hP];have HEnd:Hid (∀ b v,(r1=r2↔b=true)→Below rb w v→P (.returned (.bool b)) v):=hDx (fun b v hb hv=>by
  rw [← hP,hrb];refine ⟨?_,hv⟩;have:decide (r1=r2)=b:=by by_cases h:r1=r2; rw [decide_eq_true h,hb.1 h]; rw [decide_eq_false h]; cases b; rfl; exact absurd (hb.2 rfl) h
  rw [this])
 obtain ⟨e1,i1,-,-,-,l1⟩ := h1.of;obtain ⟨e2,i2,-,-,-,l2⟩ := h2.of;subst e1 e2;obtain ⟨w2,hw2⟩ : ∃ w2,(w.alloc (.cells #[.slice a1 n1 c1,.bool r1.wrapped] 63)).alloc (.cells #[.slice a2 n2 c2,.bool r2.wrapped] 63)=w2:=⟨_,rfl⟩;have hb2:Below rb w w2:=by rw [← hw2,← hrb]; exact ((Below.refl _ _).alloc (Nat.le_refl _) _).alloc (by simp) _
 have hq1:RoB 63 rb (.slice a1 n1 c1) r1.wrapped w2:=by rw [← hw2,← hrb]; exact (RoB.new _ _ _ _).belowAll ((Below.refl _ _).alloc (Nat.le_refl _) _)
 have hq2:RoB 63 (rb+1) (.slice a2 n2 c2) r2.wrapped w2:=by
  have h:=RoB.new 63 (w.alloc (.cells #[.slice a1 n1 c1,.bool r1.wrapped] 63)) (.slice a2 n2 c2) r2.wrapped;rw [World.size_alloc,hrb,hw2] at h;exact h
 have hsz2:rb+2≤w2.heap.size:=hq2.lt;have HB2:=hDx hb2;have HQ1:=hDx hq1;have HQ2:=hDx hq2;have HL1:=hDx l1;have HL2:=hDx l2;have H1:=hDx (i1.belowAll (by rw [hrb]; exact hb2));have H2:=hDx (i2.belowAll (by rw [hrb]; exact hb2));have HW2:=hDx hw2;have HRb:=hDx hrb;have k0:=hq1.c0;have k1:=hq1.c1;have k2:=hq2.c0;have k3:=hq2.c1;have hw1:∃ x,r1.wrapped=x:=⟨_,rfl⟩
 have hw3:∃ x,r2.wrapped=x:=⟨_,rfl⟩
 obtain ⟨x1,hx1⟩ := hw1;obtain ⟨x2,hx2⟩ := hw3;rw [hx1] at HW2 HQ1 k1 ⊢;rw [hx2] at HW2 HQ2 k3 ⊢;have HX:=hDx (And.intro hx1 hx2);clear hP hb2 hq1 hq2 hw2 hrb h1 h2 i1 i2 l1 l2 hx1 hx2
 go_enter Tryd.func41,Tryd.ntmps41
 go_upto_region 1 with fail
 rw [HW2.out,HRb.out];by_cases hww:x1=x2
 rotate_left
 · have q1:(x1 == x2)=false:=beq_eq_false_iff_ne.2 hww;have hend:=hDx (HEnd.out false w2 ⟨fun h=>absurd (by rw [← HX.out.1,← HX.out.2,h]) hww,fun h=>by cases h⟩ HB2.out);clear hww
   go_wp2_with fail
   exact hend.out
 subst hww;have q1:(x1 == x1)=true:=by simp
 by_cases hnn:n1=n2
 rotate_left
 · have q2:((n1:Int) != (n2:Int))=true:=bne_iff_ne.2 (by omega);have q3:decide (n1=n2)=false:=decide_eq_false hnn;have hend:=hDx (HEnd.out false w2 ⟨fun h=>absurd (by rw [HL1.out,HL2.out,h]) hnn,fun h=>by cases h⟩ HB2.out);clear hnn
   go_wp2_with fail
   exact hend.out
 subst hnn;have q2:((n1:Int) != (n1:Int))=false:=by simp
 go_wp2_with fail
 clear k0 k1 k2 k3 q1 q2 hn2;have hsx:rb<w2.heap.size∧rb+1<w2.heap.size:=⟨by omega,by omega⟩;have HSx:=hDx hsx;clear hsx hsz2
 go_loopw [23] (fun i wr=>∃ j:Nat,i=.int .i64 (j:Int)∧j≤n1∧Hid (r1.l.take j=r2.l.take j∧Below w2.heap.size w2 wr)) (fun i _=>n1 - (intOf i).toNat)
 case atStart=>exact ⟨0,rfl,by omega,hDx ⟨by simp,Below.refl _ _⟩⟩
 case round =>
  obtain ⟨j,rfl,hj,HF⟩ := hrel;by_cases hlt:j<n1
  · have hd:decide (j<n1)=true:=decide_eq_true hlt;have hjI:(j:Int)<n1:=by omega
    have hj1:j<r1.l.length:=by rw [← HL1.out]; exact hlt
    have hj2:j<r2.l.length:=by rw [← HL2.out]; exact hlt
    obtain ⟨p1,o1,rfl,hb1,hA1⟩ := H1.out.at_.resolve_left (by intro e; rw [e] at hj1; simp at hj1);obtain ⟨p2,o2,rfl,hb2,hA2⟩ := H2.out.at_.resolve_left (by intro e; rw [e] at hj2; simp at hj2);have hat1:=(hA1 j r1.l[j] (List.getElem?_eq_getElem hj1)).block (HF.out.2.block p1 hb1);have hat2:=(hA2 j r2.l[j] (List.getElem?_eq_getElem hj2)).block (HF.out.2.block p2 hb2);have hs1:=take_snoc1 r1.l j hj1;have hs2:=take_snoc1 r2.l j hj2;obtain ⟨m1,hk1⟩ : ∃ k,r1.l[j]=k:=⟨_,rfl⟩;obtain ⟨m2,hk2⟩ : ∃ k,r2.l[j]=k:=⟨_,rfl⟩;rw [hk1] at hat1 hs1;rw [hk2] at hat2 hs2;obtain ⟨x,s,t⟩ := m1;obtain ⟨x',s',t'⟩ := m2;have hsw:=HF.out.2.size;have HLt:Hid (rb<wr.heap.size∧rb+1<wr.heap.size∧p1<wr.heap.size∧p2<wr.heap.size):=hDx ⟨by have:=HSx.out; omega,by have:=HSx.out; omega,by omega,by omega⟩;have HC1:=hDx ((HF.out.2.cell (p:=⟨rb,0,none⟩) HSx.out.1).trans HQ1.out.c0)
    have HC2:=hDx ((HF.out.2.cell (p:=⟨rb+1,0,none⟩) HSx.out.2).trans HQ2.out.c0);have HA1:=hDx hat1;have HA2:=hDx hat2;have HS1:=hDx hs1;have HS2:=hDx hs2;have HK1:=hDx hk1;have HK2:=hDx hk2;have HJ1:=hDx hj1;have HJ2:=hDx hj2;clear hA1 hA2 hat1 hat2 hs1 hs2 hk1 hk2 hb1 hb2 hsw hlt
    go_upto_region 6 with fail
    by_cases hall:x=x'∧s=s'∧t=t'
    · have HNq:Hid (x=x'∧s=s'∧t=t'):=hDx hall;have HE:Hid (r1.l.take (j+1)=r2.l.take (j+1)):=hDx (by obtain ⟨rfl,rfl,rfl⟩ := hall; rw [HS1.out,HS2.out,HF.out.1]);clear HK1 HK2 HS1 HS2 hall;refine wp_region_due [] [0,0,0,0,0,0,0,0,0,0,0] (by kernel_rfl) (fun _ _ u=>Below wr.heap.size wr u) (fun _ _=>True) (SmOkT rb p1 o1 n1 c1 p2 o2 c2 j x s t x' s' t') (by rfl) (by kernel_rfl) (by kernel_rfl) (by kernel_rfl) (by kernel_rfl) ?hcong ?hOk ?hop ?hdone ?h0
      case hcong=>exact fun k f f2 u hs hst=>hst
      case hOk=>intro i u w1 w2 h hr; unfold SmOkT at h ⊢; split <;> first | exact True.intro | exact h
      case h0=>exact (Below.refl _ _).drew
      case hop =>
       refine ⟨?_,?_,?_,?_,?_,?_,?_,?_,?_,?_,?_,trivial⟩
       · intro k z v hk hst hag hdep;refine .inl ⟨rfl,fun K hK=>?_⟩;have d2:z.tmps.getD 2 undef=.pointer (some ⟨rb,0,none⟩):=hag.2.2 2 (by kernel_rfl);have e2:=gEx d2;have HSt:=hDx hst;clear hdep hag hst;go_simp;exact hK _ _ trivial rfl HSt.out
       · intro k z v hk hst hag hdep;refine .inl ⟨rfl,fun K hK=>?_⟩;have d26:z.tmps.getD 26 undef=.pointer (some ⟨rb,0,none⟩):=hdep ⟨0,.data⟩ (by simp) rfl _ _ rfl rfl;have e26:=gEx d26;have hb:Below wr.heap.size wr v:=hst;have lc:=(hb.cell (p:=⟨rb,0,none⟩) HLt.out.1).trans HC1.out;clear hb;have HSt:=hDx hst;clear hdep hag hst;go_simp;exact hK _ _ trivial rfl HSt.out
       · intro k z v hk hst hag hdep;refine .inl ⟨rfl,fun K hK=>?_⟩;have d5:z.tmps.getD 5 undef=.int .i64 (j:Int):=hag.2.2 5 (by kernel_rfl);have e5:=gEx d5;have HSt:=hDx hst;clear hdep hag hst;go_simp;exact hK _ _ trivial rfl HSt.out
       · intro k z v hk hst hag hdep;refine .inl ⟨rfl,fun K hK=>?_⟩;have d27:z.tmps.getD 27 undef=.slice (some ⟨p1,o1,none⟩) n1 c1:=hdep ⟨1,.data⟩ (by simp) rfl _ _ rfl rfl;have e27:=gEx d27;have d28:z.tmps.getD 28 undef=.int .i64 (j:Int):=hdep ⟨2,.data⟩ (by simp) rfl _ _ rfl rfl;have e28:=gEx d28;have HSt:=hDx hst;clear hdep hag hst;go_simp;exact hK _ _ trivial rfl HSt.out
       · intro k z v hk hst hag hdep;refine .inl ⟨rfl,fun K hK=>?_⟩;have d29:z.tmps.getD 29 undef=.pointer (some ⟨p1,o1+j*3,none⟩):=hdep ⟨3,.data⟩ (by simp) rfl _ _ rfl rfl;have e29:=gEx d29;have hb:Below wr.heap.size wr v:=hst;have ha:=HA1.out.block (hb.block p1 HLt.out.2.2.1);have l0:=ha.c0;have l1:=ha.c1;have l2:=ha.c2;simp only at l0 l1 l2;clear ha hb;have HSt:=hDx hst;clear hdep hag hst;go_simp;exact hK _ _ trivial rfl HSt.out
       · intro k z v hk hst hag hdep;refine .inl ⟨rfl,fun K hK=>?_⟩;have d3:z.tmps.getD 3 undef=.pointer (some ⟨rb+1,0,none⟩):=hag.2.2 3 (by kernel_rfl);have e3:=gEx d3;have HSt:=hDx hst;clear hdep hag hst;go_simp;exact hK _ _ trivial rfl HSt.out
       · intro k z v hk hst hag hdep;refine .inl ⟨rfl,fun K hK=>?_⟩;have d31:z.tmps.getD 31 undef=.pointer (some ⟨rb+1,0,none⟩):=hdep ⟨5,.data⟩ (by simp) rfl _ _ rfl rfl;have e31:=gEx d31;have hb:Below wr.heap.size wr v:=hst;have lc:=(hb.cell (p:=⟨rb+1,0,none⟩) HLt.out.2.1).trans HC2.out;clear hb;have HSt:=hDx hst;clear hdep hag hst;go_simp;exact hK _ _ trivial rfl HSt.out
       · intro k z v hk hst hag hdep;refine .inl ⟨rfl,fun K hK=>?_⟩;have d5:z.tmps.getD 5 undef=.int .i64 (j:Int):=hag.2.2 5 (by kernel_rfl);have e5:=gEx d5;have HSt:=hDx hst;clear hdep hag hst;go_simp;exact hK _ _ trivial rfl HSt.out
       · intro k z v hk hst hag hdep;refine .inl ⟨rfl,fun K hK=>?_⟩;have d32:z.tmps.getD 32 undef=.slice (some ⟨p2,o2,none⟩) n1 c2:=hdep ⟨6,.data⟩ (by simp) rfl _ _ rfl rfl;have e32:=gEx d32;have d33:z.tmps.getD 33 undef=.int .i64 (j:Int):=hdep ⟨7,.data⟩ (by simp) rfl _ _ rfl rfl;have e33:=gEx d33;have HSt:=hDx hst;clear hdep hag hst;go_simp;exact hK _ _ trivial rfl HSt.out
       · intro k z v hk hst hag hdep;refine .inl ⟨rfl,fun K hK=>?_⟩;have d34:z.tmps.getD 34 undef=.pointer (some ⟨p2,o2+j*3,none⟩):=hdep ⟨8,.data⟩ (by simp) rfl _ _ rfl rfl;have e34:=gEx d34;have hb:Below wr.heap.size wr v:=hst;have ha:=HA2.out.block (hb.block p2 HLt.out.2.2.2);have l0:=ha.c0;have l1:=ha.c1;have l2:=ha.c2;simp only at l0 l1 l2;clear ha hb;have HSt:=hDx hst;clear hdep hag hst;go_simp;exact hK _ _ trivial rfl HSt.out
       · intro k z v hk hst hag hdep;refine .inl ⟨rfl,fun K hK=>?_⟩;have d30:z.tmps.getD 30 undef=.agg #[.int .i64 x,.int .i64 s,.int .i64 t]:=hdep ⟨4,.data⟩ (by simp) rfl _ _ rfl rfl;have e30:=gEx d30;have d35:z.tmps.getD 35 undef=.agg #[.int .i64 x',.int .i64 s',.int .i64 t']:=hdep ⟨9,.data⟩ (by simp) rfl _ _ rfl rfl;have e35:=gEx d35;have HSt:=hDx hst;clear hdep hag hst;obtain ⟨rfl,rfl,rfl⟩ := HNq.out;go_simp;exact hK _ _ trivial rfl HSt.out
      case hdone =>
       intro z v hst hag hok;have d36:z.tmps.getD 36 undef=.bool false:=hok 10 _ 36 rfl rfl;have HVb:Hid (Below wr.heap.size wr v):=hDx hst;clear hst;obtain ⟨uu,hu,hzz⟩ := agree_frame [26,27,28,29,30,31,32,33,34,35,36] rfl hag;have e36:=(hu 36).trans d36;subst hzz;simp only [List.foldl_cons,List.foldl_nil];rw [e36];clear e36 d36 hu hag hok
       try dsimp only [Exit.then]
       simp only [List.setIfInBounds_toArray,List.set_cons_succ,List.set_cons_zero];generalize uu 26=u26',uu 27=u27',uu 28=u28',uu 29=u29',uu 30=u30',uu 31=u31',uu 32=u32',uu 33=u33',uu 34=u34',uu 35=u35';clear uu;rename_i K6 hK6
       try (refine hK6 _ _ ?_)
       go_wp2_with fail
       go_roundw
       case rel=>exact ⟨j+1,by go_num,by omega,hDx ⟨HE.out,HF.out.2.trans (HVb.out.mono HF.out.2.size)⟩⟩
       case measure=>simp [intOf]; omega
    · have HNq:Hid (¬ x=x'∨(x=x'∧¬ s=s')∨(x=x'∧s=s'∧¬ t=t')):=hDx (by
       by_cases h1:x=x'
       · by_cases h2:s=s'
         · exact .inr (.inr ⟨h1,h2,fun h3=>hall ⟨h1,h2,h3⟩⟩)
         · exact .inr (.inl ⟨h1,h2⟩)
       · exact .inl h1)
      have hne:¬ r1=r2:=fun e=>by
       have h3:r1.l[j]?=r2.l[j]?:=by rw [e]
       rw [List.getElem?_eq_getElem HJ1.out,List.getElem?_eq_getElem HJ2.out,HK1.out,HK2.out] at h3;injection h3 with h3
       injection h3 with h3 h4 h5
       exact hall ⟨h3,h4,h5⟩
      have HNe:=hDx hne;clear HK1 HK2 HS1 HS2 hall hne;refine wp_region_due [] [0,0,0,0,0,0,0,0,0,0,0] (by kernel_rfl) (fun _ _ u=>Below wr.heap.size wr u) (fun _ _=>True) (SmOkF rb p1 o1 n1 c1 p2 o2 c2 j x s t x' s' t') (by rfl) (by kernel_rfl) (by kernel_rfl) (by kernel_rfl) (by kernel_rfl) ?hcong ?hOk ?hop ?hdone ?h0
      case hcong=>exact fun k f f2 u hs hst=>hst
      case hOk=>intro i u w1 w2 h hr; unfold SmOkF at h ⊢; split <;> first | exact True.intro | exact h
      case h0=>exact (Below.refl _ _).drew
      case hop =>
       refine ⟨?_,?_,?_,?_,?_,?_,?_,?_,?_,?_,?_,trivial⟩
       · intro k z v hk hst hag hdep;refine .inl ⟨rfl,fun K hK=>?_⟩;have d2:z.tmps.getD 2 undef=.pointer (some ⟨rb,0,none⟩):=hag.2.2 2 (by kernel_rfl);have e2:=gEx d2;have HSt:=hDx hst;clear hdep hag hst;go_simp;exact hK _ _ trivial rfl HSt.out
       · intro k z v hk hst hag hdep;refine .inl ⟨rfl,fun K hK=>?_⟩;have d26:z.tmps.getD 26 undef=.pointer (some ⟨rb,0,none⟩):=hdep ⟨0,.data⟩ (by simp) rfl _ _ rfl rfl;have e26:=gEx d26;have hb:Below wr.heap.size wr v:=hst;have lc:=(hb.cell (p:=⟨rb,0,none⟩) HLt.out.1).trans HC1.out;clear hb;have HSt:=hDx hst;clear hdep hag hst;go_simp;exact hK _ _ trivial rfl HSt.out
       · intro k z v hk hst hag hdep;refine .inl ⟨rfl,fun K hK=>?_⟩;have d5:z.tmps.getD 5 undef=.int .i64 (j:Int):=hag.2.2 5 (by kernel_rfl);have e5:=gEx d5;have HSt:=hDx hst;clear hdep hag hst;go_simp;exact hK _ _ trivial rfl HSt.out
       · intro k z v hk hst hag hdep;refine .inl ⟨rfl,fun K hK=>?_⟩;have d27:z.tmps.getD 27 undef=.slice (some ⟨p1,o1,none⟩) n1 c1:=hdep ⟨1,.data⟩ (by simp) rfl _ _ rfl rfl;have e27:=gEx d27;have d28:z.tmps.getD 28 undef=.int .i64 (j:Int):=hdep ⟨2,.data⟩ (by simp) rfl _ _ rfl rfl;have e28:=gEx d28;have HSt:=hDx hst;clear hdep hag hst;go_simp;exact hK _ _ trivial rfl HSt.out
       · intro k z v hk hst hag hdep;refine .inl ⟨rfl,fun K hK=>?_⟩;have d29:z.tmps.getD 29 undef=.pointer (some ⟨p1,o1+j*3,none⟩):=hdep ⟨3,.data⟩ (by simp) rfl _ _ rfl rfl;have e29:=gEx d29;have hb:Below wr.heap.size wr v:=hst;have ha:=HA1.out.block (hb.block p1 HLt.out.2.2.1);have l0:=ha.c0;have l1:=ha.c1;have l2:=ha.c2;simp only at l0 l1 l2;clear ha hb;have HSt:=hDx hst;clear hdep hag hst;go_simp;exact hK _ _ trivial rfl HSt.out
       · intro k z v hk hst hag hdep;refine .inl ⟨rfl,fun K hK=>?_⟩;have d3:z.tmps.getD 3 undef=.pointer (some ⟨rb+1,0,none⟩):=hag.2.2 3 (by kernel_rfl);have e3:=gEx d3;have HSt:=hDx hst;clear hdep hag hst;go_simp;exact hK _ _ trivial rfl HSt.out
       · intro k z v hk hst hag hdep;refine .inl ⟨rfl,fun K hK=>?_⟩;have d31:z.tmps.getD 31 undef=.pointer (some ⟨rb+1,0,none⟩):=hdep ⟨5,.data⟩ (by simp) rfl _ _ rfl rfl;have e31:=gEx d31;have hb:Below wr.heap.size wr v:=hst;have lc:=(hb.cell (p:=⟨rb+1,0,none⟩) HLt.out.2.1).trans HC2.out;clear hb;have HSt:=hDx hst;clear hdep hag hst;go_simp;exact hK _ _ trivial rfl HSt.out
       · intro k z v hk hst hag hdep;refine .inl ⟨rfl,fun K hK=>?_⟩;have d5:z.tmps.getD 5 undef=.int .i64 (j:Int):=hag.2.2 5 (by kernel_rfl);have e5:=gEx d5;have HSt:=hDx hst;clear hdep hag hst;go_simp;exact hK _ _ trivial rfl HSt.out
       · intro k z v hk hst hag hdep;refine .inl ⟨rfl,fun K hK=>?_⟩;have d32:z.tmps.getD 32 undef=.slice (some ⟨p2,o2,none⟩) n1 c2:=hdep ⟨6,.data⟩ (by simp) rfl _ _ rfl rfl;have e32:=gEx d32;have d33:z.tmps.getD 33 undef=.int .i64 (j:Int):=hdep ⟨7,.data⟩ (by simp) rfl _ _ rfl rfl;have e33:=gEx d33;have HSt:=hDx hst;clear hdep hag hst;go_simp;exact hK _ _ trivial rfl HSt.out
       · intro k z v hk hst hag hdep;refine .inl ⟨rfl,fun K hK=>?_⟩;have d34:z.tmps.getD 34 undef=.pointer (some ⟨p2,o2+j*3,none⟩):=hdep ⟨8,.data⟩ (by simp) rfl _ _ rfl rfl;have e34:=gEx d34;have hb:Below wr.heap.size wr v:=hst;have ha:=HA2.out.block (hb.block p2 HLt.out.2.2.2);have l0:=ha.c0;have l1:=ha.c1;have l2:=ha.c2;simp only at l0 l1 l2;clear ha hb;have HSt:=hDx hst;clear hdep hag hst;go_simp;exact hK _ _ trivial rfl HSt.out
       · intro k z v hk hst hag hdep;refine .inl ⟨rfl,fun K hK=>?_⟩;have d30:z.tmps.getD 30 undef=.agg #[.int .i64 x,.int .i64 s,.int .i64 t]:=hdep ⟨4,.data⟩ (by simp) rfl _ _ rfl rfl;have e30:=gEx d30;have d35:z.tmps.getD 35 undef=.agg #[.int .i64 x',.int .i64 s',.int .i64 t']:=hdep ⟨9,.data⟩ (by simp) rfl _ _ rfl rfl;have e35:=gEx d35;have HSt:=hDx hst;clear hdep hag hst;have hq:=HNq.out;rcases hq with h | ⟨rfl,h⟩ | ⟨rfl,rfl,h⟩
         · go_simp;exact hK _ _ trivial rfl HSt.out
         · go_simp;exact hK _ _ trivial rfl HSt.out
         · go_simp;exact hK _ _ trivial rfl HSt.out
      case hdone =>
       intro z v hst hag hok;have d36:z.tmps.getD 36 undef=.bool true:=hok 10 _ 36 rfl rfl;have HVb:Hid (Below wr.heap.size wr v):=hDx hst;clear hst;obtain ⟨uu,hu,hzz⟩ := agree_frame [26,27,28,29,30,31,32,33,34,35,36] rfl hag;have e36:=(hu 36).trans d36;subst hzz;simp only [List.foldl_cons,List.foldl_nil];rw [e36];clear e36 d36 hu hag hok
       try dsimp only [Exit.then]
       simp only [List.setIfInBounds_toArray,List.set_cons_succ,List.set_cons_zero];generalize uu 26=u26',uu 27=u27',uu 28=u28',uu 29=u29',uu 30=u30',uu 31=u31',uu 32=u32',uu 33=u33',uu 34=u34',uu 35=u35';clear uu;rename_i K6 hK6
       try (refine hK6 _ _ ?_)
       have hend:=hDx (HEnd.out false v ⟨fun h=>absurd h HNe.out,fun h=>by cases h⟩ (HB2.out.trans ((HF.out.2.trans (HVb.out.mono HF.out.2.size)).mono (by have:=HSx.out; omega))))
       go_wp2_with fail
       exact hend.out
  · obtain rfl:j=n1:=by omega
    have hd:decide (j<j)=false:=by simp
    have heq:r1=r2:=by
     have h3:=HF.out.1;rw [List.take_of_length_le (by rw [HL1.out]; exact Nat.le_refl _),List.take_of_length_le (by rw [← HL2.out]; exact Nat.le_refl _)] at h3;obtain ⟨l1,y1⟩ := r1;obtain ⟨l2,y2⟩ := r2;have h4:=HX.out;simp only at h3 h4;rw [h3,h4.1,h4.2]
    have hend:=hDx (HEnd.out true wr ⟨fun _=>rfl,fun _=>heq⟩ (HB2.out.trans (HF.out.2.mono (by have:=HSx.out; omega))));clear hlt heq
    go_wp2_with fail
    exact hend.out
end Go.Proofs.YtagolklnjhpbdaaDoor.K

namespace Go.Proofs.YtagolklnjhpbdaaDoor.K
open Go.RowKit Go.Proofs.YtagolklnjhpbdaaDoor.I
end Go.Proofs.YtagolklnjhpbdaaDoor.K
