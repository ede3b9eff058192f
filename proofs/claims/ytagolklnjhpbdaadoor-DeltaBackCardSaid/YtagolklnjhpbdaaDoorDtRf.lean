import Derived.Test.YtagolklnjhpbdaaDoorMerged0
import Derived.Test.YtagolklnjhpbdaaDoorDtRc
import Derived.Test.YtagolklnjhpbdaaDoorMerged25
import Derived.Test.YtagolklnjhpbdaaDoorMerged23
import Derived.Test.YtagolklnjhpbdaaDoorNRfP
import Derived.Test.YtagolklnjhpbdaaDoorMerged24
import Derived.Test.YtagolklnjhpbdaaDoorMerged17
namespace Go.Proofs.YtagolklnjhpbdaaDoor.K
open Go.Proofs.YtagolklnjhpbdaaDoor.R (agree_frame wp_region_due wp_region_kept)
open Go.RowKit Go.Proofs.YtagolklnjhpbdaaDoor.I
theorem difL_at (a:Sn):∀ (R:List Ro) (y:Nat) (x:Nat × Ro),x ∈ difL a y R→∃ i,x.1=y+i∧R[i]?=some x.2
  | [],_,_,h=>by simp [difL] at h
  | r::R,y,x,h=>by
   rw [difL_cons] at h;have key:x ∈ difL a (y+1) R→∃ i,x.1=y+i∧(r::R)[i]?=some x.2:=fun h=>by
    obtain ⟨i,h1,h2⟩ := difL_at a R (y+1) x h;exact ⟨i+1,by omega,by simpa using h2⟩
   split at h
   · exact key h
   · rcases List.mem_cons.1 h with rfl | h
     · exact ⟨0,rfl,rfl⟩
     · exact key h
theorem rowsD_take (l:List (Nat × Ro)) (j:Nat) (h:j<l.length):rowsD (l.take (j+1))=rowsD (l.take j)++(numB (l[j].1:Int)++packR l[j].2):=by
 rw [take_snoc1 l j h,rowsD_snoc]
theorem rowsD_some {s:Sn} (h:Few s) (a:Sn) (j:Nat):(rowsD ((difL a 0 s.R).take j)).length≤900000:=by
 have h1:=rowsD_len (L:=1449) ((difL a 0 s.R).take j) (fun x hx=>few_row h a x (List.mem_of_mem_take hx));have h2:=few_all h a;have h3:((difL a 0 s.R).take j).length≤(difL a 0 s.R).length:=by rw [List.length_take]; omega
 have h4:=Nat.mul_le_mul_right (9+1449) h3;omega
def RfOk4 (rb:Nat) (sa sb:Sn) (ra:Option Addr) (rn rc:Nat) (ga:Option Addr) (gn gc:Nat) (sm:Int):Nat→Value→World→Prop
  | 0,u,_=>u=.agg #[.int .i64 sa.k,.int .i64 sa.w,.int .i64 sa.h,.int .i64 sa.x,.int .i64 sa.y,.string sa.t,.slice ra rn rc,.int .i64 sa.n,.int .i64 sa.c,.slice ga gn gc]
  | 1,u,_=>u=.int .i64 sm
  | 2,u,_=>u=.pointer (some ⟨rb+1,0,none⟩)
  | 3,u,_=>u=.int .i64 sb.k
  | 4,u,_=>u=.pointer (some ⟨rb+1,1,none⟩)
  | 5,u,_=>u=.int .i64 sb.w
  | 6,u,_=>u=.pointer (some ⟨rb+1,2,none⟩)
  | 7,u,_=>u=.int .i64 sb.h
  | 8,u,_=>u=.pointer (some ⟨rb+1,3,none⟩)
  | 9,u,_=>u=.int .i64 sb.x
  | 10,u,_=>u=.pointer (some ⟨rb+1,4,none⟩)
  | 11,u,_=>u=.int .i64 sb.y
  | 12,u,w=>∃ lb,u=.slice (some ⟨lb,0,none⟩) 6 6∧w.heap[lb]?=some (.cells #[.int .i64 sm,.int .i64 sb.k,.int .i64 sb.w,.int .i64 sb.h,.int .i64 sb.x,.int .i64 sb.y] 3 (0,0))
  | 13,u,_=>u=.int .i64 6
  | 14,u,_=>u=.int .i64 0
  | _,_,_=>True
def RfOk10 (rb:Nat) (sb:Sn) (tt ta9 tb9 tc9 td9 te9:ByteArray) (ha:Option Addr) (hn hc:Nat) (la:Option Addr) (ln lc:Nat):Nat→Value→World→Prop
  | 0,u,_=>u=.string tt
  | 1,u,_=>u=.pointer (some ⟨rb+1,5,none⟩)
  | 2,u,_=>u=.string sb.t
  | 3,u,_=>u=.string ta9
  | 4,u,_=>u=.pointer (some ⟨rb+1,7,none⟩)
  | 5,u,_=>u=.int .i64 sb.n
  | 6,u,_=>u=.string tb9
  | 7,u,_=>u=.string (ta9++tb9)
  | 8,u,_=>u=.pointer (some ⟨rb+1,8,none⟩)
  | 9,u,_=>u=.int .i64 sb.c
  | 10,u,_=>u=.string tc9
  | 11,u,_=>u=.string (ta9++tb9++tc9)
  | 12,u,_=>u=.pointer (some ⟨rb+1,9,none⟩)
  | 13,u,_=>u=.slice ha hn hc
  | 14,u,_=>u=.string td9
  | 15,u,_=>u=.string (ta9++tb9++tc9++td9)
  | 16,u,_=>u=.slice la ln lc
  | 17,u,_=>u=.int .i64 (ln:Int)
  | 18,u,_=>u=.string te9
  | 19,u,_=>u=.string (ta9++tb9++tc9++td9++te9)
  | 20,u,_=>u=.string (tt++(ta9++tb9++tc9++td9++te9))
  | 21,u,_=>u=.string (tt++(ta9++tb9++tc9++td9++te9))
  | _,_,_=>True
def RfOk14 (rb y ab ao tn tc:Nat) (xa:Option Addr) (xn xc:Nat) (xb:Bool) (tj ua ub:ByteArray):Nat→Value→World→Prop
  | 0,u,_=>u=.string tj
  | 1,u,_=>u=.int .i64 (y:Int)
  | 2,u,_=>u=.string ua
  | 3,u,_=>u=.pointer (some ⟨rb+1,6,none⟩)
  | 4,u,_=>u=.slice (some ⟨ab,ao,none⟩) tn tc
  | 5,u,_=>u=.int .i64 (y:Int)
  | 6,u,_=>u=.pointer (some ⟨ab,ao+y*2,none⟩)
  | 7,u,_=>u=.agg #[.slice xa xn xc,.bool xb]
  | 8,u,_=>u=.string ub
  | 9,u,_=>u=.string (ua++ub)
  | 10,u,_=>u=.string (tj++(ua++ub))
  | 11,u,_=>u=.string (tj++(ua++ub))
  | _,_,_=>True
set_option maxRecDepth 100000 in
set_option maxHeartbeats 16000000 in
theorem rfdiff_any (sa sb:Sn) (ra:Option Addr) (rn rc:Nat) (ga:Option Addr) (gn gc:Nat) (ta:Option Addr) (tn tc:Nat) (ha:Option Addr) (hn hc:Nat) (w:World) (hA:SnIn .i64 ra rn rc ga gn gc sa w) (hAB:SnB sa) (hBi:SnIn .i64 ta tn tc ha hn hc sb w) (hBB:SnB sb) (hFw:Few sb) :
    Calls Tryd.prog 11 #[.agg (snA sa ra rn rc ga gn gc),.agg (snA sb ta tn tc ha hn hc)] w fun e w'=>∃ t:ByteArray,e=.returned (.string t)∧t.data.toList=diffN sa sb∧Below w.heap.size w w':=by
 obtain ⟨rb,hrb⟩ : ∃ rb,w.heap.size=rb:=⟨_,rfl⟩;obtain ⟨P,hP⟩ : ∃ P:Ending→World→Prop,(fun e w'=>∃ t:ByteArray,e=.returned (.string t)∧t.data.toList=diffN sa sb∧Below w.heap.size w w')=P:=⟨_,rfl⟩;rw [hP];obtain ⟨w1,hw1⟩ : ∃ w1,(w.alloc (.cells (snA sa ra rn rc ga gn gc) 32)).alloc (.cells (snA sb ta tn tc ha hn hc) 32)=w1:=⟨_,rfl⟩;have b1:Below w.heap.size w (w.alloc (.cells (snA sa ra rn rc ga gn gc) 32)):=(Below.refl _ _).alloc (Nat.le_refl _) _;have hb1:Below rb w w1:=by rw [← hw1,← hrb]; exact b1.alloc (by rw [World.size_alloc]; omega) _
 have hz1:w1.heap[rb]?=some (.cells (snA sa ra rn rc ga gn gc) 32 (0,0)):=by
  rw [← hw1,← hrb,Below.heap_alloc _ _ _ (by rw [World.size_alloc]; omega)];exact heap_alloc_new w _
 have hy1:w1.heap[rb+1]?=some (.cells (snA sb ta tn tc ha hn hc) 32 (0,0)):=by
  have h:=heap_alloc_new (w.alloc (.cells (snA sa ra rn rc ga gn gc) 32)) (.cells (snA sb ta tn tc ha hn hc) 32);rw [World.size_alloc,hrb,hw1] at h;exact h
 have hbw:Below w.heap.size w w1:=by rw [hrb]; exact hb1
 have HEnd:Hid (∀ (t:ByteArray) v,t.data.toList=diffN sa sb→Below w1.heap.size w1 v→P (.returned (.string t)) v):=hDx (fun t v ht hv=>by
  rw [← hP];exact ⟨t,rfl,ht,by rw [hrb]; exact hb1.trans (hv.mono (by have:=hb1.size; omega))⟩)
 have HLt1:Hid (rb<w1.heap.size∧rb+1<w1.heap.size):=hDx ⟨(gSx.1 hz1).1,(gSx.1 hy1).1⟩;have HIa:=hDx (hA.belowAll hbw);have HIb:=hDx (hBi.belowAll hbw);have HZ1:=hDx hz1;have HY1:=hDx hy1;have HW1:=hDx hw1;have HRb:=hDx hrb;have HBa:=hDx hAB;have HBb:=hDx hBB;have HFb:=hDx hFw;have HM1:=hDx (nrfmay_any sa ra rn rc ga gn gc w1 (hA.belowAll hbw) hAB);obtain ⟨n0,n1,n2,n3,n4,n5,n6,n7,n8,n9⟩ := ten_cells (s:=sa) (ra:=ra) (rn:=rn) (rc:=rc) (ga:=ga) (gn:=gn) (gc:=gc) hz1;clear hP hrb hw1 b1 hb1 hz1 hy1 hbw hA hBi hAB hBB hFw;unfold snA at HW1 HM1;unfold snA
 go_enter Tryd.func11,Tryd.ntmps11
 go_upto_region 1 with fail
 rw [HW1.out,HRb.out]
 go_wp2_with fail
 refine HM1.out.mono ?_;rintro e w2 ⟨rfl,hb2⟩;have HB2:Hid (Below w1.heap.size w1 w2):=hDx hb2;clear hb2 n0 n1 n2 n3 n4 n5 n6 n7 n8 n9 HM1;by_cases hm:MayN sa
 rotate_left
 · rw [decide_eq_false hm];have hend:=hDx (HEnd.out ⟨#[]⟩ w2 (by unfold diffN; rw [if_neg (fun h=>hm h.1)]) HB2.out);clear hm
   go_wp2_with fail
   exact hend.out
 rw [decide_eq_true hm];have HMa:=hDx hm;clear hm;have HPk:=hDx (nrfpack_any sb ta tn tc ha hn hc w2 (HIb.out.belowAll HB2.out) HBb.out);obtain ⟨n0,n1,n2,n3,n4,n5,n6,n7,n8,n9⟩ := ten_cells (s:=sb) (ra:=ta) (rn:=tn) (rc:=tc) (ga:=ha) (gn:=hn) (gc:=hc) ((HB2.out.block _ HLt1.out.2).trans HY1.out);unfold snA at HPk
 go_wp2_with fail
 refine HPk.out.mono ?_;rintro e w3 ⟨t,rfl,ht,hb3⟩;have HB3:Hid (Below w1.heap.size w1 w3):=hDx (HB2.out.trans (hb3.mono HB2.out.size));clear hb3 n0 n1 n2 n3 n4 n5 n6 n7 n8 n9 HPk;by_cases hp:packN sb=[]
 · obtain ⟨q1,q2⟩ := toList_nil (b:=t) (by rw [ht]; exact hp);have hend:=hDx (HEnd.out ⟨#[]⟩ w3 (by unfold diffN; rw [if_neg (fun h=>(packN_full sb).1 hp h.2)]) HB3.out);clear hp ht
   go_wp2_with fail
   exact hend.out
 obtain ⟨q1,q2⟩ := toList_some (b:=t) (by rw [ht]; exact hp);have hfull:FullN sb:=Classical.byContradiction fun h=>hp ((packN_full sb).2 h)
 have hs4:=hfull.1.resolve_left hfull.2;have HStz:Hid ((sb.t.size:Int)≤1000):=hDx (by have:=hs4.2.1.2.2.2; omega);have HGnn:Hid (sb.B.length≤1024):=hDx hs4.2.2.2.2;obtain ⟨sm,hsm⟩ : ∃ n:Int,((S.sumOf (packN sa):Nat):Int)=n:=⟨_,rfl⟩;obtain ⟨dl,hdl⟩ : ∃ l,difL sa 0 sb.R=l:=⟨_,rfl⟩;have HDf:Hid (diffN sa sb=([sm,sb.k,sb.w,sb.h,sb.x,sb.y]:List Int).flatMap numB++(textB sb.t++(numB sb.n++(numB sb.c++(packG sb.B++numB (dl.length:Int)))))++rowsD dl):=hDx (by
  unfold diffN;rw [if_pos ⟨HMa.out,hfull⟩,hdl,hsm];unfold rawD headB;simp only [List.flatMap_cons,List.flatMap_nil,List.append_nil,List.append_assoc])
 have HDl:=hDx hdl;have HSm:Hid (∀ v,Below w3.heap.size w3 v→Calls Tryd.prog 21 #[.agg #[.int .i64 sa.k,.int .i64 sa.w,.int .i64 sa.h,.int .i64 sa.x,.int .i64 sa.y,.string sa.t,.slice ra rn rc,.int .i64 sa.n,.int .i64 sa.c,.slice ga gn gc]] v fun e w'=>e=.returned (.int .i64 sm)∧Below v.heap.size v w'):=hDx (fun v hb=>by
  rw [← hsm];exact nrfsum_any sa ra rn rc ga gn gc v (HIa.out.belowAll (HB3.out.trans (hb.mono HB3.out.size))) HBa.out)
 clear hp ht hfull hs4 hsm hdl
 go_upto_region 4 with fail
 clear q1 q2;obtain ⟨wg,hwg⟩ : ∃ wg,w3=wg:=⟨_,rfl⟩;rw [hwg] at HB3 HSm ⊢;clear hwg;have HZa:=hDx ((HB3.out.block _ HLt1.out.1).trans HZ1.out);have HZb:=hDx ((HB3.out.block _ HLt1.out.2).trans HY1.out);have HLt:Hid (rb<wg.heap.size∧rb+1<wg.heap.size):=hDx ⟨(gSx.1 HZa.out).1,(gSx.1 HZb.out).1⟩;refine wp_region_due [] [0,0,0,0,0,0,0,0,0,0,0,0,0,0,0] (by kernel_rfl) (fun _ _ u=>Below wg.heap.size wg u) (fun u u2=>Below u.heap.size u u2) (RfOk4 rb sa sb ra rn rc ga gn gc sm) (by rfl) (by kernel_rfl) (by kernel_rfl) (by kernel_rfl) (by kernel_rfl) ?hcong ?hOk ?hop ?hdone ?h0
 case hcong=>exact fun k f f2 u hs hst=>hst
 case hOk=>intro i u w1 w2 h hr; unfold RfOk4 at h ⊢; split <;> first | exact True.intro | exact h | (obtain ⟨lb,e,h⟩ := h; exact ⟨lb,e,(hr.block lb (gSx.1 h).1).trans h⟩)
 case h0=>exact (Below.refl _ _).drew
 case hop =>
  refine ⟨?_,?_,?_,?_,?_,?_,?_,?_,?_,?_,?_,?_,?_,?_,?_,trivial⟩
  · intro k z v hk hst hag hdep;refine .inl ⟨rfl,fun K hK=>?_⟩;have d2:z.tmps.getD 2 undef=.pointer (some ⟨rb,0,none⟩):=hag.2.2 2 (by kernel_rfl);have e2:=gEx d2;have hb:Below wg.heap.size wg v:=hst;have hz:=(hb.block rb HLt.out.1).trans HZa.out;have l0:v.cell? ⟨rb,0,none⟩=some (.int .i64 sa.k):=by rw [cell_block hz]; rfl
    have l1:v.cell? ⟨rb,1,none⟩=some (.int .i64 sa.w):=by rw [cell_block hz]; rfl
    have l2:v.cell? ⟨rb,2,none⟩=some (.int .i64 sa.h):=by rw [cell_block hz]; rfl
    have l3:v.cell? ⟨rb,3,none⟩=some (.int .i64 sa.x):=by rw [cell_block hz]; rfl
    have l4:v.cell? ⟨rb,4,none⟩=some (.int .i64 sa.y):=by rw [cell_block hz]; rfl
    have l5:v.cell? ⟨rb,5,none⟩=some (.string sa.t):=by rw [cell_block hz]; rfl
    have l6:v.cell? ⟨rb,6,none⟩=some (.slice ra rn rc):=by rw [cell_block hz]; rfl
    have l7:v.cell? ⟨rb,7,none⟩=some (.int .i64 sa.n):=by rw [cell_block hz]; rfl
    have l8:v.cell? ⟨rb,8,none⟩=some (.int .i64 sa.c):=by rw [cell_block hz]; rfl
    have l9:v.cell? ⟨rb,9,none⟩=some (.slice ga gn gc):=by rw [cell_block hz]; rfl
    clear hb hz;have HSt:=hDx hst;clear hdep hag hst;go_simp;exact hK _ _ (Below.refl _ _) rfl HSt.out
  · intro k z v hk hst hag hdep;refine .inl ⟨rfl,fun K hK=>?_⟩;have d19:z.tmps.getD 19 undef=.agg #[.int .i64 sa.k,.int .i64 sa.w,.int .i64 sa.h,.int .i64 sa.x,.int .i64 sa.y,.string sa.t,.slice ra rn rc,.int .i64 sa.n,.int .i64 sa.c,.slice ga gn gc]:=hdep ⟨0,.data⟩ (by simp) rfl _ _ rfl rfl;have e19:=gEx d19;have hb:Below wg.heap.size wg v:=hst;have HC:=hDx (HSm.out v hb);have HBv:=hDx hb;clear hdep hag hst hb;go_simp;refine HC.out.mono ?_;rintro e w' ⟨rfl,h9⟩;exact hK _ _ h9 rfl (HBv.out.trans (h9.mono HBv.out.size))
  · intro k z v hk hst hag hdep;refine .inl ⟨rfl,fun K hK=>?_⟩;have d3:z.tmps.getD 3 undef=.pointer (some ⟨rb+1,0,none⟩):=hag.2.2 3 (by kernel_rfl);have e3:=gEx d3;have HSt:=hDx hst;clear hdep hag hst;go_simp;exact hK _ _ (Below.refl _ _) rfl HSt.out
  · intro k z v hk hst hag hdep;refine .inl ⟨rfl,fun K hK=>?_⟩;have d21:z.tmps.getD 21 undef=.pointer (some ⟨rb+1,0,none⟩):=hdep ⟨2,.data⟩ (by simp) rfl _ _ rfl rfl;have e21:=gEx d21;have hb:Below wg.heap.size wg v:=hst;have l0:v.cell? ⟨rb+1,0,none⟩=some (.int .i64 sb.k):=by rw [cell_block ((hb.block (rb+1) HLt.out.2).trans HZb.out)]; rfl
    clear hb;have HSt:=hDx hst;clear hdep hag hst;go_simp;exact hK _ _ (Below.refl _ _) rfl HSt.out
  · intro k z v hk hst hag hdep;refine .inl ⟨rfl,fun K hK=>?_⟩;have d3:z.tmps.getD 3 undef=.pointer (some ⟨rb+1,0,none⟩):=hag.2.2 3 (by kernel_rfl);have e3:=gEx d3;have HSt:=hDx hst;clear hdep hag hst;go_simp;exact hK _ _ (Below.refl _ _) rfl HSt.out
  · intro k z v hk hst hag hdep;refine .inl ⟨rfl,fun K hK=>?_⟩;have d23:z.tmps.getD 23 undef=.pointer (some ⟨rb+1,1,none⟩):=hdep ⟨4,.data⟩ (by simp) rfl _ _ rfl rfl;have e23:=gEx d23;have hb:Below wg.heap.size wg v:=hst;have l1:v.cell? ⟨rb+1,1,none⟩=some (.int .i64 sb.w):=by rw [cell_block ((hb.block (rb+1) HLt.out.2).trans HZb.out)]; rfl
    clear hb;have HSt:=hDx hst;clear hdep hag hst;go_simp;exact hK _ _ (Below.refl _ _) rfl HSt.out
  · intro k z v hk hst hag hdep;refine .inl ⟨rfl,fun K hK=>?_⟩;have d3:z.tmps.getD 3 undef=.pointer (some ⟨rb+1,0,none⟩):=hag.2.2 3 (by kernel_rfl);have e3:=gEx d3;have HSt:=hDx hst;clear hdep hag hst;go_simp;exact hK _ _ (Below.refl _ _) rfl HSt.out
  · intro k z v hk hst hag hdep;refine .inl ⟨rfl,fun K hK=>?_⟩;have d25:z.tmps.getD 25 undef=.pointer (some ⟨rb+1,2,none⟩):=hdep ⟨6,.data⟩ (by simp) rfl _ _ rfl rfl;have e25:=gEx d25;have hb:Below wg.heap.size wg v:=hst;have l2:v.cell? ⟨rb+1,2,none⟩=some (.int .i64 sb.h):=by rw [cell_block ((hb.block (rb+1) HLt.out.2).trans HZb.out)]; rfl
    clear hb;have HSt:=hDx hst;clear hdep hag hst;go_simp;exact hK _ _ (Below.refl _ _) rfl HSt.out
  · intro k z v hk hst hag hdep;refine .inl ⟨rfl,fun K hK=>?_⟩;have d3:z.tmps.getD 3 undef=.pointer (some ⟨rb+1,0,none⟩):=hag.2.2 3 (by kernel_rfl);have e3:=gEx d3;have HSt:=hDx hst;clear hdep hag hst;go_simp;exact hK _ _ (Below.refl _ _) rfl HSt.out
  · intro k z v hk hst hag hdep;refine .inl ⟨rfl,fun K hK=>?_⟩;have d27:z.tmps.getD 27 undef=.pointer (some ⟨rb+1,3,none⟩):=hdep ⟨8,.data⟩ (by simp) rfl _ _ rfl rfl;have e27:=gEx d27;have hb:Below wg.heap.size wg v:=hst;have l3:v.cell? ⟨rb+1,3,none⟩=some (.int .i64 sb.x):=by rw [cell_block ((hb.block (rb+1) HLt.out.2).trans HZb.out)]; rfl
    clear hb;have HSt:=hDx hst;clear hdep hag hst;go_simp;exact hK _ _ (Below.refl _ _) rfl HSt.out
  · intro k z v hk hst hag hdep;refine .inl ⟨rfl,fun K hK=>?_⟩;have d3:z.tmps.getD 3 undef=.pointer (some ⟨rb+1,0,none⟩):=hag.2.2 3 (by kernel_rfl);have e3:=gEx d3;have HSt:=hDx hst;clear hdep hag hst;go_simp;exact hK _ _ (Below.refl _ _) rfl HSt.out
  · intro k z v hk hst hag hdep;refine .inl ⟨rfl,fun K hK=>?_⟩;have d29:z.tmps.getD 29 undef=.pointer (some ⟨rb+1,4,none⟩):=hdep ⟨10,.data⟩ (by simp) rfl _ _ rfl rfl;have e29:=gEx d29;have hb:Below wg.heap.size wg v:=hst;have l4:v.cell? ⟨rb+1,4,none⟩=some (.int .i64 sb.y):=by rw [cell_block ((hb.block (rb+1) HLt.out.2).trans HZb.out)]; rfl
    clear hb;have HSt:=hDx hst;clear hdep hag hst;go_simp;exact hK _ _ (Below.refl _ _) rfl HSt.out
  · intro k z v hk hst hag hdep;refine .inl ⟨rfl,fun K hK=>?_⟩;have d20:z.tmps.getD 20 undef=.int .i64 sm:=hdep ⟨1,.data⟩ (by simp) rfl _ _ rfl rfl;have e20:=gEx d20;have d22:z.tmps.getD 22 undef=.int .i64 sb.k:=hdep ⟨3,.data⟩ (by simp) rfl _ _ rfl rfl;have e22:=gEx d22;have d24:z.tmps.getD 24 undef=.int .i64 sb.w:=hdep ⟨5,.data⟩ (by simp) rfl _ _ rfl rfl;have e24:=gEx d24;have d26:z.tmps.getD 26 undef=.int .i64 sb.h:=hdep ⟨7,.data⟩ (by simp) rfl _ _ rfl rfl;have e26:=gEx d26;have d28:z.tmps.getD 28 undef=.int .i64 sb.x:=hdep ⟨9,.data⟩ (by simp) rfl _ _ rfl rfl;have e28:=gEx d28;have d30:z.tmps.getD 30 undef=.int .i64 sb.y:=hdep ⟨11,.data⟩ (by simp) rfl _ _ rfl rfl;have e30:=gEx d30;have hb:Below wg.heap.size wg v:=hst;have HBv:=hDx hb;clear hdep hag hst hb;go_simp
    have h9:Below v.heap.size v (v.alloc (.cells #[.int .i64 sm,.int .i64 sb.k,.int .i64 sb.w,.int .i64 sb.h,.int .i64 sb.x,.int .i64 sb.y] 3)):=(Below.refl _ _).alloc (Nat.le_refl _) _;exact hK _ _ h9 ⟨v.heap.size,rfl,heap_alloc_new v _⟩ (HBv.out.trans (h9.mono HBv.out.size))
  · intro k z v hk hst hag hdep;refine .inl ⟨rfl,fun K hK=>?_⟩;have d31':RfOk4 rb sa sb ra rn rc ga gn gc sm 12 (z.tmps.getD 31 undef) v:=hdep ⟨12,.data⟩ (by simp) rfl _ _ rfl rfl;simp only [RfOk4] at d31';obtain ⟨lb,d31,HL⟩ := d31';have e31:=gEx d31;have HSt:=hDx hst;clear hdep hag hst HL;go_simp;exact hK _ _ (Below.refl _ _) rfl HSt.out
  · intro k z v hk hst hag hdep;refine .inl ⟨rfl,fun K hK=>?_⟩;have HSt:=hDx hst;clear hdep hag hst;go_simp;exact hK _ _ (Below.refl _ _) rfl HSt.out
 case hdone =>
  intro z v hst hag hok;obtain ⟨lb,d31,hl31⟩ : ∃ lb,z.tmps.getD 31 undef=.slice (some ⟨lb,0,none⟩) 6 6∧v.heap[lb]?=some (.cells #[.int .i64 sm,.int .i64 sb.k,.int .i64 sb.w,.int .i64 sb.h,.int .i64 sb.x,.int .i64 sb.y] 3 (0,0)):=hok 12 _ 31 rfl rfl;have d32:z.tmps.getD 32 undef=.int .i64 6:=hok 13 _ 32 rfl rfl;have d33:z.tmps.getD 33 undef=.int .i64 0:=hok 14 _ 33 rfl rfl;have HV4:Hid (Below w1.heap.size w1 v):=hDx (HB3.out.trans (Below.mono hst HB3.out.size));have HL31:=hDx hl31;clear hst hl31;obtain ⟨uu,hu,hzz⟩ := agree_frame [19,20,21,22,23,24,25,26,27,28,29,30,31,32,33] rfl hag;have e31:=(hu 31).trans d31;have e32:=(hu 32).trans d32;have e33:=(hu 33).trans d33;subst hzz;simp only [List.foldl_cons,List.foldl_nil];rw [e31,e32,e33];clear e31 d31 e32 d32 e33 d33 hu hag hok
  try dsimp only [Exit.then]
  simp only [List.setIfInBounds_toArray,List.set_cons_succ,List.set_cons_zero];generalize uu 19=u19',uu 20=u20',uu 21=u21',uu 22=u22',uu 23=u23',uu 24=u24',uu 25=u25',uu 26=u26',uu 27=u27',uu 28=u28',uu 29=u29',uu 30=u30';clear uu;rename_i K4 hK4
  try (refine hK4 _ _ ?_)
  obtain ⟨w4,hw4⟩ : ∃ w4,v=w4:=⟨_,rfl⟩;rw [hw4] at HV4 HL31 ⊢;clear hw4;obtain ⟨NS,hNS⟩ : ∃ l:List Int,[sm,sb.k,sb.w,sb.h,sb.x,sb.y]=l:=⟨_,rfl⟩;have hn6:NS.length=6:=by rw [← hNS]; rfl
  obtain ⟨NV,hNV⟩ : ∃ A:Array Value,#[.int .i64 sm,.int .i64 sb.k,.int .i64 sb.w,.int .i64 sb.h,.int .i64 sb.x,.int .i64 sb.y]=A:=⟨_,rfl⟩;have HLc:Hid (∀ (j:Nat) (u:World),j<6→u.heap[lb]?=some (.cells NV 3 (0,0))→∃ z,NS[j]?=some z∧u.cell? ⟨lb,j,none⟩=some (.int .i64 z)):=hDx (fun j u hj hu=>by
   rw [← hNS];rw [← hNV] at hu;rcases j with _ | _ | _ | _ | _ | _ | j
   · exact ⟨sm,rfl,by rw [cell_block hu]; rfl⟩
   · exact ⟨sb.k,rfl,by rw [cell_block hu]; rfl⟩
   · exact ⟨sb.w,rfl,by rw [cell_block hu]; rfl⟩
   · exact ⟨sb.h,rfl,by rw [cell_block hu]; rfl⟩
   · exact ⟨sb.x,rfl,by rw [cell_block hu]; rfl⟩
   · exact ⟨sb.y,rfl,by rw [cell_block hu]; rfl⟩
   · omega)
  have HN6:=hDx hn6;rw [hNS] at HDf;rw [hNV] at HL31;have HLb:Hid (lb<w4.heap.size):=hDx (gSx.1 HL31.out).1;clear hn6 hNS hNV
  go_wp2_with fail
  go_loopw [5,33] (fun u i wr=>∃ (j:Nat) (tt:ByteArray),u=.string tt∧i=.int .i64 (j:Int)∧j≤6∧Hid (tt.data.toList=(NS.take j).flatMap numB∧Below w1.heap.size w1 wr∧wr.heap[lb]?=some (.cells NV 3 (0,0)))) (fun _ i _=>6 - (intOf i).toNat)
  case atStart=>exact ⟨0,⟨#[]⟩,rfl,rfl,by omega,hDx ⟨rfl,HV4.out,HL31.out⟩⟩
  case round =>
   obtain ⟨j,tt,rfl,rfl,hj,HF⟩ := hrel;by_cases hlt:j<6
   · have hd:decide (j<6)=true:=decide_eq_true hlt;have hd':decide ((j:Int)<6)=true:=decide_eq_true (by omega);have hjI:(j:Int)<6:=by omega
     obtain ⟨z,hz,k0⟩ := HLc.out j wr hlt HF.out.2.2;have hzl:j<NS.length:=by rw [HN6.out]; exact hlt
     have hze:NS[j]=z:=by rw [List.getElem?_eq_getElem hzl] at hz; exact Option.some.inj hz
     have hft:=flat_take (l:=NS) j hzl;rw [hze] at hft;have HFt:=hDx hft;have HNu:=hDx (refnum_any z wr);have hsz:tt.size≤54:=by
      have h1:=flat_nums (NS.take j);rw [← HF.out.1,List.length_take,HN6.out] at h1;have h2:tt.data.toList.length=tt.size:=rfl;omega
     have hszI:(tt.size:Int)≤54:=by omega
     clear hz hzl hze hft hlt hsz
     go_wp2_with fail
     refine HNu.out.mono ?_;rintro e w5 ⟨t1,rfl,ht1,hb5⟩;have ht1s:(t1.size:Int)≤9:=by
      have h1:=numB_len z;unfold numB at h1;rw [← ht1] at h1;have h2:t1.data.toList.length=t1.size:=rfl;omega
     have HE:Hid ((tt++t1).data.toList=(NS.take (j+1)).flatMap numB∧Below w1.heap.size w1 w5∧w5.heap[lb]?=some (.cells NV 3 (0,0))):=hDx ⟨by rw [append_list,HF.out.1,HFt.out,ht1]; rfl,HF.out.2.1.trans (hb5.mono HF.out.2.1.size),(hb5.block lb (gSx.1 HF.out.2.2).1).trans HF.out.2.2⟩;clear k0 ht1 hb5 HF
     go_wp2_with fail
     go_roundw
     case rel=>exact ⟨j+1,tt++t1,rfl,by go_num,by omega,HE⟩
     case measure=>simp [intOf]; omega
   · obtain rfl:j=6:=by omega
     have hd:decide (6<6)=false:=by simp
     have hd':decide (((6:Nat):Int)<6)=false:=by simp
     have HCh:=hDx (rfchanges_any sa sb ra rn rc ga gn gc ta tn tc ha hn hc wr (HIa.out.belowAll HF.out.2.1) HBa.out (HIb.out.belowAll HF.out.2.1) HBb.out);unfold ChPost at HCh;rw [HDl.out] at HCh;unfold snA at HCh;obtain ⟨n0,n1,n2,n3,n4,n5,n6,n7,n8,n9⟩ := ten_cells (s:=sa) (ra:=ra) (rn:=rn) (rc:=rc) (ga:=ga) (gn:=gn) (gc:=gc) ((HF.out.2.1.block _ HLt1.out.1).trans HZ1.out);obtain ⟨m0,m1,m2,m3,m4,m5,m6,m7,m8,m9⟩ := ten_cells (s:=sb) (ra:=ta) (rn:=tn) (rc:=tc) (ga:=ha) (gn:=hn) (gc:=hc) ((HF.out.2.1.block _ HLt1.out.2).trans HY1.out)
     go_upto_region 9 with fail
     clear hd hd' hlt
     go_wp2_with fail
     refine HCh.out.mono ?_;rintro e w5 ⟨vl,rfl,hol,hb5⟩;have HTt:=hDx HF.out.1;have HB5:Hid (Below w1.heap.size w1 w5):=hDx (HF.out.2.1.trans (hb5.mono HF.out.2.1.size));clear hb5 n0 n1 n2 n3 n4 n5 n6 n7 n8 n9 m0 m1 m2 m3 m4 m5 m6 m7 m8 m9 HCh HF;obtain ⟨la,lc,rfl,hin,-,-,hlc1,hlc2⟩ := hol.shape;rw [List.length_map] at hin hlc1 ⊢;obtain ⟨ln,hln⟩ : ∃ n,dl.length=n:=⟨_,rfl⟩;rw [hln] at hin hlc1 HDf ⊢;have HLn:=hDx hln;have HIn:=hDx hin;have hln8:(ln:Int)≤8:=by
      have h1:=difL_length sa sb.R 0;have h2:=HFb.out.1;rw [HDl.out,hln] at h1;omega
     clear hol hin hlc1 hlc2 hln;obtain ⟨wg,hwg⟩ : ∃ wg,w5=wg:=⟨_,rfl⟩;rw [hwg] at HB5 HIn ⊢;clear hwg;have HZb:=hDx ((HB5.out.block _ HLt1.out.2).trans HY1.out);have HLt:Hid (rb<wg.heap.size∧rb+1<wg.heap.size):=hDx ⟨Nat.lt_of_lt_of_le HLt1.out.1 HB5.out.size,(gSx.1 HZb.out).1⟩;have HGp:=hDx (HIb.out.belowAll HB5.out).beg;have HGn:Hid (hn≤1024):=hDx (by have h1:=HIb.out.beg.len; have h2:=HGnn.out; omega);obtain ⟨ta9,hta⟩ : ∃ t:ByteArray,t=⟨(textB sb.t).toArray⟩ := ⟨_,rfl⟩;obtain ⟨tb9,htb⟩ : ∃ t:ByteArray,t=⟨(numB sb.n).toArray⟩ := ⟨_,rfl⟩;obtain ⟨tc9,htc⟩ : ∃ t:ByteArray,t=⟨(numB sb.c).toArray⟩ := ⟨_,rfl⟩;obtain ⟨td9,htd⟩ : ∃ t:ByteArray,t=⟨(packG sb.B).toArray⟩ := ⟨_,rfl⟩;obtain ⟨te9,hte⟩ : ∃ t:ByteArray,t=⟨(numB (ln:Int)).toArray⟩ := ⟨_,rfl⟩;have Hta9:Hid (ta9.data.toList=textB sb.t):=hDx (by rw [hta]);have Htb9:Hid (tb9.data.toList=numB sb.n):=hDx (by rw [htb])
     have Htc9:Hid (tc9.data.toList=numB sb.c):=hDx (by rw [htc]);have Htd9:Hid (td9.data.toList=packG sb.B):=hDx (by rw [htd]);have Hte9:Hid (te9.data.toList=numB (ln:Int)):=hDx (by rw [hte]);have HSz:Hid ((tt.size:Int)≤54∧(ta9.size:Int)≤1100∧(tb9.size:Int)≤9∧(tc9.size:Int)≤9∧(td9.size:Int)≤100000∧(te9.size:Int)≤9):=hDx (by
      have e1:tt.data.toList.length=tt.size:=rfl;have e2:ta9.data.toList.length=ta9.size:=rfl;have e3:tb9.data.toList.length=tb9.size:=rfl;have e4:tc9.data.toList.length=tc9.size:=rfl;have e5:td9.data.toList.length=td9.size:=rfl;have e6:te9.data.toList.length=te9.size:=rfl;rw [HTt.out] at e1;rw [Hta9.out] at e2;rw [Htb9.out] at e3;rw [Htc9.out] at e4;rw [Htd9.out] at e5;rw [Hte9.out] at e6;have a1:=flat_nums (NS.take 6);rw [List.length_take,HN6.out] at a1;have a2:=textB_len sb.t;have a3:=numB_len sb.n;have a4:=numB_len sb.c;have a5:=packG_len sb.B;have a6:=HGnn.out;have a7:=HStz.out;have a8:=numB_len (ln:Int);refine ⟨by omega,by omega,by omega,by omega,by omega,by omega⟩)
     have HF5:Hid ((tt++(ta9++tb9++tc9++td9++te9)).data.toList=NS.flatMap numB++(textB sb.t++(numB sb.n++(numB sb.c++(packG sb.B++numB (ln:Int)))))):=hDx (by
      rw [append_list,append_list,append_list,append_list,append_list,HTt.out,Hta9.out,Htb9.out,Htc9.out,Htd9.out,Hte9.out,List.take_of_length_le (by rw [HN6.out]; exact Nat.le_refl _)];simp only [List.append_assoc])
     clear hta htb htc htd hte HTt
     go_upto_region 10 with fail
     refine wp_region_kept [] [0,0,0,0,0,0,0,0,0,0,0,0,0,0,0,0,0,0,0,0,0,0] (by kernel_rfl) (fun _ _ u=>Below wg.heap.size wg u) (fun u u2=>Below u.heap.size u u2) (RfOk10 rb sb tt ta9 tb9 tc9 td9 te9 ha hn hc la ln lc) (by rfl) (by kernel_rfl) (by kernel_rfl) (by kernel_rfl) (by kernel_rfl) ?hcong ?hOk ?hop ?hdone ?h0
     case hcong=>exact fun k f f2 u hs hst=>hst
     case hOk=>intro i u w1 w2 h hr; unfold RfOk10 at h ⊢; split <;> first | exact True.intro | exact h
     case h0=>exact (Below.refl _ _).drew
     case hop =>
      refine ⟨?_,?_,?_,?_,?_,?_,?_,?_,?_,?_,?_,?_,?_,?_,?_,?_,?_,?_,?_,?_,?_,?_,trivial⟩
      · intro k z v hk hst hag hdep hfr;refine .inl ⟨rfl,fun K hK=>?_⟩;have d5:z.tmps.getD 5 undef=.string tt:=hfr 5 (by kernel_rfl);have e5:=gEx d5;have HSt:=hDx hst;clear hdep hfr hag hst;go_simp;exact hK _ _ (Below.refl _ _) rfl HSt.out
      · intro k z v hk hst hag hdep hfr;refine .inl ⟨rfl,fun K hK=>?_⟩;have d3:z.tmps.getD 3 undef=.pointer (some ⟨rb+1,0,none⟩):=hag.2.2 3 (by kernel_rfl);have e3:=gEx d3;have HSt:=hDx hst;clear hdep hfr hag hst;go_simp;exact hK _ _ (Below.refl _ _) rfl HSt.out
      · intro k z v hk hst hag hdep hfr;refine .inl ⟨rfl,fun K hK=>?_⟩;have d46:z.tmps.getD 46 undef=.pointer (some ⟨rb+1,5,none⟩):=hdep ⟨1,.data⟩ (by simp) rfl _ _ rfl rfl;have e46:=gEx d46;have hb:Below wg.heap.size wg v:=hst;have l5:v.cell? ⟨rb+1,5,none⟩=some (.string sb.t):=by rw [cell_block ((hb.block (rb+1) HLt.out.2).trans HZb.out)]; rfl
        clear hb;have HSt:=hDx hst;clear hdep hfr hag hst;go_simp;exact hK _ _ (Below.refl _ _) rfl HSt.out
      · intro k z v hk hst hag hdep hfr;refine .inl ⟨rfl,fun K hK=>?_⟩;have d47:z.tmps.getD 47 undef=.string sb.t:=hdep ⟨2,.data⟩ (by simp) rfl _ _ rfl rfl;have e47:=gEx d47;have hb:Below wg.heap.size wg v:=hst;have HCa:=hDx (reftextw_any sb.t HStz.out v);have HBv:=hDx hb;clear hdep hfr hag hst hb;go_simp;refine HCa.out.mono ?_;rintro e w' ⟨u,rfl,hu,hb2⟩;obtain rfl:u=ta9:=bytes_eqN (by rw [hu,Hta9.out] <;> rfl);exact hK _ _ hb2 rfl (HBv.out.trans (hb2.mono HBv.out.size))
      · intro k z v hk hst hag hdep hfr;refine .inl ⟨rfl,fun K hK=>?_⟩;have d3:z.tmps.getD 3 undef=.pointer (some ⟨rb+1,0,none⟩):=hag.2.2 3 (by kernel_rfl);have e3:=gEx d3;have HSt:=hDx hst;clear hdep hfr hag hst;go_simp;exact hK _ _ (Below.refl _ _) rfl HSt.out
      · intro k z v hk hst hag hdep hfr;refine .inl ⟨rfl,fun K hK=>?_⟩;have d49:z.tmps.getD 49 undef=.pointer (some ⟨rb+1,7,none⟩):=hdep ⟨4,.data⟩ (by simp) rfl _ _ rfl rfl;have e49:=gEx d49;have hb:Below wg.heap.size wg v:=hst;have l7:v.cell? ⟨rb+1,7,none⟩=some (.int .i64 sb.n):=by rw [cell_block ((hb.block (rb+1) HLt.out.2).trans HZb.out)]; rfl
        clear hb;have HSt:=hDx hst;clear hdep hfr hag hst;go_simp;exact hK _ _ (Below.refl _ _) rfl HSt.out
      · intro k z v hk hst hag hdep hfr;refine .inl ⟨rfl,fun K hK=>?_⟩;have d50:z.tmps.getD 50 undef=.int .i64 sb.n:=hdep ⟨5,.data⟩ (by simp) rfl _ _ rfl rfl;have e50:=gEx d50;have hb:Below wg.heap.size wg v:=hst;have HCa:=hDx (refnum_any sb.n v);have HBv:=hDx hb;clear hdep hfr hag hst hb;go_simp;refine HCa.out.mono ?_;rintro e w' ⟨u,rfl,hu,hb2⟩;obtain rfl:u=tb9:=bytes_eqN (by rw [hu,Htb9.out] <;> rfl);exact hK _ _ hb2 rfl (HBv.out.trans (hb2.mono HBv.out.size))
      · intro k z v hk hst hag hdep hfr;refine .inl ⟨rfl,fun K hK=>?_⟩;have d48:z.tmps.getD 48 undef=.string ta9:=hdep ⟨3,.data⟩ (by simp) rfl _ _ rfl rfl;have e48:=gEx d48;have d51:z.tmps.getD 51 undef=.string tb9:=hdep ⟨6,.data⟩ (by simp) rfl _ _ rfl rfl;have e51:=gEx d51;have HSt:=hDx hst;obtain ⟨l91,l92,l93,l94,l95,l96⟩ := HSz.out;clear hdep hfr hag hst;go_simp;rw [if_neg (by (try simp only [ByteArray.size_append]); omega)];exact hK _ _ (Below.refl _ _) rfl HSt.out
      · intro k z v hk hst hag hdep hfr;refine .inl ⟨rfl,fun K hK=>?_⟩;have d3:z.tmps.getD 3 undef=.pointer (some ⟨rb+1,0,none⟩):=hag.2.2 3 (by kernel_rfl);have e3:=gEx d3;have HSt:=hDx hst;clear hdep hfr hag hst;go_simp;exact hK _ _ (Below.refl _ _) rfl HSt.out
      · intro k z v hk hst hag hdep hfr;refine .inl ⟨rfl,fun K hK=>?_⟩;have d53:z.tmps.getD 53 undef=.pointer (some ⟨rb+1,8,none⟩):=hdep ⟨8,.data⟩ (by simp) rfl _ _ rfl rfl;have e53:=gEx d53;have hb:Below wg.heap.size wg v:=hst;have l8:v.cell? ⟨rb+1,8,none⟩=some (.int .i64 sb.c):=by rw [cell_block ((hb.block (rb+1) HLt.out.2).trans HZb.out)]; rfl
        clear hb;have HSt:=hDx hst;clear hdep hfr hag hst;go_simp;exact hK _ _ (Below.refl _ _) rfl HSt.out
      · intro k z v hk hst hag hdep hfr;refine .inl ⟨rfl,fun K hK=>?_⟩;have d54:z.tmps.getD 54 undef=.int .i64 sb.c:=hdep ⟨9,.data⟩ (by simp) rfl _ _ rfl rfl;have e54:=gEx d54;have hb:Below wg.heap.size wg v:=hst;have HCa:=hDx (refnum_any sb.c v);have HBv:=hDx hb;clear hdep hfr hag hst hb;go_simp;refine HCa.out.mono ?_;rintro e w' ⟨u,rfl,hu,hb2⟩;obtain rfl:u=tc9:=bytes_eqN (by rw [hu,Htc9.out] <;> rfl);exact hK _ _ hb2 rfl (HBv.out.trans (hb2.mono HBv.out.size))
      · intro k z v hk hst hag hdep hfr;refine .inl ⟨rfl,fun K hK=>?_⟩;have d52:z.tmps.getD 52 undef=.string (ta9++tb9):=hdep ⟨7,.data⟩ (by simp) rfl _ _ rfl rfl;have e52:=gEx d52;have d55:z.tmps.getD 55 undef=.string tc9:=hdep ⟨10,.data⟩ (by simp) rfl _ _ rfl rfl;have e55:=gEx d55;have HSt:=hDx hst;obtain ⟨l91,l92,l93,l94,l95,l96⟩ := HSz.out;clear hdep hfr hag hst;go_simp;rw [if_neg (by (try simp only [ByteArray.size_append]); omega)];exact hK _ _ (Below.refl _ _) rfl HSt.out
      · intro k z v hk hst hag hdep hfr;refine .inl ⟨rfl,fun K hK=>?_⟩;have d3:z.tmps.getD 3 undef=.pointer (some ⟨rb+1,0,none⟩):=hag.2.2 3 (by kernel_rfl);have e3:=gEx d3;have HSt:=hDx hst;clear hdep hfr hag hst;go_simp;exact hK _ _ (Below.refl _ _) rfl HSt.out
      · intro k z v hk hst hag hdep hfr;refine .inl ⟨rfl,fun K hK=>?_⟩;have d57:z.tmps.getD 57 undef=.pointer (some ⟨rb+1,9,none⟩):=hdep ⟨12,.data⟩ (by simp) rfl _ _ rfl rfl;have e57:=gEx d57;have hb:Below wg.heap.size wg v:=hst;have l9:v.cell? ⟨rb+1,9,none⟩=some (.slice ha hn hc):=by rw [cell_block ((hb.block (rb+1) HLt.out.2).trans HZb.out)]; rfl
        clear hb;have HSt:=hDx hst;clear hdep hfr hag hst;go_simp;exact hK _ _ (Below.refl _ _) rfl HSt.out
      · intro k z v hk hst hag hdep hfr;refine .inl ⟨rfl,fun K hK=>?_⟩;have d58:z.tmps.getD 58 undef=.slice ha hn hc:=hdep ⟨13,.data⟩ (by simp) rfl _ _ rfl rfl;have e58:=gEx d58;have hb:Below wg.heap.size wg v:=hst;have HCa:=hDx (refPack_any ha hn hc sb.B v (HGp.out.belowAll hb) HGn.out);have HBv:=hDx hb;clear hdep hfr hag hst hb;go_simp;refine HCa.out.mono ?_;rintro e w' ⟨u,rfl,hu,hb2⟩;obtain rfl:u=td9:=bytes_eqN (by rw [hu,Htd9.out] <;> rfl);exact hK _ _ hb2 rfl (HBv.out.trans (hb2.mono HBv.out.size))
      · intro k z v hk hst hag hdep hfr;refine .inl ⟨rfl,fun K hK=>?_⟩;have d56:z.tmps.getD 56 undef=.string (ta9++tb9++tc9):=hdep ⟨11,.data⟩ (by simp) rfl _ _ rfl rfl;have e56:=gEx d56;have d59:z.tmps.getD 59 undef=.string td9:=hdep ⟨14,.data⟩ (by simp) rfl _ _ rfl rfl;have e59:=gEx d59;have HSt:=hDx hst;obtain ⟨l91,l92,l93,l94,l95,l96⟩ := HSz.out;clear hdep hfr hag hst;go_simp;rw [if_neg (by (try simp only [ByteArray.size_append]); omega)];exact hK _ _ (Below.refl _ _) rfl HSt.out
      · intro k z v hk hst hag hdep hfr;refine .inl ⟨rfl,fun K hK=>?_⟩;have d8:z.tmps.getD 8 undef=.slice la ln lc:=hag.2.2 8 (by kernel_rfl);have e8:=gEx d8;have HSt:=hDx hst;clear hdep hfr hag hst;go_simp;exact hK _ _ (Below.refl _ _) rfl HSt.out
      · intro k z v hk hst hag hdep hfr;refine .inl ⟨rfl,fun K hK=>?_⟩;have d61:z.tmps.getD 61 undef=.slice la ln lc:=hdep ⟨16,.data⟩ (by simp) rfl _ _ rfl rfl;have e61:=gEx d61;have HSt:=hDx hst;clear hdep hfr hag hst;go_simp;exact hK _ _ (Below.refl _ _) rfl HSt.out
      · intro k z v hk hst hag hdep hfr;refine .inl ⟨rfl,fun K hK=>?_⟩;have d62:z.tmps.getD 62 undef=.int .i64 (ln:Int):=hdep ⟨17,.data⟩ (by simp) rfl _ _ rfl rfl;have e62:=gEx d62;have hb:Below wg.heap.size wg v:=hst;have HCa:=hDx (refnum_any (ln:Int) v);have HBv:=hDx hb;clear hdep hfr hag hst hb;go_simp;refine HCa.out.mono ?_;rintro e w' ⟨u,rfl,hu,hb2⟩;obtain rfl:u=te9:=bytes_eqN (by rw [hu,Hte9.out] <;> rfl);exact hK _ _ hb2 rfl (HBv.out.trans (hb2.mono HBv.out.size))
      · intro k z v hk hst hag hdep hfr;refine .inl ⟨rfl,fun K hK=>?_⟩;have d60:z.tmps.getD 60 undef=.string (ta9++tb9++tc9++td9):=hdep ⟨15,.data⟩ (by simp) rfl _ _ rfl rfl;have e60:=gEx d60;have d63:z.tmps.getD 63 undef=.string te9:=hdep ⟨18,.data⟩ (by simp) rfl _ _ rfl rfl;have e63:=gEx d63;have HSt:=hDx hst;obtain ⟨l91,l92,l93,l94,l95,l96⟩ := HSz.out;clear hdep hfr hag hst;go_simp;rw [if_neg (by (try simp only [ByteArray.size_append]); omega)];exact hK _ _ (Below.refl _ _) rfl HSt.out
      · intro k z v hk hst hag hdep hfr;refine .inl ⟨rfl,fun K hK=>?_⟩;have d45:z.tmps.getD 45 undef=.string tt:=hdep ⟨0,.data⟩ (by simp) rfl _ _ rfl rfl;have e45:=gEx d45;have d64:z.tmps.getD 64 undef=.string (ta9++tb9++tc9++td9++te9):=hdep ⟨19,.data⟩ (by simp) rfl _ _ rfl rfl;have e64:=gEx d64;have HSt:=hDx hst;obtain ⟨l91,l92,l93,l94,l95,l96⟩ := HSz.out;clear hdep hfr hag hst;go_simp;rw [if_neg (by (try simp only [ByteArray.size_append]); omega)];exact hK _ _ (Below.refl _ _) rfl HSt.out
      · intro k z v hk hst hag hdep hfr;refine .inl ⟨rfl,fun K hK=>?_⟩;have d65:z.tmps.getD 65 undef=.string (tt++(ta9++tb9++tc9++td9++te9)):=hdep ⟨20,.data⟩ (by simp) rfl _ _ rfl rfl;have e65:=gEx d65;have HSt:=hDx hst;clear hdep hfr hag hst;go_simp;exact hK _ _ (Below.refl _ _) rfl HSt.out
     case hdone =>
      intro z v hst hag hok;have d5:z.tmps.getD 5 undef=.string (tt++(ta9++tb9++tc9++td9++te9)):=hok 21 _ 5 rfl rfl;have HVg:Hid (Below wg.heap.size wg v):=hDx hst;clear hst;obtain ⟨uu,hu,hzz⟩ := agree_frame [45,46,47,48,49,50,51,52,53,54,55,56,57,58,59,60,61,62,63,64,65,5] rfl hag;have e5:=(hu 5).trans d5;subst hzz;simp only [List.foldl_cons,List.foldl_nil];rw [e5];clear e5 d5 hu hag hok
      try dsimp only [Exit.then]
      simp only [List.setIfInBounds_toArray,List.set_cons_succ,List.set_cons_zero];generalize uu 45=u45',uu 46=u46',uu 47=u47',uu 48=u48',uu 49=u49',uu 50=u50',uu 51=u51',uu 52=u52',uu 53=u53',uu 54=u54',uu 55=u55',uu 56=u56',uu 57=u57',uu 58=u58',uu 59=u59',uu 60=u60',uu 61=u61',uu 62=u62',uu 63=u63',uu 64=u64',uu 65=u65';clear uu;rename_i K hK;refine hK _ _ ?_;obtain ⟨th,hth⟩ : ∃ t,tt++(ta9++tb9++tc9++td9++te9)=t:=⟨_,rfl⟩;have hths:(th.size:Int)≤200000:=by
       obtain ⟨l91,l92,l93,l94,l95,l96⟩ := HSz.out;rw [← hth];simp only [ByteArray.size_append];omega
      rw [hth] at HF5 ⊢;obtain ⟨wh,hwh⟩ : ∃ wh,v=wh:=⟨_,rfl⟩;rw [hwh] at HVg ⊢;have HBh:Hid (Below w1.heap.size w1 wh):=hDx (HB5.out.trans (HVg.out.mono HB5.out.size));have HIh:=hDx (Go.Proofs.YtagolklnjhpbdaaDoor.W.IntsIn.belowAll HIn.out HVg.out);obtain ⟨HD,hHD⟩ : ∃ l:List UInt8,NS.flatMap numB++(textB sb.t++(numB sb.n++(numB sb.c++(packG sb.B++numB (ln:Int)))))=l:=⟨_,rfl⟩;rw [hHD] at HF5 HDf;have HHs:Hid (HD.length≤200000):=hDx (by have e2:th.data.toList.length=th.size:=rfl; rw [HF5.out] at e2; omega);clear hth hwh hHD HSz HIn
      go_wp2_with fail
      go_loopw [5,68] (fun u i wr=>∃ (j:Nat) (tt:ByteArray),u=.string tt∧i=.int .i64 (j:Int)∧j≤ln∧Hid (tt.data.toList=HD++rowsD (dl.take j)∧Below wh.heap.size wh wr)) (fun _ i _=>ln - (intOf i).toNat)
      case atStart=>exact ⟨0,th,rfl,rfl,Nat.zero_le _,hDx ⟨by rw [HF5.out]; simp [rowsD],Below.refl _ _⟩⟩
      case round =>
       obtain ⟨j,tj,rfl,rfl,hj,HF⟩ := hrel;by_cases hlt:j<ln
       · have hd:decide (j<ln)=true:=decide_eq_true hlt;have hjI:(j:Int)<ln:=by omega
         have hjd:j<dl.length:=by rw [HLn.out]; exact hlt
         obtain ⟨lb9,lo9,rfl,hlb9,hAt9⟩ := HIh.out.2.resolve_left (by intro e; have h3:=congrArg List.length e; rw [List.length_map] at h3; have h4:dl.length=0:=h3; omega);have k9:=hAt9 j (by rw [List.length_map]; exact hjd);have htk:=rowsD_take dl j hjd;have hmem:=difL_at sa sb.R 0 dl[j] (by rw [HDl.out]; exact List.getElem_mem hjd);obtain ⟨⟨y,r⟩,hye⟩ : ∃ x,dl[j]=x:=⟨_,rfl⟩;rw [hye] at htk hmem;have hyd:(dl.map fun x=>(x.1:Int)).getD j 0=(y:Int):=by rw [List.getD_eq_getElem?_getD,List.getElem?_map,List.getElem?_eq_getElem hjd,hye]; rfl
         rw [hyd] at k9;have k0:=(HF.out.2.cell (p:=⟨lb9,lo9+j,none⟩) hlb9).trans k9;obtain ⟨i0,hi0,hrow⟩ := hmem;have hi1:i0=y:=by simp only at hi0; omega
         subst hi1;have hBr:Below w1.heap.size w1 wr:=HBh.out.trans (HF.out.2.mono HBh.out.size);have hrr:=(HIb.out.belowAll hBr).rows;have hyl:i0<sb.R.length:=(List.getElem?_eq_some_iff.1 hrow).1;have hry:sb.R[i0]=r:=by rw [List.getElem?_eq_getElem hyl] at hrow; exact Option.some.inj hrow
         have htn:=hrr.len;obtain ⟨us0,hin,hrv,-⟩ := hrr.ex;have hju:i0<us0.length:=by rw [hrv.1]; exact hyl
         obtain ⟨ab,ao,rfl,hab,hAt⟩ := hin.at_.resolve_left (by intro e; rw [e] at hju; simp at hju);have hat:=hAt i0 us0[i0] (List.getElem?_eq_getElem hju);have hrj:=hrv.2 i0 us0[i0] r (List.getElem?_eq_getElem hju) hrow;have hrl:=HFb.out.2 r (by rw [← hry]; exact List.getElem_mem hyl);obtain ⟨⟨xa,xn,xc,xb⟩,hu⟩ : ∃ u,us0[i0]=u:=⟨_,rfl⟩;rw [hu] at hat hrj;unfold Rv.val at hrj;simp only at hrj hat;obtain ⟨-,-,-,-,-,hxl⟩ := hrj.of;have hsz:(tj.size:Int)≤1200000:=by
          have e1:tj.data.toList.length=tj.size:=rfl;have h1:=rowsD_some HFb.out sa j;rw [HDl.out] at h1;rw [HF.out.1,List.length_append] at e1;have h2:=HHs.out;omega
         obtain ⟨ua,hua⟩ : ∃ t:ByteArray,t=⟨(numB (i0:Int)).toArray⟩ := ⟨_,rfl⟩;obtain ⟨ub,hub⟩ : ∃ t:ByteArray,t=⟨(packR r).toArray⟩ := ⟨_,rfl⟩;have Hua:Hid (ua.data.toList=numB (i0:Int)):=hDx (by rw [hua]);have Hub:Hid (ub.data.toList=packR r):=hDx (by rw [hub]);have HSz:Hid ((tj.size:Int)≤1200000∧(ua.size:Int)≤9∧(ub.size:Int)≤1500):=hDx (by
          have e2:ua.data.toList.length=ua.size:=rfl;have e3:ub.data.toList.length=ub.size:=rfl;rw [Hua.out] at e2;rw [Hub.out] at e3;have a2:=numB_len (i0:Int);have a3:=packR_len r;exact ⟨hsz,by omega,by omega⟩)
         have HYI:Hid ((i0:Int)<tn):=hDx (by omega);have HTk:=hDx htk;have HT:=hDx HF.out.1;have HBr:=hDx HF.out.2;have HZr0:=hDx ((hBr.block _ HLt1.out.2).trans HY1.out);have HK0:=hDx hat;have HQ0:=hDx hrj;have HQn:Hid (xn≤20000):=hDx (by omega);have HLr0:Hid (rb+1<wr.heap.size∧ab<wr.heap.size):=hDx ⟨(gSx.1 HZr0.out).1,hab⟩;unfold snA at HZr0;clear hjd hlb9 hAt9 k9 htk hi0 hrow hBr hrr hyl hry htn hin hrv hju hab hAt hat hrj hrl hu hxl hua hub hyd hye hlt hsz
         go_upto_region 14 with fail
         clear k0 hd;obtain ⟨wg,hwg⟩ : ∃ wg,wr=wg:=⟨_,rfl⟩;rw [hwg] at HZr0 HK0 HQ0 HLr0 HBr ⊢;have HZr:=HZr0;have HK:=HK0;have HQ:=HQ0;have HLr:=HLr0;clear hwg HZr0 HK0 HQ0 HLr0;refine wp_region_kept [] [0,0,0,0,0,0,0,0,0,0,0,0] (by kernel_rfl) (fun _ _ u=>Below wg.heap.size wg u) (fun u u2=>Below u.heap.size u u2) (RfOk14 rb i0 ab ao tn tc xa xn xc xb tj ua ub) (by rfl) (by kernel_rfl) (by kernel_rfl) (by kernel_rfl) (by kernel_rfl) ?hcong ?hOk ?hop ?hdone ?h0
         case hcong=>exact fun k f f2 u hs hst=>hst
         case hOk=>intro i u w1 w2 h hr; unfold RfOk14 at h ⊢; split <;> first | exact True.intro | exact h
         case h0=>exact (Below.refl _ _).drew
         case hop =>
          refine ⟨?_,?_,?_,?_,?_,?_,?_,?_,?_,?_,?_,?_,trivial⟩
          · intro k z v hk hst hag hdep hfr;refine .inl ⟨rfl,fun K hK=>?_⟩;have d5:z.tmps.getD 5 undef=.string tj:=hfr 5 (by kernel_rfl);have e5:=gEx d5;have HSt:=hDx hst;clear hdep hfr hag hst;go_simp;exact hK _ _ (Below.refl _ _) rfl HSt.out
          · intro k z v hk hst hag hdep hfr;refine .inl ⟨rfl,fun K hK=>?_⟩;have d10:z.tmps.getD 10 undef=.int .i64 (i0:Int):=hag.2.2 10 (by kernel_rfl);have e10:=gEx d10;have HSt:=hDx hst;clear hdep hfr hag hst;go_simp;exact hK _ _ (Below.refl _ _) rfl HSt.out
          · intro k z v hk hst hag hdep hfr;refine .inl ⟨rfl,fun K hK=>?_⟩;have d73:z.tmps.getD 73 undef=.int .i64 (i0:Int):=hdep ⟨1,.data⟩ (by simp) rfl _ _ rfl rfl;have e73:=gEx d73;have hb:Below wg.heap.size wg v:=hst;have HCa:=hDx (refnum_any (i0:Int) v);have HBv:=hDx hb;clear hdep hfr hag hst hb;go_simp;refine HCa.out.mono ?_;rintro e w' ⟨u,rfl,hu,hb2⟩;obtain rfl:u=ua:=bytes_eqN (by rw [hu,Hua.out] <;> rfl);exact hK _ _ hb2 rfl (HBv.out.trans (hb2.mono HBv.out.size))
          · intro k z v hk hst hag hdep hfr;refine .inl ⟨rfl,fun K hK=>?_⟩;have d3:z.tmps.getD 3 undef=.pointer (some ⟨rb+1,0,none⟩):=hag.2.2 3 (by kernel_rfl);have e3:=gEx d3;have HSt:=hDx hst;clear hdep hfr hag hst;go_simp;exact hK _ _ (Below.refl _ _) rfl HSt.out
          · intro k z v hk hst hag hdep hfr;refine .inl ⟨rfl,fun K hK=>?_⟩;have d75:z.tmps.getD 75 undef=.pointer (some ⟨rb+1,6,none⟩):=hdep ⟨3,.data⟩ (by simp) rfl _ _ rfl rfl;have e75:=gEx d75;have hb:Below wg.heap.size wg v:=hst;have l6:v.cell? ⟨rb+1,6,none⟩=some (.slice (some ⟨ab,ao,none⟩) tn tc):=by rw [cell_block ((hb.block (rb+1) HLr.out.1).trans HZr.out)]; rfl
            clear hb;have HSt:=hDx hst;clear hdep hfr hag hst;go_simp;exact hK _ _ (Below.refl _ _) rfl HSt.out
          · intro k z v hk hst hag hdep hfr;refine .inl ⟨rfl,fun K hK=>?_⟩;have d10:z.tmps.getD 10 undef=.int .i64 (i0:Int):=hag.2.2 10 (by kernel_rfl);have e10:=gEx d10;have HSt:=hDx hst;clear hdep hfr hag hst;go_simp;exact hK _ _ (Below.refl _ _) rfl HSt.out
          · intro k z v hk hst hag hdep hfr;refine .inl ⟨rfl,fun K hK=>?_⟩;have d76:z.tmps.getD 76 undef=.slice (some ⟨ab,ao,none⟩) tn tc:=hdep ⟨4,.data⟩ (by simp) rfl _ _ rfl rfl;have e76:=gEx d76;have d77:z.tmps.getD 77 undef=.int .i64 (i0:Int):=hdep ⟨5,.data⟩ (by simp) rfl _ _ rfl rfl;have e77:=gEx d77;have hyI:=HYI.out;have HSt:=hDx hst;clear hdep hfr hag hst;go_simp;exact hK _ _ (Below.refl _ _) rfl HSt.out
          · intro k z v hk hst hag hdep hfr;refine .inl ⟨rfl,fun K hK=>?_⟩;have d78:z.tmps.getD 78 undef=.pointer (some ⟨ab,ao+i0*2,none⟩):=hdep ⟨6,.data⟩ (by simp) rfl _ _ rfl rfl;have e78:=gEx d78;have hb:Below wg.heap.size wg v:=hst;have l0:=(hb.cell (p:=⟨ab,ao+i0*2,none⟩) HLr.out.2).trans HK.out.1;have l1:=(hb.cell (p:=⟨ab,ao+i0*2+1,none⟩) HLr.out.2).trans HK.out.2;clear hb;have HSt:=hDx hst;clear hdep hfr hag hst;go_simp;exact hK _ _ (Below.refl _ _) rfl HSt.out
          · intro k z v hk hst hag hdep hfr;refine .inl ⟨rfl,fun K hK=>?_⟩;have d79:z.tmps.getD 79 undef=.agg #[.slice xa xn xc,.bool xb]:=hdep ⟨7,.data⟩ (by simp) rfl _ _ rfl rfl;have e79:=gEx d79;have hb:Below wg.heap.size wg v:=hst;have HCa:=hDx (refPackRow_any xa xn xc xb r v (HQ.out.belowAll hb) HQn.out);have HBv:=hDx hb;clear hdep hfr hag hst hb;go_simp;refine HCa.out.mono ?_;rintro e w' ⟨u,rfl,hu,hb2⟩;obtain rfl:u=ub:=bytes_eqN (by rw [hu,Hub.out] <;> rfl);exact hK _ _ hb2 rfl (HBv.out.trans (hb2.mono HBv.out.size))
          · intro k z v hk hst hag hdep hfr;refine .inl ⟨rfl,fun K hK=>?_⟩;have d74:z.tmps.getD 74 undef=.string ua:=hdep ⟨2,.data⟩ (by simp) rfl _ _ rfl rfl;have e74:=gEx d74;have d80:z.tmps.getD 80 undef=.string ub:=hdep ⟨8,.data⟩ (by simp) rfl _ _ rfl rfl;have e80:=gEx d80;have HSt:=hDx hst;obtain ⟨l91,l92,l93⟩ := HSz.out;clear hdep hfr hag hst;go_simp;rw [if_neg (by (try simp only [ByteArray.size_append]); omega)];exact hK _ _ (Below.refl _ _) rfl HSt.out
          · intro k z v hk hst hag hdep hfr;refine .inl ⟨rfl,fun K hK=>?_⟩;have d72:z.tmps.getD 72 undef=.string tj:=hdep ⟨0,.data⟩ (by simp) rfl _ _ rfl rfl;have e72:=gEx d72;have d81:z.tmps.getD 81 undef=.string (ua++ub):=hdep ⟨9,.data⟩ (by simp) rfl _ _ rfl rfl;have e81:=gEx d81;have HSt:=hDx hst;obtain ⟨l91,l92,l93⟩ := HSz.out;clear hdep hfr hag hst;go_simp;rw [if_neg (by (try simp only [ByteArray.size_append]); omega)];exact hK _ _ (Below.refl _ _) rfl HSt.out
          · intro k z v hk hst hag hdep hfr;refine .inl ⟨rfl,fun K hK=>?_⟩;have d82:z.tmps.getD 82 undef=.string (tj++(ua++ub)):=hdep ⟨10,.data⟩ (by simp) rfl _ _ rfl rfl;have e82:=gEx d82;have HSt:=hDx hst;clear hdep hfr hag hst;go_simp;exact hK _ _ (Below.refl _ _) rfl HSt.out
         case hdone =>
          intro z v hst hag hok;have d5:z.tmps.getD 5 undef=.string (tj++(ua++ub)):=hok 11 _ 5 rfl rfl;have HVg2:Hid (Below wg.heap.size wg v):=hDx hst;clear hst;obtain ⟨uu,hu,hzz⟩ := agree_frame [72,73,74,75,76,77,78,79,80,81,82,5] rfl hag;have e5:=(hu 5).trans d5;subst hzz;simp only [List.foldl_cons,List.foldl_nil];rw [e5];clear e5 d5 hu hag hok
          try dsimp only [Exit.then]
          simp only [List.setIfInBounds_toArray,List.set_cons_succ,List.set_cons_zero];generalize uu 72=u72',uu 73=u73',uu 74=u74',uu 75=u75',uu 76=u76',uu 77=u77',uu 78=u78',uu 79=u79',uu 80=u80',uu 81=u81',uu 82=u82';clear uu;rename_i K9 hK9
          try (refine hK9 _ _ ?_)
          have HE:Hid ((tj++(ua++ub)).data.toList=HD++rowsD (dl.take (j+1))∧Below wh.heap.size wh v):=hDx ⟨by rw [append_list,append_list,HT.out,HTk.out,Hua.out,Hub.out,List.append_assoc],HBr.out.trans (HVg2.out.mono HBr.out.size)⟩
          go_wp2_with fail
          go_roundw
          case rel=>exact ⟨j+1,tj++(ua++ub),rfl,by go_num,by omega,HE⟩
          case measure=>simp [intOf]; omega
       · obtain rfl:j=ln:=by omega
         have hd:decide (j<j)=false:=by simp
         have hend:=hDx (HEnd.out tj wr (by
          rw [HF.out.1,HDf.out,List.take_of_length_le (by rw [HLn.out]; exact Nat.le_refl _)]) (HBh.out.trans (HF.out.2.mono HBh.out.size)))
         clear HF hlt
         go_wp2_with fail
         exact hend.out
end Go.Proofs.YtagolklnjhpbdaaDoor.K
