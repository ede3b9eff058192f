import Derived.Test.YtagolklnjhpbdaaDoorMerged0
import Derived.Test.YtagolklnjhpbdaaDoorMerged27
import Derived.Test.YtagolklnjhpbdaaDoorMerged29
import Derived.Test.YtagolklnjhpbdaaDoorMerged25
import Derived.Test.YtagolklnjhpbdaaDoorMerged14
namespace Go.Proofs.YtagolklnjhpbdaaDoor.K
open Go.Proofs.YtagolklnjhpbdaaDoor.R (agree_frame unwanted_of wanted_of wp_region_due)
open Go.RowKit Go.Proofs.YtagolklnjhpbdaaDoor.I
open Go.Proofs.YtagolklnjhpbdaaDoor.W (OwnI IntsIn wpList_append_ints ints_one)
theorem difL_snoc (a:Sn) (q:Ro):∀ (R:List Ro) (y:Nat),difL a y (R++[q])=difL a y R++(if hasN a (y+R.length) q=true then [] else [(y+R.length,q)])
  | [],y=>by
   show difL a y [q]=_;show (if hasN a y q=true then difL a (y+1) [] else (y,q)::difL a (y+1) [])=(if hasN a y q=true then [] else [(y,q)]);by_cases hh:hasN a y q=true
   · rw [if_pos hh,if_pos hh]; rfl
   · rw [if_neg hh,if_neg hh]; rfl
  | r::R,y=>by
   have ih:=difL_snoc a q R (y+1);rw [List.cons_append,difL_cons,difL_cons,ih,List.length_cons,show y+1+R.length=y+(R.length+1) by omega]
   split <;> simp
theorem difL_next (a:Sn) (R:List Ro) (j:Nat) (h:j<R.length):difL a 0 (R.take (j+1))=difL a 0 (R.take j)++(if hasN a j R[j]=true then [] else [(j,R[j])]):=by
 rw [take_snoc1 R j h,difL_snoc,List.length_take,Nat.min_eq_left (by omega),Nat.zero_add]
def RcOkt (rb p7 j rn rc:Nat) (ra:Option Addr) (ab ao:Nat) (xa:Option Addr) (xn xc:Nat) (xb:Bool) (ka:Option Addr) (kn kc:Nat) (kb D:Bool):Nat→Value→World→Prop
  | 0,u,_=>u=.int .i64 (j:Int)
  | 1,u,_=>u=.pointer (some ⟨rb,6,none⟩)
  | 2,u,_=>u=.slice (some ⟨ab,ao,none⟩) rn rc
  | 3,u,_=>u=.int .i64 (rn:Int)
  | 4,u,_=>u=.bool false
  | 5,u,_=>u=.bool false
  | 6,u,_=>u=.pointer (some ⟨rb,6,none⟩)
  | 7,u,_=>u=.slice (some ⟨ab,ao,none⟩) rn rc
  | 8,u,_=>u=.int .i64 (j:Int)
  | 9,u,_=>u=.pointer (some ⟨ab,ao+j*2,none⟩)
  | 10,u,_=>u=.agg #[.slice xa xn xc,.bool xb]
  | 11,u,_=>u=.agg #[.slice ka kn kc,.bool kb]
  | 12,u,_=>u=.bool D
  | 13,u,_=>u=.bool !D
  | 14,u,_=>u=.bool !D
  | _,_,_=>True
def RcOkf (rb p7 j rn rc:Nat) (ra:Option Addr) (ab ao:Nat) (xa:Option Addr) (xn xc:Nat) (xb:Bool) (ka:Option Addr) (kn kc:Nat) (kb D:Bool):Nat→Value→World→Prop
  | 0,u,_=>u=.int .i64 (j:Int)
  | 1,u,_=>u=.pointer (some ⟨rb,6,none⟩)
  | 2,u,_=>u=.slice ra rn rc
  | 3,u,_=>u=.int .i64 (rn:Int)
  | 4,u,_=>u=.bool true
  | 5,u,_=>u=.bool true
  | 6,_,_=>True
  | 7,_,_=>True
  | 8,_,_=>True
  | 9,_,_=>True
  | 10,_,_=>True
  | 11,_,_=>True
  | 12,_,_=>True
  | 13,_,_=>True
  | 14,u,_=>u=.bool true
  | _,_,_=>True
set_option maxRecDepth 100000 in
set_option maxHeartbeats 8000000 in
theorem rfchanges_any (sa sb:Sn) (ra:Option Addr) (rn rc:Nat) (ga:Option Addr) (gn gc:Nat) (ta:Option Addr) (tn tc:Nat) (ha:Option Addr) (hn hc:Nat) (w:World) (hA:SnIn .i64 ra rn rc ga gn gc sa w) (hAB:SnB sa) (hBi:SnIn .i64 ta tn tc ha hn hc sb w) (hBB:SnB sb) :
    Calls Tryd.prog 14 #[.agg (snA sa ra rn rc ga gn gc),.agg (snA sb ta tn tc ha hn hc)] w (ChPost sa sb w):=by
 obtain ⟨rb,hrb⟩ : ∃ rb,w.heap.size=rb:=⟨_,rfl⟩;obtain ⟨P,hP⟩ : ∃ P,ChPost sa sb w=P:=⟨_,rfl⟩;rw [hP];obtain ⟨w1,hw1⟩ : ∃ w1,(w.alloc (.cells (snA sa ra rn rc ga gn gc) 32)).alloc (.cells (snA sb ta tn tc ha hn hc) 32)=w1:=⟨_,rfl⟩;have b1:Below w.heap.size w (w.alloc (.cells (snA sa ra rn rc ga gn gc) 32)):=(Below.refl _ _).alloc (Nat.le_refl _) _;have hb1:Below rb w w1:=by rw [← hw1,← hrb]; exact b1.alloc (by rw [World.size_alloc]; omega) _
 have hz1:w1.heap[rb]?=some (.cells (snA sa ra rn rc ga gn gc) 32 (0,0)):=by
  rw [← hw1,← hrb,Below.heap_alloc _ _ _ (by rw [World.size_alloc]; omega)];exact heap_alloc_new w _
 have hy1:w1.heap[rb+1]?=some (.cells (snA sb ta tn tc ha hn hc) 32 (0,0)):=by
  have h:=heap_alloc_new (w.alloc (.cells (snA sa ra rn rc ga gn gc) 32)) (.cells (snA sb ta tn tc ha hn hc) 32);rw [World.size_alloc,hrb,hw1] at h;exact h
 obtain ⟨m,hm⟩ : ∃ m,w1.heap.size=m:=⟨_,rfl⟩;have HEnd:Hid (∀ vo v,OwnI m vo ((difL sa 0 sb.R).map fun x=>(x.1:Int)) v→Below m w1 v→P (.returned vo) v):=hDx (fun vo v ho hv=>by
  rw [← hP];exact ⟨vo,rfl,OwnI.lowD ho (by rw [← hm]; have:=hb1.size; omega),by rw [hrb]; exact hb1.trans (hv.mono (by rw [← hm]; have:=hb1.size; omega))⟩)
 have HRbm:Hid (rb<m∧rb+1<m):=hDx (by have h2:=(gSx.1 hy1).1; omega);have hbw:Below w.heap.size w w1:=by rw [hrb]; exact hb1
 have HIa:=hDx (hA.belowAll hbw);have HIb:=hDx (hBi.belowAll hbw);have htn:=hBi.rows.len;have hrn:=hA.rows.len;have ht1:=hBB.rows;have hr1:=hAB.rows;have htnI:(tn:Int)≤1000:=by omega
 have hrnI:(rn:Int)≤1000:=by omega
 have HTn:=hDx htn;have HRn:=hDx hrn;have HBa:=hDx hAB;have HBb:=hDx hBB;have HZ1:=hDx hz1;have HY1:=hDx hy1;have HW1:=hDx hw1;have HRb:=hDx hrb;have HM:=hDx hm;obtain ⟨w2,hw2⟩ : ∃ w2,w1.alloc (.cells #[] 3)=w2:=⟨_,rfl⟩;have hb2:Below m w1 w2:=by rw [← hw2,← hm]; exact (Below.refl _ _).alloc (Nat.le_refl _) _
 have ho2:OwnI m (.slice (some ⟨m,0,none⟩) 0 0) [] w2:=by rw [← hw2,← hm]; exact World.ownsRow_lit w1 #[] 0 (Nat.le_refl _) (by decide) rfl
 have HI2:Hid (OwnI m (.slice (some ⟨m,0,none⟩) 0 0) ((difL sa 0 (sb.R.take 0)).map fun x=>(x.1:Int)) w2∧Below m w1 w2∧m≤w2.heap.size):=hDx ⟨by rw [List.take_zero]; exact ho2,hb2,by have:=hb2.size; omega⟩;have HW2:=hDx hw2;obtain ⟨n0,n1,n2,n3,n4,n5,n6,n7,n8,n9⟩ := ten_cells (hb2.block (rb+1) HRbm.out.2 |>.trans hy1);clear hP hrb hw1 b1 hb1 hz1 hy1 hm hbw hA hBi hAB hBB htn hrn ht1 hr1 hw2 hb2 ho2;unfold snA at HW1;unfold snA
 go_enter Tryd.func14,Tryd.ntmps14
 go_upto_region 1 with fail
 rw [HW1.out,HRb.out]
 go_upto_region 2 with fail
 rw [HW2.out,HM.out]
 go_wp2_with fail
 clear n0 n1 n2 n3 n4 n5 n6 n7 n8 n9
 go_loopw [12,5] (fun i vo wr=>∃ j:Nat,i=.int .i64 (j:Int)∧j≤tn∧Hid (OwnI m vo ((difL sa 0 (sb.R.take j)).map fun x=>(x.1:Int)) wr∧Below m w1 wr∧m≤wr.heap.size)) (fun i _ _=>tn - (intOf i).toNat)
 case atStart=>exact ⟨0,rfl,Nat.zero_le _,HI2⟩
 case round =>
  obtain ⟨j,rfl,hj,HJ⟩ := hrel;by_cases hlt:j<tn
  · have hd:decide (j<tn)=true:=decide_eq_true hlt;have hjI:(j:Int)<tn:=by omega
    have hyl:j<sb.R.length:=by rw [← HTn.out]; exact hlt
    obtain ⟨us,hin,hrv,-⟩ := HIb.out.rows.ex;have hju:j<us.length:=by rw [hrv.1]; exact hyl
    obtain ⟨tb,tq,rfl,htb,hAt⟩ := hin.at_.resolve_left (by intro e; rw [e] at hju; simp at hju);have hat:=hAt j us[j] (List.getElem?_eq_getElem hju);have hrj:=hrv.2 j us[j] sb.R[j] (List.getElem?_eq_getElem hju) (List.getElem?_eq_getElem hyl);have hql:=HBb.out.cells sb.R[j] (List.getElem_mem hyl);have hdn:=difL_next sa sb.R j hyl;obtain ⟨⟨ka,kn,kc,kb⟩,hu⟩ : ∃ u,us[j]=u:=⟨_,rfl⟩;obtain ⟨q,hqe⟩ : ∃ r,sb.R[j]=r:=⟨_,rfl⟩;rw [hu] at hat hrj;rw [hqe] at hrj hql hdn;unfold Rv.val at hrj;simp only at hrj hat;have k0:=(HJ.out.2.1.cell (p:=⟨tb,tq+j*2,none⟩) (by rw [← HM.out]; exact htb)).trans hat.1;have k1:=(HJ.out.2.1.cell (p:=⟨tb,tq+j*2+1,none⟩) (by rw [← HM.out]; exact htb)).trans hat.2;obtain ⟨p7,hp7⟩ : ∃ p,wr.heap.size=p:=⟨_,rfl⟩;obtain ⟨wg,hwg⟩ : ∃ w5,wr.alloc (.cells #[.slice ka kn kc,.bool kb] 63)=w5:=⟨_,rfl⟩
    have hbr:Below wr.heap.size wr wg:=by rw [← hwg]; exact (Below.refl _ _).alloc (Nat.le_refl _) _
    have HYg:Hid (wg.heap[p7]?=some (.cells #[.slice ka kn kc,.bool kb] 63 (0,0))):=hDx (by rw [← hwg,← hp7]; exact heap_alloc_new wr _);have HBg:Hid (Below m w1 wg):=hDx (HJ.out.2.1.trans (hbr.mono HJ.out.2.2));have HMg:Hid (m≤wg.heap.size):=hDx (Nat.le_trans HJ.out.2.2 hbr.size);have HOg:Hid (OwnI m u5 ((difL sa 0 (sb.R.take j)).map fun x=>(x.1:Int)) wg):=hDx (HJ.out.1.belowAll hbr);have HZg:=hDx ((HBg.out.block rb HRbm.out.1).trans HZ1.out);unfold snA at HZg;have HLt:Hid (rb<wg.heap.size∧p7<wg.heap.size):=hDx ⟨(gSx.1 HZg.out).1,(gSx.1 HYg.out).1⟩;have hbwg:Below w1.heap.size w1 wg:=by rw [HM.out]; exact HBg.out
    have HQ:=hDx (hrj.belowAll hbwg);have HQl:=hDx hql;have HDn:=hDx hdn;have HWg:=hDx hwg;have HP7:=hDx hp7;have HIg:=hDx (HIa.out.belowAll hbwg);clear hin hrv hju htb hAt hat hrj hql hdn hu hqe hp7 hwg hbr hbwg
    go_upto_region 5 with fail
    rw [HWg.out,HP7.out];clear k0 k1;by_cases hla:j<rn
    · have hyl2:j<sa.R.length:=by rw [← HRn.out]; exact hla
      obtain ⟨us0,hin,hrv,-⟩ := HIg.out.rows.ex;have hju:j<us0.length:=by rw [hrv.1]; exact hyl2
      obtain ⟨ab,ao,rfl,hab,hAt⟩ := hin.at_.resolve_left (by intro e; rw [e] at hju; simp at hju);have hat:=hAt j us0[j] (List.getElem?_eq_getElem hju);have hrj:=hrv.2 j us0[j] sa.R[j] (List.getElem?_eq_getElem hju) (List.getElem?_eq_getElem hyl2);have hrl:=HBa.out.cells sa.R[j] (List.getElem_mem hyl2);obtain ⟨⟨xa,xn,xc,xb⟩,hu⟩ : ∃ u,us0[j]=u:=⟨_,rfl⟩;obtain ⟨r,hre⟩ : ∃ r,sa.R[j]=r:=⟨_,rfl⟩;have hhas:hasN sa j q=decide (r=q):=by
       unfold hasN;rw [List.getElem?_eq_getElem hyl2,hre];exact decide_eq_decide.2 ⟨fun h=>Option.some.inj h,fun h=>by rw [h]⟩
      rw [hu] at hat hrj;rw [hre] at hrj hrl;unfold Rv.val at hrj;simp only at hrj hat;have HAb:Hid (ab<wg.heap.size):=hDx hab;have HK:=hDx hat;obtain ⟨D,hD⟩ : ∃ D,decide (r=q)=D:=⟨_,rfl⟩;have HSa:Hid (∀ v,Below wg.heap.size wg v→Calls Tryd.prog 41 #[.agg #[.slice xa xn xc,.bool xb],.agg #[.slice ka kn kc,.bool kb]] v fun e w'=>e=.returned (.bool D)∧Below v.heap.size v w'):=hDx (fun v hb=>by
       rw [← hD];have o1:=RowV.of (hrj.belowAll hb);have o2:=RowV.of (HQ.out.belowAll hb);exact rfsame_any xa ka xn kn xc kc xb kb r q v (hrj.belowAll hb) (HQ.out.belowAll hb) (by have:=o1.2.2.2.2.2; omega) (by have:=o2.2.2.2.2.2; have:=HQl.out; omega))
      have HHs:Hid (hasN sa j q=D):=hDx (hhas.trans hD);have HDl:Hid (decide (rn≤j)=false):=hDx (decide_eq_false (by omega));have HDj:Hid ((j:Int)<rn):=hDx (by omega);clear hin hrv hju hAt hat hrj hrl hu hre hhas hab hD hla hyl2;refine wp_region_due [] [0,0,0,0,0,0,0,0,0,0,0,0,0,0,0] (by kernel_rfl) (fun _ _ u=>Below wg.heap.size wg u) (fun u u2=>Below u.heap.size u u2) (RcOkt rb p7 j rn rc none ab ao xa xn xc xb ka kn kc kb D) (by rfl) (by kernel_rfl) (by kernel_rfl) (by kernel_rfl) (by kernel_rfl) ?hcong ?hOk ?hop ?hdone ?h0
      case hcong=>exact fun k f f2 u hs hst=>hst
      case hOk=>intro i u w1 w2 h hr; unfold RcOkt at h ⊢; split <;> first | exact True.intro | exact h
      case h0=>exact (Below.refl _ _).drew
      case hop =>
       refine ⟨?_,?_,?_,?_,?_,?_,?_,?_,?_,?_,?_,?_,?_,?_,?_,trivial⟩
       · intro k z v hk hst hag hdep;refine .inl ⟨rfl,fun K hK=>?_⟩;have d6:z.tmps.getD 6 undef=.int .i64 (j:Int):=hag.2.2 6 (by kernel_rfl);have e6:=gEx d6;have HSt:=hDx hst;clear hdep hag hst;go_simp;exact hK _ _ (Below.refl _ _) rfl HSt.out
       · intro k z v hk hst hag hdep;refine .inl ⟨rfl,fun K hK=>?_⟩;have d2:z.tmps.getD 2 undef=.pointer (some ⟨rb,0,none⟩):=hag.2.2 2 (by kernel_rfl);have e2:=gEx d2;have HSt:=hDx hst;clear hdep hag hst;go_simp;exact hK _ _ (Below.refl _ _) rfl HSt.out
       · intro k z v hk hst hag hdep;refine .inl ⟨rfl,fun K hK=>?_⟩;have d18:z.tmps.getD 18 undef=.pointer (some ⟨rb,6,none⟩):=hdep ⟨1,.data⟩ (by simp) rfl _ _ rfl rfl;have e18:=gEx d18;have hb:Below wg.heap.size wg v:=hst;have l6:v.cell? ⟨rb,6,none⟩=some (.slice (some ⟨ab,ao,none⟩) rn rc):=by rw [cell_block ((hb.block rb HLt.out.1).trans HZg.out)]; rfl
         clear hb;have HSt:=hDx hst;clear hdep hag hst;go_simp;exact hK _ _ (Below.refl _ _) rfl HSt.out
       · intro k z v hk hst hag hdep;refine .inl ⟨rfl,fun K hK=>?_⟩;have d19:z.tmps.getD 19 undef=.slice (some ⟨ab,ao,none⟩) rn rc:=hdep ⟨2,.data⟩ (by simp) rfl _ _ rfl rfl;have e19:=gEx d19;have HSt:=hDx hst;clear hdep hag hst;go_simp;exact hK _ _ (Below.refl _ _) rfl HSt.out
       · intro k z v hk hst hag hdep;refine .inl ⟨rfl,fun K hK=>?_⟩;have d17:z.tmps.getD 17 undef=.int .i64 (j:Int):=hdep ⟨0,.data⟩ (by simp) rfl _ _ rfl rfl;have e17:=gEx d17;have d20:z.tmps.getD 20 undef=.int .i64 (rn:Int):=hdep ⟨3,.data⟩ (by simp) rfl _ _ rfl rfl;have e20:=gEx d20;have dlt:=HDl.out;have HSt:=hDx hst;clear hdep hag hst;go_simp;exact hK _ _ (Below.refl _ _) rfl HSt.out
       · intro k z v hk hst hag hdep;refine .inl ⟨rfl,fun K hK=>?_⟩;have d21:z.tmps.getD 21 undef=.bool false:=hdep ⟨4,.data⟩ (by simp) rfl _ _ rfl rfl;have e21:=gEx d21;have HSt:=hDx hst;clear hdep hag hst;go_simp;exact hK _ _ (Below.refl _ _) rfl HSt.out
       · intro k z v hk hst hag hdep;have dg:RcOkt rb p7 j rn rc none ab ao xa xn xc xb ka kn kc kb D 5 (z.tmps.getD 22 undef) v:=hdep ⟨5,.guard⟩ (by simp) rfl _ _ rfl rfl;simp only [RcOkt] at dg;refine .inl ⟨wanted_of (j:=5) rfl rfl rfl dg (by rw [hag.2.1]; show 22<38; decide),fun K hK=>?_⟩;have d2:z.tmps.getD 2 undef=.pointer (some ⟨rb,0,none⟩):=hag.2.2 2 (by kernel_rfl);have e2:=gEx d2;have HSt:=hDx hst;clear hdep hag hst;go_simp;exact hK _ _ (Below.refl _ _) rfl HSt.out
       · intro k z v hk hst hag hdep;have dg:RcOkt rb p7 j rn rc none ab ao xa xn xc xb ka kn kc kb D 5 (z.tmps.getD 22 undef) v:=hdep ⟨5,.guard⟩ (by simp) rfl _ _ rfl rfl;simp only [RcOkt] at dg;refine .inl ⟨wanted_of (j:=5) rfl rfl rfl dg (by rw [hag.2.1]; show 22<38; decide),fun K hK=>?_⟩;have d23:z.tmps.getD 23 undef=.pointer (some ⟨rb,6,none⟩):=hdep ⟨6,.data⟩ (by simp) rfl _ _ rfl rfl;have e23:=gEx d23;have hb:Below wg.heap.size wg v:=hst;have l6:v.cell? ⟨rb,6,none⟩=some (.slice (some ⟨ab,ao,none⟩) rn rc):=by rw [cell_block ((hb.block rb HLt.out.1).trans HZg.out)]; rfl
         clear hb;have HSt:=hDx hst;clear hdep hag hst;go_simp;exact hK _ _ (Below.refl _ _) rfl HSt.out
       · intro k z v hk hst hag hdep;have dg:RcOkt rb p7 j rn rc none ab ao xa xn xc xb ka kn kc kb D 5 (z.tmps.getD 22 undef) v:=hdep ⟨5,.guard⟩ (by simp) rfl _ _ rfl rfl;simp only [RcOkt] at dg;refine .inl ⟨wanted_of (j:=5) rfl rfl rfl dg (by rw [hag.2.1]; show 22<38; decide),fun K hK=>?_⟩;have d6:z.tmps.getD 6 undef=.int .i64 (j:Int):=hag.2.2 6 (by kernel_rfl);have e6:=gEx d6;have HSt:=hDx hst;clear hdep hag hst;go_simp;exact hK _ _ (Below.refl _ _) rfl HSt.out
       · intro k z v hk hst hag hdep;have dg:RcOkt rb p7 j rn rc none ab ao xa xn xc xb ka kn kc kb D 5 (z.tmps.getD 22 undef) v:=hdep ⟨5,.guard⟩ (by simp) rfl _ _ rfl rfl;simp only [RcOkt] at dg;refine .inl ⟨wanted_of (j:=5) rfl rfl rfl dg (by rw [hag.2.1]; show 22<38; decide),fun K hK=>?_⟩;have d24:z.tmps.getD 24 undef=.slice (some ⟨ab,ao,none⟩) rn rc:=hdep ⟨7,.data⟩ (by simp) rfl _ _ rfl rfl;have e24:=gEx d24;have d25:z.tmps.getD 25 undef=.int .i64 (j:Int):=hdep ⟨8,.data⟩ (by simp) rfl _ _ rfl rfl;have e25:=gEx d25;have dlt:=HDj.out;have HSt:=hDx hst;clear hdep hag hst;go_simp;exact hK _ _ (Below.refl _ _) rfl HSt.out
       · intro k z v hk hst hag hdep;have dg:RcOkt rb p7 j rn rc none ab ao xa xn xc xb ka kn kc kb D 5 (z.tmps.getD 22 undef) v:=hdep ⟨5,.guard⟩ (by simp) rfl _ _ rfl rfl;simp only [RcOkt] at dg;refine .inl ⟨wanted_of (j:=5) rfl rfl rfl dg (by rw [hag.2.1]; show 22<38; decide),fun K hK=>?_⟩;have d26:z.tmps.getD 26 undef=.pointer (some ⟨ab,ao+j*2,none⟩):=hdep ⟨9,.data⟩ (by simp) rfl _ _ rfl rfl;have e26:=gEx d26;have hb:Below wg.heap.size wg v:=hst;have l0:=(hb.cell (p:=⟨ab,ao+j*2,none⟩) HAb.out).trans HK.out.1;have l1:=(hb.cell (p:=⟨ab,ao+j*2+1,none⟩) HAb.out).trans HK.out.2;clear hb;have HSt:=hDx hst;clear hdep hag hst;go_simp;exact hK _ _ (Below.refl _ _) rfl HSt.out
       · intro k z v hk hst hag hdep;have dg:RcOkt rb p7 j rn rc none ab ao xa xn xc xb ka kn kc kb D 5 (z.tmps.getD 22 undef) v:=hdep ⟨5,.guard⟩ (by simp) rfl _ _ rfl rfl;simp only [RcOkt] at dg;refine .inl ⟨wanted_of (j:=5) rfl rfl rfl dg (by rw [hag.2.1]; show 22<38; decide),fun K hK=>?_⟩;have d7:z.tmps.getD 7 undef=.pointer (some ⟨p7,0,none⟩):=hag.2.2 7 (by kernel_rfl);have e7:=gEx d7;have hb:Below wg.heap.size wg v:=hst;have hz:=(hb.block p7 HLt.out.2).trans HYg.out;have l0:v.cell? ⟨p7,0,none⟩=some (.slice ka kn kc):=by rw [cell_block hz]; rfl
         have l1:v.cell? ⟨p7,1,none⟩=some (.bool kb):=by rw [cell_block hz]; rfl
         clear hb hz;have HSt:=hDx hst;clear hdep hag hst;go_simp;exact hK _ _ (Below.refl _ _) rfl HSt.out
       · intro k z v hk hst hag hdep;have dg:RcOkt rb p7 j rn rc none ab ao xa xn xc xb ka kn kc kb D 5 (z.tmps.getD 22 undef) v:=hdep ⟨5,.guard⟩ (by simp) rfl _ _ rfl rfl;simp only [RcOkt] at dg;refine .inl ⟨wanted_of (j:=5) rfl rfl rfl dg (by rw [hag.2.1]; show 22<38; decide),fun K hK=>?_⟩;have d27:z.tmps.getD 27 undef=.agg #[.slice xa xn xc,.bool xb]:=hdep ⟨10,.data⟩ (by simp) rfl _ _ rfl rfl;have e27:=gEx d27;have d28:z.tmps.getD 28 undef=.agg #[.slice ka kn kc,.bool kb]:=hdep ⟨11,.data⟩ (by simp) rfl _ _ rfl rfl;have e28:=gEx d28;have hb:Below wg.heap.size wg v:=hst;have HC:=hDx (HSa.out v hb);have HBv:=hDx hb;clear hdep hag hst hb;go_simp;refine HC.out.mono ?_;rintro e w' ⟨rfl,h9⟩;exact hK _ _ h9 rfl (HBv.out.trans (h9.mono HBv.out.size))
       · intro k z v hk hst hag hdep;have dg:RcOkt rb p7 j rn rc none ab ao xa xn xc xb ka kn kc kb D 5 (z.tmps.getD 22 undef) v:=hdep ⟨5,.guard⟩ (by simp) rfl _ _ rfl rfl;simp only [RcOkt] at dg;refine .inl ⟨wanted_of (j:=5) rfl rfl rfl dg (by rw [hag.2.1]; show 22<38; decide),fun K hK=>?_⟩;have d29:z.tmps.getD 29 undef=.bool D:=hdep ⟨12,.data⟩ (by simp) rfl _ _ rfl rfl;have e29:=gEx d29;have HSt:=hDx hst;clear hdep hag hst;go_simp;exact hK _ _ (Below.refl _ _) rfl HSt.out
       · intro k z v hk hst hag hdep;refine .inl ⟨rfl,fun K hK=>?_⟩;have d22:z.tmps.getD 22 undef=.bool false:=hdep ⟨5,.data⟩ (by simp) rfl _ _ rfl rfl;have e22:=gEx d22;have d30:z.tmps.getD 30 undef=.bool !D:=hdep ⟨13,.data⟩ (by simp) rfl _ _ rfl rfl;have e30:=gEx d30;have HSt:=hDx hst;clear hdep hag hst;go_simp;exact hK _ _ (Below.refl _ _) rfl HSt.out
      case hdone =>
       intro z v hst hag hok;have d31:z.tmps.getD 31 undef=.bool (!D):=hok 14 _ 31 rfl rfl;have HVg:Hid (Below wg.heap.size wg v):=hDx hst;clear hst;obtain ⟨uu,hu,hzz⟩ := agree_frame [17,18,19,20,21,22,23,24,25,26,27,28,29,30,31] rfl hag;have e31:=(hu 31).trans d31;subst hzz;simp only [List.foldl_cons,List.foldl_nil];rw [e31];clear e31 d31 hu hag hok
       try dsimp only [Exit.then]
       simp only [List.setIfInBounds_toArray,List.set_cons_succ,List.set_cons_zero];generalize uu 17=u17',uu 18=u18',uu 19=u19',uu 20=u20',uu 21=u21',uu 22=u22',uu 23=u23',uu 24=u24',uu 25=u25',uu 26=u26',uu 27=u27',uu 28=u28',uu 29=u29',uu 30=u30';clear uu;rename_i K6 hK6
       try (refine hK6 _ _ ?_)
       obtain ⟨wh,hwh⟩ : ∃ wh,v=wh:=⟨_,rfl⟩;rw [hwh] at HVg ⊢;clear hwh;have HBh:Hid (Below m w1 wh):=hDx (HBg.out.trans (HVg.out.mono HMg.out));have HMh:Hid (m≤wh.heap.size):=hDx (Nat.le_trans HMg.out HVg.out.size);have HOh:Hid (OwnI m u5 ((difL sa 0 (sb.R.take j)).map fun x=>(x.1:Int)) wh):=hDx (HOg.out.belowAll HVg.out);cases D
       · simp only [Bool.not_false];have HDe:Hid ((difL sa 0 (sb.R.take (j+1))).map (fun x=>(x.1:Int))=(difL sa 0 (sb.R.take j)).map (fun x=>(x.1:Int))++[(j:Int)]):=hDx (by rw [HDn.out,HHs.out]; simp);have HO:Hid (OwnI m u5 ((difL sa 0 (sb.R.take j)).map fun x=>(x.1:Int)) (wh.alloc (.cells #[.int .i64 (j:Int)] 3))):=hDx (HOh.out.alloc _);have HI1:Hid (IntsIn (some ⟨wh.heap.size,0,none⟩) 1 [(j:Int)] (wh.alloc (.cells #[.int .i64 (j:Int)] 3))):=hDx (ints_one wh _ _);have HTl:Hid ((((difL sa 0 (sb.R.take j)).map fun x=>(x.1:Int)).length:Int)≤1000000):=hDx (by
          rw [List.length_map];have h1:=difL_length sa (sb.R.take j) 0;rw [List.length_take] at h1;have h2:=HBb.out.rows;omega)
         have HSz:Hid (m≤(wh.alloc (.cells #[.int .i64 (j:Int)] 3)).heap.size):=hDx (by have:=HMh.out; rw [World.size_alloc]; omega)
         go_wp2_with (at_builtin; go_loud (refine wpList_append_ints rfl _ _ rfl rfl m u5 _ (some ⟨wh.heap.size,0,none⟩) 1 1 [(j:Int)] rfl rfl HO.out HI1.out (fun e=>by cases e) HTl.out (by simp) HSz.out ?_))
         intro v' w5 hown' hgr;rw [← HDe.out] at hown';have hb5:Below m w1 w5:=(HBh.out.alloc HMh.out _).grown hgr HSz.out (fun q hq=>HOh.out.ownBlock q hq);have hs5:m≤w5.heap.size:=by have h7:=hgr.size; have:=HSz.out; omega
         have HE:=hDx (And.intro hown' (And.intro hb5 hs5));clear hown' hgr hb5 hs5
         go_wp2_with fail
         go_roundw
         case rel=>exact ⟨j+1,by go_num,by omega,HE⟩
         case measure=>simp [intOf]; omega
       · simp only [Bool.not_true];have HDe:Hid ((difL sa 0 (sb.R.take (j+1))).map (fun x=>(x.1:Int))=(difL sa 0 (sb.R.take j)).map (fun x=>(x.1:Int))):=hDx (by rw [HDn.out,HHs.out]; simp);have HE:Hid (OwnI m u5 ((difL sa 0 (sb.R.take (j+1))).map fun x=>(x.1:Int)) wh∧Below m w1 wh∧m≤wh.heap.size):=hDx ⟨by rw [HDe.out]; exact HOh.out,HBh.out,HMh.out⟩
         go_wp2_with fail
         go_roundw
         case rel=>exact ⟨j+1,by go_num,by omega,HE⟩
         case measure=>simp [intOf]; omega
    · have HHs:Hid (hasN sa j q=false):=hDx (by
       unfold hasN;rw [List.getElem?_eq_none (by rw [← HRn.out]; omega)];exact decide_eq_false (by intro h; cases h))
      have HDl:Hid (decide (rn≤j)=true):=hDx (decide_eq_true (by omega));clear hla;refine wp_region_due [] [0,0,0,0,0,0,0,0,0,0,0,0,0,0,0] (by kernel_rfl) (fun _ _ u=>Below wg.heap.size wg u) (fun u u2=>Below u.heap.size u u2) (RcOkf rb p7 j rn rc ra 0 0 none 0 0 false none 0 0 false false) (by rfl) (by kernel_rfl) (by kernel_rfl) (by kernel_rfl) (by kernel_rfl) ?hcong ?hOk ?hop ?hdone ?h0
      case hcong=>exact fun k f f2 u hs hst=>hst
      case hOk=>intro i u w1 w2 h hr; unfold RcOkf at h ⊢; split <;> first | exact True.intro | exact h
      case h0=>exact (Below.refl _ _).drew
      case hop =>
       refine ⟨?_,?_,?_,?_,?_,?_,?_,?_,?_,?_,?_,?_,?_,?_,?_,trivial⟩
       · intro k z v hk hst hag hdep;refine .inl ⟨rfl,fun K hK=>?_⟩;have d6:z.tmps.getD 6 undef=.int .i64 (j:Int):=hag.2.2 6 (by kernel_rfl);have e6:=gEx d6;have HSt:=hDx hst;clear hdep hag hst;go_simp;exact hK _ _ (Below.refl _ _) rfl HSt.out
       · intro k z v hk hst hag hdep;refine .inl ⟨rfl,fun K hK=>?_⟩;have d2:z.tmps.getD 2 undef=.pointer (some ⟨rb,0,none⟩):=hag.2.2 2 (by kernel_rfl);have e2:=gEx d2;have HSt:=hDx hst;clear hdep hag hst;go_simp;exact hK _ _ (Below.refl _ _) rfl HSt.out
       · intro k z v hk hst hag hdep;refine .inl ⟨rfl,fun K hK=>?_⟩;have d18:z.tmps.getD 18 undef=.pointer (some ⟨rb,6,none⟩):=hdep ⟨1,.data⟩ (by simp) rfl _ _ rfl rfl;have e18:=gEx d18;have hb:Below wg.heap.size wg v:=hst;have l6:v.cell? ⟨rb,6,none⟩=some (.slice ra rn rc):=by rw [cell_block ((hb.block rb HLt.out.1).trans HZg.out)]; rfl
         clear hb;have HSt:=hDx hst;clear hdep hag hst;go_simp;exact hK _ _ (Below.refl _ _) rfl HSt.out
       · intro k z v hk hst hag hdep;refine .inl ⟨rfl,fun K hK=>?_⟩;have d19:z.tmps.getD 19 undef=.slice ra rn rc:=hdep ⟨2,.data⟩ (by simp) rfl _ _ rfl rfl;have e19:=gEx d19;have HSt:=hDx hst;clear hdep hag hst;go_simp;exact hK _ _ (Below.refl _ _) rfl HSt.out
       · intro k z v hk hst hag hdep;refine .inl ⟨rfl,fun K hK=>?_⟩;have d17:z.tmps.getD 17 undef=.int .i64 (j:Int):=hdep ⟨0,.data⟩ (by simp) rfl _ _ rfl rfl;have e17:=gEx d17;have d20:z.tmps.getD 20 undef=.int .i64 (rn:Int):=hdep ⟨3,.data⟩ (by simp) rfl _ _ rfl rfl;have e20:=gEx d20;have dlt:=HDl.out;have HSt:=hDx hst;clear hdep hag hst;go_simp;exact hK _ _ (Below.refl _ _) rfl HSt.out
       · intro k z v hk hst hag hdep;refine .inl ⟨rfl,fun K hK=>?_⟩;have d21:z.tmps.getD 21 undef=.bool true:=hdep ⟨4,.data⟩ (by simp) rfl _ _ rfl rfl;have e21:=gEx d21;have HSt:=hDx hst;clear hdep hag hst;go_simp;exact hK _ _ (Below.refl _ _) rfl HSt.out
       · intro k z v hk hst hag hdep;have dg:RcOkf rb p7 j rn rc ra 0 0 none 0 0 false none 0 0 false false 5 (z.tmps.getD 22 undef) v:=hdep ⟨5,.guard⟩ (by simp) rfl _ _ rfl rfl;simp only [RcOkf] at dg;exact .inr ⟨unwanted_of (j:=5) rfl rfl rfl dg (by decide) (by rw [hag.2.1]; show 22<38; decide),(Below.refl _ _),True.intro⟩
       · intro k z v hk hst hag hdep;have dg:RcOkf rb p7 j rn rc ra 0 0 none 0 0 false none 0 0 false false 5 (z.tmps.getD 22 undef) v:=hdep ⟨5,.guard⟩ (by simp) rfl _ _ rfl rfl;simp only [RcOkf] at dg;exact .inr ⟨unwanted_of (j:=5) rfl rfl rfl dg (by decide) (by rw [hag.2.1]; show 22<38; decide),(Below.refl _ _),True.intro⟩
       · intro k z v hk hst hag hdep;have dg:RcOkf rb p7 j rn rc ra 0 0 none 0 0 false none 0 0 false false 5 (z.tmps.getD 22 undef) v:=hdep ⟨5,.guard⟩ (by simp) rfl _ _ rfl rfl;simp only [RcOkf] at dg;exact .inr ⟨unwanted_of (j:=5) rfl rfl rfl dg (by decide) (by rw [hag.2.1]; show 22<38; decide),(Below.refl _ _),True.intro⟩
       · intro k z v hk hst hag hdep;have dg:RcOkf rb p7 j rn rc ra 0 0 none 0 0 false none 0 0 false false 5 (z.tmps.getD 22 undef) v:=hdep ⟨5,.guard⟩ (by simp) rfl _ _ rfl rfl;simp only [RcOkf] at dg;exact .inr ⟨unwanted_of (j:=5) rfl rfl rfl dg (by decide) (by rw [hag.2.1]; show 22<38; decide),(Below.refl _ _),True.intro⟩
       · intro k z v hk hst hag hdep;have dg:RcOkf rb p7 j rn rc ra 0 0 none 0 0 false none 0 0 false false 5 (z.tmps.getD 22 undef) v:=hdep ⟨5,.guard⟩ (by simp) rfl _ _ rfl rfl;simp only [RcOkf] at dg;exact .inr ⟨unwanted_of (j:=5) rfl rfl rfl dg (by decide) (by rw [hag.2.1]; show 22<38; decide),(Below.refl _ _),True.intro⟩
       · intro k z v hk hst hag hdep;have dg:RcOkf rb p7 j rn rc ra 0 0 none 0 0 false none 0 0 false false 5 (z.tmps.getD 22 undef) v:=hdep ⟨5,.guard⟩ (by simp) rfl _ _ rfl rfl;simp only [RcOkf] at dg;exact .inr ⟨unwanted_of (j:=5) rfl rfl rfl dg (by decide) (by rw [hag.2.1]; show 22<38; decide),(Below.refl _ _),True.intro⟩
       · intro k z v hk hst hag hdep;have dg:RcOkf rb p7 j rn rc ra 0 0 none 0 0 false none 0 0 false false 5 (z.tmps.getD 22 undef) v:=hdep ⟨5,.guard⟩ (by simp) rfl _ _ rfl rfl;simp only [RcOkf] at dg;exact .inr ⟨unwanted_of (j:=5) rfl rfl rfl dg (by decide) (by rw [hag.2.1]; show 22<38; decide),(Below.refl _ _),True.intro⟩
       · intro k z v hk hst hag hdep;have dg:RcOkf rb p7 j rn rc ra 0 0 none 0 0 false none 0 0 false false 5 (z.tmps.getD 22 undef) v:=hdep ⟨5,.guard⟩ (by simp) rfl _ _ rfl rfl;simp only [RcOkf] at dg;exact .inr ⟨unwanted_of (j:=5) rfl rfl rfl dg (by decide) (by rw [hag.2.1]; show 22<38; decide),(Below.refl _ _),True.intro⟩
       · intro k z v hk hst hag hdep;refine .inl ⟨rfl,fun K hK=>?_⟩;have d22:z.tmps.getD 22 undef=.bool true:=hdep ⟨5,.data⟩ (by simp) rfl _ _ rfl rfl;have e22:=gEx d22;have HSt:=hDx hst;clear hdep hag hst;go_simp;exact hK _ _ (Below.refl _ _) rfl HSt.out
      case hdone =>
       intro z v hst hag hok;have d31:z.tmps.getD 31 undef=.bool true:=hok 14 _ 31 rfl rfl;have HVg:Hid (Below wg.heap.size wg v):=hDx hst;clear hst;obtain ⟨uu,hu,hzz⟩ := agree_frame [17,18,19,20,21,22,23,24,25,26,27,28,29,30,31] rfl hag;have e31:=(hu 31).trans d31;subst hzz;simp only [List.foldl_cons,List.foldl_nil];rw [e31];clear e31 d31 hu hag hok
       try dsimp only [Exit.then]
       simp only [List.setIfInBounds_toArray,List.set_cons_succ,List.set_cons_zero];generalize uu 17=u17',uu 18=u18',uu 19=u19',uu 20=u20',uu 21=u21',uu 22=u22',uu 23=u23',uu 24=u24',uu 25=u25',uu 26=u26',uu 27=u27',uu 28=u28',uu 29=u29',uu 30=u30';clear uu;rename_i K6 hK6
       try (refine hK6 _ _ ?_)
       obtain ⟨wh,hwh⟩ : ∃ wh,v=wh:=⟨_,rfl⟩;rw [hwh] at HVg ⊢;clear hwh;have HBh:Hid (Below m w1 wh):=hDx (HBg.out.trans (HVg.out.mono HMg.out));have HMh:Hid (m≤wh.heap.size):=hDx (Nat.le_trans HMg.out HVg.out.size);have HOh:Hid (OwnI m u5 ((difL sa 0 (sb.R.take j)).map fun x=>(x.1:Int)) wh):=hDx (HOg.out.belowAll HVg.out);have HDe:Hid ((difL sa 0 (sb.R.take (j+1))).map (fun x=>(x.1:Int))=(difL sa 0 (sb.R.take j)).map (fun x=>(x.1:Int))++[(j:Int)]):=hDx (by rw [HDn.out,HHs.out]; simp);have HO:Hid (OwnI m u5 ((difL sa 0 (sb.R.take j)).map fun x=>(x.1:Int)) (wh.alloc (.cells #[.int .i64 (j:Int)] 3))):=hDx (HOh.out.alloc _);have HI1:Hid (IntsIn (some ⟨wh.heap.size,0,none⟩) 1 [(j:Int)] (wh.alloc (.cells #[.int .i64 (j:Int)] 3))):=hDx (ints_one wh _ _);have HTl:Hid ((((difL sa 0 (sb.R.take j)).map fun x=>(x.1:Int)).length:Int)≤1000000):=hDx (by
        rw [List.length_map];have h1:=difL_length sa (sb.R.take j) 0;rw [List.length_take] at h1;have h2:=HBb.out.rows;omega)
       have HSz:Hid (m≤(wh.alloc (.cells #[.int .i64 (j:Int)] 3)).heap.size):=hDx (by have:=HMh.out; rw [World.size_alloc]; omega)
       go_wp2_with (at_builtin; go_loud (refine wpList_append_ints rfl _ _ rfl rfl m u5 _ (some ⟨wh.heap.size,0,none⟩) 1 1 [(j:Int)] rfl rfl HO.out HI1.out (fun e=>by cases e) HTl.out (by simp) HSz.out ?_))
       intro v' w5 hown' hgr;rw [← HDe.out] at hown';have hb5:Below m w1 w5:=(HBh.out.alloc HMh.out _).grown hgr HSz.out (fun q hq=>HOh.out.ownBlock q hq);have hs5:m≤w5.heap.size:=by have h7:=hgr.size; have:=HSz.out; omega
       have HE:=hDx (And.intro hown' (And.intro hb5 hs5));clear hown' hgr hb5 hs5
       go_wp2_with fail
       go_roundw
       case rel=>exact ⟨j+1,by go_num,by omega,HE⟩
       case measure=>simp [intOf]; omega
  · obtain rfl:j=tn:=by omega
    have hd:decide (j<j)=false:=by simp
    have hend:=hDx (HEnd.out u5 wr (by have h:=HJ.out.1; rw [List.take_of_length_le (by rw [HTn.out]; exact Nat.le_refl _)] at h; exact h) HJ.out.2.1);clear hlt
    go_wp2_with fail
    exact hend.out
end Go.Proofs.YtagolklnjhpbdaaDoor.K
