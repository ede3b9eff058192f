import Derived.Test.YtagolklnjhpbdaaDoorMerged0
import Derived.Test.YtagolklnjhpbdaaDoorDtHas
import Derived.RangeFuncBound
import Derived.RangeFuncBox
import Derived.RangeFuncCalls
import Derived.RangeFuncNested
import Derived.Maps.OwnIn
import Derived.Maps.OwnSet
import Derived.Maps.Views
namespace Go.Proofs.YtagolklnjhpbdaaDoor.K
open Go.RowKit Go.Proofs.YtagolklnjhpbdaaDoor.I
attribute [local go_sem] Oper.semAt_some
def difL (a:Sn):Nat→List Ro→List (Nat × Ro)
  | _,[]=>[]
  | y,r::R=>if hasN a y r=true then difL a (y+1) R else (y,r)::difL a (y+1) R
def difZ (a:Sn):Nat→List Ro→List Rv→List (Nat × Rv × Ro)
  | y,r::R,u::us=>if hasN a y r=true then difZ a (y+1) R us else (y,u,r)::difZ a (y+1) R us
  | _,_,_=>[]
theorem difZ_cons (a:Sn) (y:Nat) (r:Ro) (R:List Ro) (u:Rv) (us:List Rv):difZ a y (r::R) (u::us)=if hasN a y r=true then difZ a (y+1) R us else (y,u,r)::difZ a (y+1) R us:=rfl
theorem difZ_len (a:Sn):∀ (R:List Ro) (us:List Rv) (y:Nat),(difZ a y R us).length≤R.length
  | [],_,_=>by simp [difZ]
  | _::_,[],_=>by simp [difZ]
  | r::R,u::us,y=>by
   have ih:=difZ_len a R us (y+1);unfold difZ
   split
   · simp; omega
   · simp; omega
theorem difZ_L (a:Sn):∀ (R:List Ro) (us:List Rv) (y:Nat),us.length=R.length→(difZ a y R us).map (fun x=>(x.1,x.2.2))=difL a y R
  | [],[],_,_=>rfl
  | [],_::_,_,h=>by simp at h
  | _::_,[],_,h=>by simp at h
  | r::R,u::us,y,h=>by
   have ih:=difZ_L a R us (y+1) (by simpa using h);unfold difZ difL
   split
   · exact ih
   · simp [ih]
theorem difZ_mem (a:Sn):∀ (R:List Ro) (us:List Rv) (y:Nat) (x:Nat × Rv × Ro),x ∈ difZ a y R us→∃ i,x.1=y+i∧R[i]?=some x.2.2∧us[i]?=some x.2.1
  | [],_,_,_,h=>by simp [difZ] at h
  | _::_,[],_,_,h=>by simp [difZ] at h
  | r::R,u::us,y,x,h=>by
   unfold difZ at h;have key:x ∈ difZ a (y+1) R us→∃ i,x.1=y+i∧(r::R)[i]?=some x.2.2∧(u::us)[i]?=some x.2.1:=fun h=>by
    obtain ⟨i,h1,h2,h3⟩ := difZ_mem a R us (y+1) x h;exact ⟨i+1,by omega,by simpa using h2,by simpa using h3⟩
   split at h
   · exact key h
   · rcases List.mem_cons.1 h with rfl | h
     · exact ⟨0,rfl,rfl,rfl⟩
     · exact key h
abbrev ItD (Pr:Ro→Prop) (W:World):={ p:Nat × Rv × Ro // RowV .i32 p.2.1.val p.2.2 W∧p.2.2.l.length≤1000∧AllC Rng p.2.2.l∧p.1<1000∧Pr p.2.2 }
def encD {Pr:Ro→Prop} {W:World} (x:ItD Pr W):Array Value:=#[.int .i64 (x.1.1:Int),x.1.2.1.val]
theorem dif_all {Pr:Ro→Prop} {a b:Sn} {us:List Rv} {W:World} (hv:RowsV .i32 us b.R W) (hB:SnB b) (hP:∀ x ∈ difL a 0 b.R,Pr x.2):∃ cs:List (ItD Pr W),cs.map Subtype.val=difZ a 0 b.R us:=by
 have h:∀ p ∈ difZ a 0 b.R us,RowV .i32 p.2.1.val p.2.2 W∧p.2.2.l.length≤1000∧AllC Rng p.2.2.l∧p.1<1000∧Pr p.2.2:=fun p hp=>by
  obtain ⟨i,h1,h2,h3⟩ := difZ_mem a b.R us 0 p hp;have hm:=List.mem_of_getElem? h2;have hi:=(List.getElem?_eq_some_iff.1 h2).1;have hq:(p.1,p.2.2) ∈ difL a 0 b.R:=by
   rw [← difZ_L a b.R us 0 hv.1];exact List.mem_map.2 ⟨p,hp,rfl⟩
  exact ⟨hv.2 i _ _ h3 h2,hB.cells _ hm,hB.rng _ hm,(by have:=hB.rows; omega),hP _ hq⟩
 refine ⟨(difZ a 0 b.R us).pmap Subtype.mk h,?_⟩;rw [List.map_pmap];simp
def KpD (M0 p q:Nat) (A B:World):Prop:=Below M0 A B∧A.heap.size≤B.heap.size∧B.heap[p]?=A.heap[p]?∧B.heap[q]?=A.heap[q]?
theorem KpD.trans {M0 p q:Nat} {A B C:World} (h:KpD M0 p q A B) (k:KpD M0 p q B C):KpD M0 p q A C:=⟨h.1.trans k.1,Nat.le_trans h.2.1 k.2.1,k.2.2.1.trans h.2.2.1,k.2.2.2.trans h.2.2.2⟩
theorem KpD.of_below {M0 p q:Nat} {A B:World} (h:Below A.heap.size A B) (hm:M0≤A.heap.size) (hp:p<A.heap.size) (hq:q<A.heap.size):KpD M0 p q A B:=⟨h.mono hm,h.size,h.block p hp,h.block q hq⟩
section
variable {sa sb:Sn} {ra:Option Addr} {rn rc:Nat} {ga:Option Addr} {gn gc:Nat} {ta:Option Addr} {tn tc:Nat} {ha:Option Addr} {hn hc:Nat} {us:List Rv} {W:World} {p q:Nat}
def DfAt (sa sb:Sn) (ra:Option Addr) (rn rc:Nat) (ga:Option Addr) (gn gc:Nat) (ta:Option Addr) (tn tc:Nat) (ha:Option Addr) (hn hc:Nat) (W:World) (p q:Nat) (V:World):Prop :=
 Below W.heap.size W V∧V.heap[p]?=some (.cells (snA sa ra rn rc ga gn gc) 25 (0,0))∧V.heap[q]?=some (.cells (snA sb ta tn tc ha hn hc) 25 (0,0))
theorem DfAt.keep {A B:World} (h:DfAt sa sb ra rn rc ga gn gc ta tn tc ha hn hc W p q A) (k:KpD W.heap.size p q A B):DfAt sa sb ra rn rc ga gn gc ta tn tc ha hn hc W p q B:=⟨h.1.trans k.1,k.2.2.1.trans h.2.1,k.2.2.2.trans h.2.2⟩
theorem DfAt.below {A B:World} (h:DfAt sa sb ra rn rc ga gn gc ta tn tc ha hn hc W p q A) (k:Below A.heap.size A B):DfAt sa sb ra rn rc ga gn gc ta tn tc ha hn hc W p q B :=
 h.keep (KpD.of_below k h.1.size (gSx.1 h.2.1).1 (gSx.1 h.2.2).1)
end
theorem zeroRow (w:World):(zeroValue 57).run Tryd.prog w=.ok (.agg #[.slice none 0 0,.bool false]) w:=by kernel_rfl
set_option maxRecDepth 100000 in
set_option maxHeartbeats 8000000 in
theorem dif1_in {Pr:Ro→Prop} (n:Nat) (hn0:2≤n) (l:Nat) (sa sb:Sn) (ra:Option Addr) (rn rc:Nat) (ga:Option Addr) (gn gc:Nat) (ta:Option Addr) (tn tc:Nat) (ha:Option Addr) (hn hc:Nat) (us:List Rv) (W:World) (p q:Nat)
    (hA:SnIn .i32 ra rn rc ga gn gc sa W) (hAB:SnB sa) (hU:RvsIn ta tn tc us W) (hV:RowsV .i32 us sb.R W) (hBB:SnB sb) (cs:List (ItD Pr W)) (hcs:cs.map Subtype.val=difZ sa 0 sb.R us)
    (J Jx:List (ItD Pr W)→World→Prop) (V:World) (hJ:AbidesFrom V.heap.size J)
    (hY:∀ pre x V1,J pre V1→pre.length<cs.length→YieldAt Fence.wide (n - 1) Tryd.prog l (encD x) V1 fun e V' =>
     (e=.returned (.bool true)∧J (pre++[x]) V'∧KpD W.heap.size p q V1 V')∨(e=.returned (.bool false)∧Jx (pre++[x]) V'))
    (hL:DfAt sa sb ra rn rc ga gn gc ta tn tc ha hn hc W p q V) (h0:J [] V) :
    CallsIn Fence.wide n Tryd.prog 64 #[.func (.yield l) #[] #[],.pointer (some ⟨q,0,none⟩),.pointer (some ⟨p,0,none⟩)] V fun e V'=>(∃ v,e=.returned v) ∧
      ((∃ ys,ys=cs∧J ys V')∨(∃ pre,(∃ j,j≤cs.length∧pre=cs.take j)∧Jx pre V')):=by
 obtain ⟨P,hP⟩ : ∃ P:Ending→World→Prop,(fun e V'=>(∃ v,e=.returned v)∧((∃ ys,ys=cs∧J ys V')∨(∃ pre,(∃ j,j≤cs.length∧pre=cs.take j)∧Jx pre V')))=P:=⟨_,rfl⟩;rw [hP];have HP:=hDx hP;have HY:=hDx hY;have HJ:=hDx hJ;have HL:=hDx hL;have H0:=hDx h0;have HCs:=hDx hcs;have HAi:=hDx hA;have HAB:=hDx hAB;have HU:=hDx hU;have HV:=hDx hV;have HBB:=hDx hBB;have htn:=hU.len.trans hV.1;have HTn:=hDx htn;have htn2:(tn:Int)≤1000:=by have:=hBB.rows; omega
 have hfit:=hU.fit;have htop:=hU.top;obtain ⟨base,hbase⟩ : ∃ base,V.heap.size=base:=⟨_,rfl⟩;have hszb:base≤V.heap.size:=by omega
 rw [hbase] at HJ;have hxq:=hL.2.2;unfold snA at hxq;have q6:V.cell? ⟨q,6,none⟩=some (.slice ta tn tc):=by rw [cell_block hxq]; rfl
 have hzR:=zeroRow;clear hP hY hJ hL h0 hcs hA hAB hU hV hBB hbase htn hxq;refine callsIn_of_wp Tryd.func64 rfl trivial ?_ rfl;simp only [Tryd.ntmps64,List.size_toArray,List.length_cons,List.length_nil,Nat.reduceAdd,Nat.reduceSub,Array.replicate_succ,Array.replicate_zero,List.push_toArray,List.append_toArray,List.nil_append,List.cons_append]
 gi_wp2_with fail
 clear q6
 gi_loopw [9] (fun i wr=>∃ x m:Nat,i=.int .i64 (x:Int)∧x≤tn∧base≤wr.heap.size∧Hid (DfAt sa sb ra rn rc ga gn gc ta tn tc ha hn hc W p q wr∧J (cs.take m) wr∧m≤cs.length∧(cs.drop m).map Subtype.val=difZ sa x (sb.R.drop x) (us.drop x))) (fun i _=>tn - (intOf i).toNat)
 case atStart=>exact ⟨0,0,rfl,Nat.zero_le _,hszb,hDx ⟨HL.out,H0.out,Nat.zero_le _,by rw [List.drop_zero,List.drop_zero,List.drop_zero]; exact HCs.out⟩⟩
 case round =>
  obtain ⟨x,m,rfl,hx,hbw,HF⟩ := hrel;obtain ⟨hLk,hJ0,hml,hdr⟩ := HF.out;by_cases hlt:x<tn
  · have hd:decide (x<tn)=true:=decide_eq_true hlt;have hxI:(x:Int)<tn:=by omega
    have hxR:x<sb.R.length:=by rw [← HTn.out]; exact hlt
    have hxU:x<us.length:=by rw [HV.out.1]; exact hxR
    obtain ⟨b,off,rfl,hb,hAt⟩ := HU.out.at_.resolve_left (by intro e; rw [e] at hxU; simp at hxU);have hat:=hAt x us[x] (List.getElem?_eq_getElem hxU);have hrv:=HV.out.2 x us[x] sb.R[x] (List.getElem?_eq_getElem hxU) (List.getElem?_eq_getElem hxR);have hrr:=HBB.out.rng sb.R[x] (List.getElem_mem hxR);have hrl:=HBB.out.cells sb.R[x] (List.getElem_mem hxR);rw [List.drop_eq_getElem_cons hxR,List.drop_eq_getElem_cons hxU] at hdr;obtain ⟨⟨xa,xn,xc,xb⟩,hu⟩ : ∃ u,us[x]=u:=⟨_,rfl⟩;obtain ⟨r,hre⟩ : ∃ r,sb.R[x]=r:=⟨_,rfl⟩;rw [hu] at hat hrv hdr;rw [hre] at hrv hrr hrl hdr;unfold Rv.val at hrv;simp only at hrv hat;have k0:=(hLk.1.cell (p:=⟨b,off+x*2,none⟩) hb).trans hat.1;have k1:=(hLk.1.cell (p:=⟨b,off+x*2+1,none⟩) hb).trans hat.2
    try simp only at k0 k1
    obtain ⟨s5,hs5⟩ : ∃ s5,s5=wr.heap.size:=⟨_,rfl⟩;obtain ⟨w5,hw5⟩ : ∃ w5,w5=wr.alloc (.cells #[.slice xa xn xc,.bool xb] 57):=⟨_,rfl⟩;have hx5:w5.heap[s5]?=some (.cells #[.slice xa xn xc,.bool xb] 57 (0,0)):=by rw [hw5,hs5]; exact heap_alloc_new _ _
    have hb5:Below wr.heap.size wr w5:=by rw [hw5]; exact (Below.refl _ _).alloc (Nat.le_refl _) _
    have hL5:=hLk.below hb5;have hJ5:=HJ.out (cs.take m) wr w5 none hJ0 (grownBy_of_below hb5) (fun r e=>by cases e);have hAp:=(HAi.out.belowAll hL5.1);have HHas:=hDx (dthas_any sa ra rn rc ga gn gc x (by omega) xa xn xc xb r w5 hAp HAB.out (hrv.belowAll hL5.1) hrr (by omega));have HX5:=hDx hx5;have HL5:=hDx hL5;have HJ5:=hDx hJ5;have HDr:=hDx hdr;have HMl:=hDx hml;have HW5:=hDx hw5;have HS5:=hDx hs5;have hb05:base≤w5.heap.size:=Nat.le_trans hbw hb5.size;have g0:w5.cell? ⟨s5,0,none⟩=some (.slice xa xn xc):=by rw [cell_block hx5]; rfl
    have g1:w5.cell? ⟨s5,1,none⟩=some (.bool xb):=by rw [cell_block hx5]; rfl
    clear hLk hJ0 hml hdr HF hxR hxU hb hAt hat hrv hrr hrl hu hre hs5 hw5 hx5 hb5 hL5 hJ5 hAp;have hxp5:=HL5.out.2.1;obtain ⟨c0,c1,c2,c3,c4,c5,c6,c7,c8,c9⟩ := ten_cells hxp5;have HX5':=HX5;unfold snA at HHas;clear hxp5;rw [HW5.out] at c0 c1 c2 c3 c4 c5 c6 c7 c8 c9;clear g0 g1
    gi_wp2_with fail
    refine ⟨by first | trivial | omega,fun _=>by omega,?_⟩;rw [← HW5.out,← HS5.out];clear c0 c1 c2 c3 c4 c5 c6 c7 c8 c9 k0 k1;refine (callsIn_wide.2 HHas.out).mono ?_;rintro e w6 ⟨rfl,hb6⟩;have hx6:=(hb6.block s5 (gSx.1 HX5.out).1).trans HX5.out;have g0:w6.cell? ⟨s5,0,none⟩=some (.slice xa xn xc):=by rw [cell_block hx6]; rfl
    have g1:w6.cell? ⟨s5,1,none⟩=some (.bool xb):=by rw [cell_block hx6]; rfl
    have hL6:=HL5.out.below hb6;have hJ6:=HJ.out (cs.take m) w5 w6 none HJ5.out (grownBy_of_below hb6) (fun r e=>by cases e);have hb06:base≤w6.heap.size:=Nat.le_trans hb05 hb6.size;have HL6:=hDx hL6;have HJ6:=hDx hJ6;clear hx6 hb6 hL6 hJ6 HL5 HJ5 HX5 HX5' HHas HW5 HS5;cases hD:hasN sa x r with
    | true =>
     have HE:Hid (DfAt sa sb ra rn rc ga gn gc (some ⟨b,off,none⟩) tn tc ha hn hc W p q w6∧J (cs.take m) w6∧m≤cs.length∧(cs.drop m).map Subtype.val=difZ sa (x+1) (sb.R.drop (x+1)) (us.drop (x+1))):=hDx ⟨HL6.out,HJ6.out,HMl.out,by
      rw [HDr.out,difZ_cons,if_pos hD]⟩
     clear HDr HMl HL6 HJ6
     gi_wp2_with fail
     refine ⟨(fun _ h=>by cases h),?_⟩
     gi_wp2_with fail
     go_roundw
     case rel=>exact ⟨x+1,m,by go_num,by omega,hb06,HE⟩
     case measure=>simp [intOf]; omega
    | false =>
     have hdr:=HDr.out;rw [difZ_cons,if_neg (by rw [hD]; decide)] at hdr;obtain ⟨c,ct,hd9,hc1,hct⟩ : ∃ c ct,cs.drop m=c::ct∧c.1=(x,⟨xa,xn,xc,xb⟩,r)∧ct.map Subtype.val=difZ sa (x+1) (sb.R.drop (x+1)) (us.drop (x+1)):=by
      cases hcd:cs.drop m with
      | nil=>rw [hcd] at hdr; cases hdr
      | cons c ct =>
       rw [hcd,List.map_cons] at hdr;injection hdr with h1 h2
       exact ⟨c,ct,rfl,h1,h2⟩
     have hjl:m<cs.length:=by
      rcases Nat.lt_or_ge m cs.length with h | h
      · exact h
      · rw [List.drop_eq_nil_of_le h] at hd9; cases hd9
     have hcj:cs[m]?=some c:=by
      have h:=congrArg List.head? hd9;rw [List.head?_drop] at h;exact h
     have hsn:cs.take (m+1)=cs.take m++[c]:=by rw [List.take_add_one,hcj]; rfl
     have hdn:cs.drop (m+1)=ct:=by
      have h:=congrArg List.tail hd9;rw [List.tail_drop] at h;exact h
     obtain ⟨fn,tmps,assign,body,hy,hR⟩ := HY.out (cs.take m) c w6 HJ6.out (by rw [List.length_take]; omega);rw [← hsn] at hR;have hec:encD c=#[.int .i64 (x:Int),.agg #[.slice xa xn xc,.bool xb]]:=by unfold encD; rw [hc1]; rfl
     rw [hec] at hy;have HR:=hDx hR;have HNx:Hid (m+1≤cs.length∧(cs.drop (m+1)).map Subtype.val=difZ sa (x+1) (sb.R.drop (x+1)) (us.drop (x+1))):=hDx ⟨hjl,by rw [hdn]; exact hct⟩;clear hR hec hdr hd9 hc1 hct hjl hcj hsn hdn HDr HMl HJ6
     gi_wp2_with fail
     refine ⟨fun _=>by omega,HR.out.mono ?_⟩;rintro e V' (⟨rfl,hJ',hkp⟩ | ⟨rfl,hJx'⟩)
     · have HE:Hid (DfAt sa sb ra rn rc ga gn gc (some ⟨b,off,none⟩) tn tc ha hn hc W p q V'∧J (cs.take (m+1)) V'∧m+1≤cs.length∧(cs.drop (m+1)).map Subtype.val=difZ sa (x+1) (sb.R.drop (x+1)) (us.drop (x+1))):=hDx ⟨HL6.out.keep hkp,hJ',HNx.out.1,HNx.out.2⟩;have hb10:base≤V'.heap.size:=Nat.le_trans hb06 hkp.2.1;clear hJ' hkp HNx HL6
       gi_wp2_with fail
       go_roundw
       case rel=>exact ⟨x+1,m+1,by go_num,by omega,hb10,HE⟩
       case measure=>simp [intOf]; omega
     · have hend:Hid (∀ v,P (.returned v) V'):=hDx (fun v=>by
        rw [← HP.out];exact ⟨⟨_,rfl⟩,.inr ⟨_,⟨m+1,HNx.out.1,rfl⟩,hJx'⟩⟩)
       clear hJx' HNx HL6
       gi_wp2_with fail
       exact bodyPost_ret (results_none rfl _ _ _) rfl (hend.out _)
  · have e9:tn=x:=by omega
    subst e9;have hd:decide (tn<tn)=false:=by simp
    have hall:cs.take m=cs:=by
     have h1:(cs.drop m).map Subtype.val=[]:=by
      rw [hdr,List.drop_eq_nil_of_le (by rw [HTn.out]; exact Nat.le_refl _)];simp [difZ]
     have h2:=List.map_eq_nil_iff.1 h1;have h3:=List.take_append_drop m cs;rw [h2,List.append_nil] at h3;exact h3
    have hend:Hid (∀ v,P (.returned v) wr):=hDx (fun v=>by
     rw [← HP.out];exact ⟨⟨_,rfl⟩,.inl ⟨_,hall,hJ0⟩⟩)
    clear hLk hJ0 hml hdr HF hall hlt
    gi_wp2_with fail
    exact bodyPost_end (results_none rfl _ _ _) rfl (hend.out _)
end Go.Proofs.YtagolklnjhpbdaaDoor.K

namespace Go.Proofs.YtagolklnjhpbdaaDoor.K
open Go.RowKit Go.Maps Go.Proofs.YtagolklnjhpbdaaDoor.I
def kq (i:Int):Lit:=.int .i64 i
theorem kq_ne {i j:Int} (h:i≠j):kq i≠kq j:=by intro e; unfold kq at e; injection e with _ e; exact h e
theorem kq_key (i:Int):WideAt.IsKeyLit (kq i):=by first | trivial | simp [WideAt.IsKeyLit,kq]
theorem kq_wf {i:Int} (h:-9223372036854775808≤i∧i≤9223372036854775807):(kq i).wf=true:=by
 have e1:IntKind.i64.min=-9223372036854775808:=by decide
 have e2:IntKind.i64.max=9223372036854775807:=by decide
 simp only [kq,Lit.wf,e1,e2,Bool.and_eq_true,decide_eq_true_eq];omega
theorem kq_inj {n m:Nat} (h:kq (n:Int)=kq (m:Int)):n=m:=by unfold kq at h; injection h with _ h; omega
def PlainA (a:Option Addr):Prop:=∀ p,a=some p→p.spot=none
def slD (a:Option Addr) (n c:Nat):DataW Unit:=.agg [match a with
  | none=>.nil
  | some p=>.agg [.lit (kq p.block),.lit (kq p.off)],.lit (kq n),.lit (kq c)]
theorem slD_inj {a b:Option Addr} {n c m d:Nat} (ha:PlainA a) (hb:PlainA b) (h:slD a n c=slD b m d):a=b∧n=m∧c=d:=by
 unfold slD at h;cases a with
 | none =>
  cases b with
  | none =>
   simp only [DataW.agg.injEq,List.cons.injEq,DataW.lit.injEq,and_true,true_and] at h;exact ⟨rfl,kq_inj h.1,kq_inj h.2⟩
  | some q=>simp at h
 | some p =>
  cases b with
  | none=>simp at h
  | some q =>
   obtain ⟨pb,po,ps⟩ := p;obtain ⟨qb,qo,qs⟩ := q;have e1:ps=none:=ha _ rfl;have e2:qs=none:=hb _ rfl;subst e1 e2;simp only [DataW.agg.injEq,List.cons.injEq,DataW.lit.injEq,and_true,true_and] at h;obtain ⟨⟨h1,h2⟩,h3,h4⟩ := h;rw [kq_inj h1,kq_inj h2];exact ⟨rfl,kq_inj h3,kq_inj h4⟩
def rvD (u:Rv):DataW Unit:=.agg [slD u.a u.n u.c,.lit (.bool u.b)]
def plainB:Option Addr→Bool
  | none=>true
  | some ⟨_,_,none⟩=>true
  | some ⟨_,_,some _⟩=>false
theorem plainB_iff {a:Option Addr}:plainB a=true↔PlainA a:=by
 cases a with
 | none=>exact ⟨fun _ p e=>(by cases e),fun _=>rfl⟩
 | some p =>
  obtain ⟨b,o,s⟩ := p;cases s with
  | none=>exact ⟨fun _ p e=>(by cases e; rfl),fun _=>rfl⟩
  | some s=>exact ⟨fun h=>(by cases h),fun h=>(by have:=h _ rfl; cases this)⟩
def rvL:List Value→Option (DataW Unit × List MemPlace)
  | [.slice a n c,.bool b]=>if plainB a=true then some (rvD ⟨a,n,c,b⟩,[]) else none
  | _=>none
def rvR:Value→Option (DataW Unit × List MemPlace)
  | .agg cs=>rvL cs.toList
  | _=>none
theorem rvR_mk {u:Rv} (h:PlainA u.a):rvR u.val=some (rvD u,[]):=by
 obtain ⟨a,n,c,b⟩ := u;show (if plainB a=true then some (rvD ⟨a,n,c,b⟩,[]) else none)=_;rw [if_pos (plainB_iff.2 h)]
theorem rvR_inv {v:Value} {u:Rv} {ps:List MemPlace} (hp:PlainA u.a) (h:rvR v=some (rvD u,ps)):v=u.val:=by
 have key:∀ (q:Rv),PlainA q.a→rvD q=rvD u→q=u:=fun q hq e=>by
  obtain ⟨a,n,c,b⟩ := q;obtain ⟨a2,n2,c2,b2⟩ := u;unfold rvD at e;simp only [DataW.agg.injEq,List.cons.injEq,DataW.lit.injEq,Lit.bool.injEq,and_true] at e;obtain ⟨h1,h2,h3⟩ := slD_inj hq hp e.1;simp only at h1 h2 h3;rw [h1,h2,h3,e.2]
 unfold rvR at h
 split at h
 · rename_i cs;obtain ⟨l⟩ := cs;simp only at h;unfold rvL at h
   split at h
   · rename_i a n c b
     split at h
     · rename_i hb;injection h with h
       have h:=congrArg Prod.fst h;rw [← key ⟨a,n,c,b⟩ (plainB_iff.1 hb) h]
       rfl
     · cases h
   · cases h
 · cases h
structure RmIs (D:DataW Unit) (es:List (Nat × Rv)):Prop where
 has:∀ i:Int,has D (kq i)=es.any (fun x=>(x.1:Int) == i)
 at_:∀ x ∈ es,D.atKey (kq (x.1:Int)) (rvD Rv.nil)=rvD x.2
 pl:∀ x ∈ es,PlainA x.2.a
theorem rmIs_none:RmIs (.map []) []:=⟨fun _=>rfl,(fun _ h=>by cases h),(fun _ h=>by cases h)⟩
theorem rmIs_put {D:DataW Unit} {es:List (Nat × Rv)} (hT:Tidy D) (hM:RmIs D es) {i:Nat} (hi:∀ x ∈ es,x.1≠i) {u:Rv} (hu:PlainA u.a):RmIs (D.put (kq (i:Int)) (rvD u)) (es++[(i,u)]):=by
 refine ⟨fun j=>?_,fun x hx=>?_,fun x hx=>?_⟩
 · by_cases e:j=(i:Int)
   · subst e;rw [has_put_same hT.isMap (kq_key _),List.any_append];simp
   · rw [has_put_other (kq_ne e),hM.has,List.any_append];simp [Ne.symm e]
 · rcases List.mem_append.1 hx with hx | hx
   · rw [atKey_put_other (kq_ne (by have:=hi x hx; omega))];exact hM.at_ x hx
   · obtain rfl:x=(i,u):=by simpa using hx
     exact atKey_put_same hT.isMap (kq_key _) _ _
 · rcases List.mem_append.1 hx with hx | hx
   · exact hM.pl x hx
   · obtain rfl:x=(i,u):=by simpa using hx
     exact hu
theorem keyedR:Keyed Tryd.prog 3:=int_keyed Tryd.underlying3
def RmAny (m N:Nat) (w:World):Prop:=∃ D:DataW Unit,w.ownsMap Tryd.prog 3 rvR m N D
def RmAt (m:Nat) (es:List (Nat × Rv)) (w:World):Prop:=∃ D:DataW Unit,w.ownsMap Tryd.prog 3 rvR m es.length D∧RmIs D es
theorem RmAt.any {m:Nat} {es:List (Nat × Rv)} {w:World} (h:RmAt m es w):RmAny m es.length w:=by
 obtain ⟨D,h,-⟩ := h;exact ⟨D,h⟩
theorem RmAny.lt {m N:Nat} {w:World} (h:RmAny m N w):m<w.heap.size:=by
 obtain ⟨D,h⟩ := h;exact h.lt
theorem RmAny.of_block {m N:Nat} {w w':World} (h:RmAny m N w) (hb:w'.heap[m]?=w.heap[m]?):RmAny m N w':=by
 obtain ⟨D,e9,clock,h1,h2⟩ := h;exact ⟨D,e9,clock,hb.trans h1,h2⟩
theorem RmAt.of_block {m:Nat} {es:List (Nat × Rv)} {w w':World} (h:RmAt m es w) (hb:w'.heap[m]?=w.heap[m]?):RmAt m es w':=by
 obtain ⟨D,⟨e9,clock,h1,h2⟩,hM⟩ := h;exact ⟨D,⟨e9,clock,hb.trans h1,h2⟩,hM⟩
theorem RmAt.made (w:World):RmAt w.heap.size [] (w.alloc (.map #[] 0)):=⟨.map [],World.ownsMap_made _ _ _ _,rmIs_none⟩
def FindsR (es:List (Nat × Rv)) (i:Int) (v:Value) (ok:Bool):Prop:=(ok=false∧(∀ x ∈ es,(x.1:Int)≠i)∧v=Rv.nil.val)∨∃ x ∈ es,ok=true∧(x.1:Int)=i∧v=x.2.val
set_option maxRecDepth 100000 in
theorem RmAt.look {m:Nat} {es:List (Nat × Rv)} {w:World} (h:RmAt m es w) {i:Int} (hi:-9223372036854775808≤i∧i≤9223372036854775807) :
    ∃ v ok,(Instr.lookup 90 (.map (some m)) (.int .i64 i) true).run Tryd.prog w=.ok (.tuple #[v,.bool ok]) w∧FindsR es i v ok:=by
 obtain ⟨D,hown,hM⟩ := h;obtain ⟨v,ps,hrun,hv⟩ := hown.look_ok (t:=90) (e:=57) keyedR Tryd.underlying90 (zeroRow w) (zd:=rvD Rv.nil) (zp:=[]) rfl (key:=.int .i64 i) (kl:=kq i) (keyOf_int_mk Tryd.underlying3 (kq_wf hi));refine ⟨v,_,hrun,?_⟩;cases hh:Maps.has D (kq i) with
 | false =>
  refine .inl ⟨rfl,fun x hx e=>?_,?_⟩
  · rw [hM.has,List.any_eq_false] at hh;exact hh x hx (by simpa using e)
  · rw [atKey_of_not_has hh] at hv;exact rvR_inv (fun p e=>by cases e) hv
 | true =>
  rw [hM.has,List.any_eq_true] at hh;obtain ⟨x,hx,he⟩ := hh;have hxi:(x.1:Int)=i:=by simpa using he
  rw [← hxi,hM.at_ x hx] at hv;exact .inr ⟨x,hx,rfl,hxi,rvR_inv (hM.pl x hx) hv⟩
theorem RmAny.put {m N:Nat} {w:World} (h:RmAny m N w) {i:Int} (hi:-9223372036854775808≤i∧i≤9223372036854775807) (hl:N≤1000000) {u:Rv} (hu:PlainA u.a) :
    ∃ w',(Instr.mapUpdate 90 (.map (some m)) (.int .i64 i) u.val).run Tryd.prog w=.ok () w'∧RmAny m (N+1) w'∧w.grownBy w' (some m)∧∀ (es:List (Nat × Rv)) (k:Nat),(k:Int)=i→es.length=N→RmAt m es w→(∀ x ∈ es,x.1≠k)→RmAt m (es++[(k,u)]) w':=by
 obtain ⟨D,hown⟩ := h;obtain ⟨w',hrun,hown',hg⟩ := hown.update (t:=90) (e:=57) keyedR Tryd.underlying90 (by unfold maxLen; omega) (key:=.int .i64 i) (val:=u.val) (kl:=kq i) (d:=rvD u) (ps:=[]) (keyOf_int_mk Tryd.underlying3 (kq_wf hi)) (rvR_mk hu);refine ⟨w',hrun,⟨_,hown'⟩,hg,fun es k hk hN hR hne=>?_⟩;subst hk;obtain ⟨D2,hown2,hM⟩ := hR;obtain ⟨w2,hrun2,hown2',-⟩ := hown2.update (t:=90) (e:=57) keyedR Tryd.underlying90 (by unfold maxLen; omega) (key:=.int .i64 (k:Int)) (val:=u.val) (kl:=kq (k:Int)) (d:=rvD u) (ps:=[]) (keyOf_int_mk Tryd.underlying3 (kq_wf hi)) (rvR_mk hu);rw [hrun] at hrun2;cases hrun2;exact ⟨_,by simpa using hown2',rmIs_put (hown2.tidy keyedR) hM hne hu⟩
end Go.Proofs.YtagolklnjhpbdaaDoor.K
