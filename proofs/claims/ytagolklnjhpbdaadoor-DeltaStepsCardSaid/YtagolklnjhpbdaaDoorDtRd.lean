import Derived.Test.YtagolklnjhpbdaaDoorMerged0
import Derived.Test.YtagolklnjhpbdaaDoorMerged20
import Derived.Test.YtagolklnjhpbdaaDoorMerged21
import Derived.Carry
namespace Go.Proofs.YtagolklnjhpbdaaDoor.K
open Go.RowKit Go.Proofs.YtagolklnjhpbdaaDoor.I
abbrev Itm:=Nat × Rv × Ro
def imE (x:Itm):Nat × Rv:=(x.1,x.2.1)
def imR (x:Itm):Nat × Ro:=(x.1,x.2.2)
structure ItsAt (mb:Nat) (it:List Itm) (w:World):Prop where
 m:RmAt mb (it.map imE) w
 v:∀ x ∈ it,RowV .i32 x.2.1.val x.2.2 w
 b:∀ x ∈ it,∀ b o,x.2.1.a=some ⟨b,o,none⟩→mb<b∧b<w.heap.size
theorem ItsAt.moved {mb:Nat} {it:List Itm} {w w':World} (h:ItsAt mb it w) (hs:w.heap.size≤w'.heap.size) (hk:∀ q,mb≤q→q<w.heap.size→w'.heap[q]?=w.heap[q]?):ItsAt mb it w' :=
 ⟨h.m.of_block (hk mb (Nat.le_refl _) h.m.any.lt),fun x hx=>(h.v x hx).moved hs (fun b o e _=>hk b (Nat.le_of_lt (h.b x hx b o e).1) (h.b x hx b o e).2),fun x hx b o e=>⟨(h.b x hx b o e).1,Nat.lt_of_lt_of_le (h.b x hx b o e).2 hs⟩⟩
theorem ItsAt.grown {mb p:Nat} {it:List Itm} {w w':World} (h:ItsAt mb it w) (hg:w.grownBy w' (some p)) (hp:p<mb):ItsAt mb it w' :=
 h.moved hg.size (fun q hq hl=>hg.block q hl (fun e=>by have:=Option.some.inj e; omega))
theorem ItsAt.below {mb:Nat} {it:List Itm} {w w':World} (h:ItsAt mb it w) (hb:Below w.heap.size w w'):ItsAt mb it w':=h.moved hb.size (fun q _ hl=>hb.block q hl)
structure RrI (p mb:Nat) (w:World) (m:Ms) (u:World):Prop where
 i:InSt p m.st.1 m.st.2 u
 g:w.grownBy u (some p)
 a:RmAny mb m.l.length u
 ok:m.st.2=0→∃ it,m.l=it.map imR∧ItsAt mb it u
theorem RrI.took {p mb:Nat} {w:World} {m:Ms} {st:Sta} {u u':World} (h:RrI p mb w m u) (hi:InSt p st.1 st.2 u') (hg:u.grownBy u' (some p)) (hp:p<mb) (hz:st.2=0→m.st.2=0) (least:Nat):RrI p mb w ⟨st,least,m.l⟩ u' :=
 ⟨hi,grown_trans h.g hg,h.a.of_block (hg.block mb h.a.lt (fun e=>by have:=Option.some.inj e; omega)),fun h0=>by
  obtain ⟨it,h1,h2⟩ := h.ok (hz h0);exact ⟨it,h1,h2.grown hg hp⟩⟩
def RrPost (p:Nat) (m:Ms) (w:World) (e:Ending) (w':World):Prop:=e=.returned (.map (some w.heap.size))∧RrI p w.heap.size w m w'
set_option maxRecDepth 100000 in
set_option maxHeartbeats 8000000 in
theorem readRows_any (p:Nat) (st:Sta) (W H:Nat) (hW:W≤1000) (hH:H≤1000) (w:World) (h:InSt p st.1 st.2 w) (hok:InOk st):Calls Tryd.prog 74 #[.pointer (some ⟨p,0,none⟩),.int .i64 (W:Int),.int .i64 (H:Int)] w (RrPost p (readM W H st) w):=by
 obtain ⟨mb,hmb⟩ : ∃ mb,w.heap.size=mb:=⟨_,rfl⟩;obtain ⟨P,hP⟩ : ∃ P,RrPost p (readM W H st) w=P:=⟨_,rfl⟩;rw [hP];have HP:=hDx hP;have hpl:p<mb:=by obtain ⟨s,hb,-⟩ := h; rw [← hmb]; exact hb.lt
 obtain ⟨w1,hw1⟩ : ∃ w1,w.alloc (.map #[] 0)=w1:=⟨_,rfl⟩;have hi1:InSt p st.1 st.2 w1:=by rw [← hw1]; exact h.alloc _
 have hm1:RmAt mb [] w1:=by rw [← hw1,← hmb]; exact RmAt.made w
 have hg1:w.grownBy w1 (some p):=by rw [← hw1]; exact World.grownBy_alloc w _ _
 have HN:=hDx (innum_any p st.1 st.2 w1 hi1);obtain ⟨n,hn⟩ : ∃ n,(numS st.1 st.2).2=n:=⟨_,rfl⟩;have hnt:(n:Int)≤4611686018427387904:=by have h1:=numS_top st.1 st.2; unfold top at h1; omega
 obtain ⟨m0,hm0⟩ : ∃ m0,ms0 st=m0:=⟨_,rfl⟩;have hm0s:(numS st.1 st.2).1=m0.st:=by rw [← hm0]; rfl
 have hm0l:m0.l=[]:=by rw [← hm0]; rfl
 have hrm:readM W H st=roundsM W H n m0:=by unfold readM; rw [hn,hm0]
 have hm0k:InOk m0.st:=by rw [← hm0]; exact numS_ok hok
 have hm0g:MsGood H m0:=by rw [← hm0]; exact ms0_good H st
 have hl0:m0.least=0:=by rw [← hm0]; rfl
 rw [hn,hm0s] at HN;have HEnd:Hid (∀ u,RrI p mb w (roundsM W H n m0) u→P (.returned (.map (some mb))) u):=hDx (fun u hu=>by
  rw [← hP,hrm];exact ⟨by rw [hmb],by rw [hmb]; exact hu⟩)
 have HMl:=hDx hm0l;have HMk:=hDx hm0k;have HMg:=hDx hm0g;have HPl:=hDx hpl;have HM1:=hDx hm1;have HG1:=hDx hg1;have HW1:=hDx hw1;have HMb:=hDx hmb;have HL0:=hDx hl0;have HWl:=hDx hW;have hmm:=@run_makeMap Tryd.prog;clear hP h hmb hi1 hm1 hg1 hm0 hm0s hm0l hrm hok hm0k hm0g hpl hn hw1 hl0
 go_enter Tryd.func74,Tryd.ntmps74
 go_upto_region 3 with fail
 rw [HW1.out,HMb.out];clear hmm
 go_wp2_with fail
 refine HN.out.mono ?_;rintro e w2 ⟨rfl,hi2,hg2⟩;have hI0:RrI p mb w (roundsM W H 0 m0) w2:=⟨hi2,grown_trans HG1.out hg2,by
  show RmAny mb m0.l.length w2;rw [HMl.out];exact (HM1.out.any (es:=[])).of_block (hg2.block mb HM1.out.any.lt (fun e=>by have:=Option.some.inj e; have:=HPl.out; omega)),fun _=>⟨[],HMl.out,⟨HM1.out.of_block (hg2.block mb HM1.out.any.lt (fun e=>by have:=Option.some.inj e; have:=HPl.out; omega)),(fun x hx=>by cases hx),(fun x hx=>by cases hx)⟩⟩⟩
 have HI0:=hDx hI0;clear hi2 hg2 hI0 HN HM1 HG1 HW1
 go_wp2_with fail
 go_loopw [8,9] (fun a b wr=>∃ j:Nat,j≤n∧a=.int .i64 ((roundsM W H j m0).least:Int)∧b=.int .i64 ((n - j:Nat):Int)∧Hid (RrI p mb w (roundsM W H j m0) wr)) (fun _ b _=>(intOf b).toNat)
 case atStart=>exact ⟨0,Nat.zero_le _,by rw [show roundsM W H 0 m0=m0 from rfl,HL0.out]; rfl,by simp,HI0⟩
 case round =>
  obtain ⟨j,hj,rfl,rfl,HF⟩ := hrel;obtain ⟨m,hm⟩ : ∃ m,roundsM W H j m0=m:=⟨_,rfl⟩;rw [hm] at HF;have HMj:=hDx hm;obtain ⟨k,hk⟩ : ∃ k,n - j=k:=⟨_,rfl⟩;rw [hk];have hkt:(k:Int)≤4611686018427387904:=by omega
  have hmk:InOk m.st:=by rw [← hm]; exact roundsM_ok j HMk.out
  have HMk2:=hDx hmk;rw [hm];by_cases hk0:k=0
  · subst hk0;have hjn:j=n:=by omega
    have hend:=HEnd.out wr (by rw [← hjn,hm]; exact HF.out);have HE:=hDx hend;clear hend hm HF HMj hk hmk
    go_wp2_with fail
    exact HE.out
  have d0:decide ((k:Int) > 0)=true:=decide_eq_true (by omega);have d1:decide (0<k)=true:=decide_eq_true (by omega);have d2:decide ((0:Int)<k)=true:=decide_eq_true (by omega);have HEr:=hDx (err_any p m.st.1 m.st.2 wr HF.out.i);by_cases he:m.st.2=0
  rotate_left
  · have hend:=HEnd.out wr (by rw [roundsM_stuck hj (by rw [hm]; exact he),hm]; exact HF.out);have HE:=hDx hend;obtain ⟨q,hq⟩ : ∃ q,m.st.2=q:=⟨_,rfl⟩;rw [hq] at HEr he;have d3:decide (q=0)=false:=decide_eq_false he;have d4:((q:Int) == 0)=false:=by rw [beq_eq_false_iff_ne]; omega
    clear hend hm HF HMj hk hmk hq
    go_wp2_with fail
    refine HEr.out.mono ?_;rintro e wq ⟨rfl,rfl⟩
    go_wp2_with fail
    exact HE.out
  have hrd:roundsM W H (j+1) m0=msNext W H m:=by
   show roundM W H (roundsM W H j m0)=_;rw [hm];unfold roundM;rw [if_neg (by omega)]
  have hgd:MsGood H m:=by rw [← hm]; exact roundsM_good HMg.out j (by rw [hm]; exact he)
  have HRd:=hDx hrd;have HGd:=hDx hgd;have HE0:=hDx he;have HN2:=hDx (innum_any p m.st.1 m.st.2 wr HF.out.i);obtain ⟨⟨s1,y⟩,hy⟩ : ∃ q,msNum m=q:=⟨_,rfl⟩;have hy2:numS m.st.1 m.st.2=(s1,y):=hy;rw [hy2] at HN2;have hyt:(y:Int)≤4611686018427387904:=by have h1:=numS_top m.st.1 m.st.2; rw [hy2] at h1; unfold top at h1; simp only at h1; omega
  have HY:=hDx hy;obtain ⟨q,hq⟩ : ∃ q,m.st.2=q:=⟨_,rfl⟩;rw [hq] at HEr he;subst he;obtain ⟨ls,hls⟩ : ∃ ls,m.least=ls:=⟨_,rfl⟩;have HLs:=hDx hls;have hlt:(ls:Int)≤1000:=by have h1:=hgd.le; omega
  rw [hls];have HKj:=hDx hk;clear hm hk hmk hrd hgd hy hy2 hq hls HMj
  go_wp2_with fail
  refine HEr.out.mono ?_;rintro e wq ⟨rfl,rfl⟩;clear HEr
  go_wp2_with fail
  refine HN2.out.mono ?_;rintro e w3 ⟨rfl,hi3,hg3⟩;have hI3:=HF.out.took (st:=s1) hi3 hg3 HPl.out (fun _=>HE0.out) 0;have HI3:=hDx hI3;clear hi3 hg3 hI3 HN2 HF;by_cases hmo:ls≤y∧y<H
  · have t1:decide ((y:Int)<ls)=false:=decide_eq_false (by omega);have t2:decide (y<ls)=false:=decide_eq_false (by omega);have t3:decide ((y:Int)≥H)=false:=decide_eq_false (by omega);have t4:decide (H≤y)=false:=decide_eq_false (by omega);have t5:decide ((H:Int)≤y)=false:=decide_eq_false (by omega);obtain ⟨sS,hsS⟩ : ∃ sS,s1=sS:=⟨_,rfl⟩;have hmq:msOk H m:=by unfold msOk; rw [HY.out,HLs.out]; exact hmo
    have hSs:msSt H m=sS:=by unfold msSt; rw [if_pos hmq,HY.out]; exact hsS
    rw [hsS] at HI3;have HI4:=HI3;clear HI3 hsS hmo hmq
    go_upto_region 9 with fail
    have HRr:=hDx (readRow_any p sS (W:Int) (by have:=HWl.out; omega) (by omega) w3 HI4.out.i);rw [Int.toNat_natCast] at HRr;have HSs:=hDx hSs;clear hSs
    go_wp2_with fail
    refine HRr.out.mono ?_;rintro e w5 ⟨v5,rfl,hO5,hi5,hg5⟩;have hI5:=HI4.out.took (st:=(readR sS W).1) hi5 hg5 HPl.out (fun h0=>(readR_zero h0).1) 0;obtain ⟨a5,c5',rfl,hc5,hb5,hn5,hf5,hx5⟩ := hO5.shape;have hpa:PlainA a5:=fun q e=>by
     subst e;rcases hO5.2 with ⟨e2,-⟩ | ⟨g,cap,cur,e2,-⟩
     · cases e2
     · injection e2 with e2
       injection e2 with e2
       rw [e2]
    have hrv5:RowV .i32 (Rv.val ⟨a5,(readR sS W).2.l.length,c5',(readR sS W).2.wrapped⟩) (readR sS W).2 w5:=⟨a5,c5',rfl,hc5,hn5,hf5,hx5⟩;have hfew:=roundsM_few HMg.out j (w:=W);obtain ⟨rr,hrr⟩ : ∃ rr,(readR sS W).2=rr:=⟨_,rfl⟩;obtain ⟨w6,hrun,ha6,hg6,hput⟩ := hI5.a.put (i:=(y:Int)) (by omega) (by have:=HGd.out.few; have:=HGd.out.le; show m.l.length≤1000000; omega) (u:=⟨a5,rr.l.length,c5',rr.wrapped⟩) hpa;rw [hrr] at hrv5;have hI6:RrI p mb w (msNext W H m) w6:=by
     have hmn:msNext W H m=⟨(readR sS W).1,y+1,m.l++[(y,rr)]⟩ := by unfold msNext; rw [HSs.out,HY.out,hrr]
     rw [hmn];have hpm:=HPl.out;have hlen:m.l.length+1=(m.l++[(y,rr)]).length:=by simp
     refine ⟨?_,⟨hg6.os.trans hI5.g.os,hg6.tape.trans hI5.g.tape,hg6.output.trans hI5.g.output,Nat.le_trans hI5.g.size hg6.size,fun k hk hkp=>(hg6.block k (Nat.lt_of_lt_of_le hk hI5.g.size) (fun e=>by have:=Option.some.inj e; have:=HMb.out; omega)).trans (hI5.g.block k hk hkp)⟩,by show RmAny mb (m.l++[(y,rr)]).length w6; rw [← hlen]; exact ha6,fun h0=>?_⟩
     · obtain ⟨s,i1,i2,i3⟩ := hI5.i;exact ⟨s,(hg6.block p i1.lt (fun e=>by have:=Option.some.inj e; omega)).trans i1,i2,i3⟩
     · obtain ⟨it,h1,h2⟩ := hI5.ok h0;have hz:msOk H m:=(msNext_zero (w:=W) (h:=H) (m:=m) (by rw [hmn]; exact h0)).1;have hne:∀ x ∈ it.map imE,x.1≠y:=fun x hx e=>by
        obtain ⟨z,hz2,rfl⟩ := List.mem_map.1 hx;have h3:=HGd.out.lt (imR z) (by show imR z ∈ m.l; rw [show m.l=it.map imR from h1]; exact List.mem_map_of_mem hz2);have h4:=hz.1;rw [HY.out] at h4;have h5:z.1=y:=e;have h6:z.1<m.least:=h3;simp only at h4;omega
       have hlt6:mb<w3.heap.size:=HI4.out.a.lt;have hk6:∀ q,q≠mb→q<w5.heap.size→w6.heap[q]?=w5.heap[q]?:=fun q hq hl=>hg6.block q hl (fun e=>hq (Option.some.inj e))
       refine ⟨it++[(y,⟨a5,rr.l.length,c5',rr.wrapped⟩,rr)],by rw [List.map_append,← (show m.l=it.map imR from h1)]; rfl,⟨?_,fun x hx=>?_,fun x hx b o e=>?_⟩⟩
       · rw [List.map_append];exact hput (it.map imE) y rfl (by rw [List.length_map]; have h8:m.l=it.map imR:=h1; show it.length=m.l.length; rw [h8,List.length_map]) h2.m hne
       · rcases List.mem_append.1 hx with hx | hx
         · exact (h2.v x hx).moved hg6.size (fun b o e _=>hk6 b (by have:=(h2.b x hx b o e).1; omega) (h2.b x hx b o e).2)
         · have e9:x=(y,⟨a5,rr.l.length,c5',rr.wrapped⟩,rr):=by simpa using hx
           rw [e9];exact hrv5.moved hg6.size (fun b o e _=>hk6 b (by have:=(hb5 b o e).1; omega) (hb5 b o e).2.1)
       · rcases List.mem_append.1 hx with hx | hx
         · exact ⟨(h2.b x hx b o e).1,Nat.lt_of_lt_of_le (h2.b x hx b o e).2 hg6.size⟩
         · have e9:x=(y,⟨a5,rr.l.length,c5',rr.wrapped⟩,rr):=by simpa using hx
           rw [e9] at e;exact ⟨Nat.lt_of_lt_of_le hlt6 (hb5 b o e).1,Nat.lt_of_lt_of_le (hb5 b o e).2.1 hg6.size⟩
    have hrun':(Instr.mapUpdate 90 (.map (some mb)) (.int .i64 (y:Int)) (.agg #[.slice a5 rr.l.length c5',.bool rr.wrapped])).run Tryd.prog w5=.ok () w6:=hrun;rw [hrr];have HI6:Hid (RrI p mb w (roundsM W H (j+1) m0) w6):=hDx (by rw [HRd.out]; exact hI6);have HLe:Hid ((roundsM W H (j+1) m0).least=y+1):=hDx (by rw [HRd.out]; unfold msNext; rw [HY.out]);clear hO5 hi5 hg5 hI5 hc5 hb5 hn5 hf5 hx5 hpa hrv5 hfew hrun ha6 hg6 hput hI6 HRr hrr HI4 HSs
    go_wp2_with fail
    go_roundw
    case rel=>exact ⟨j+1,by have:=HKj.out; omega,by rw [HLe.out]; go_num,by have:=HKj.out; go_num,HI6⟩
    case measure=>simp [intOf]; omega
  obtain ⟨sS,hsS⟩ : ∃ sS,failS s1.1 s1.2 1=sS:=⟨_,rfl⟩;have hmq:¬ msOk H m:=by unfold msOk; rw [HY.out,HLs.out]; exact hmo
  have hSs:msSt H m=sS:=by unfold msSt; rw [if_neg hmq,HY.out]; exact hsS
  clear hmq;by_cases hlo:y<ls
  · have t1:decide ((y:Int)<ls)=true:=decide_eq_true (by omega);have t2:decide (y<ls)=true:=decide_eq_true hlo;clear hmo;have HFl:=hDx (fail_any p s1.1 s1.2 1 w3 HI3.out.i);rw [show failS s1.1 s1.2 1=sS from hsS] at HFl
    go_wp2_with fail
    refine HFl.out.mono ?_;rintro e w4 ⟨rfl,hi4,hg4⟩;have hI4:=HI3.out.took (st:=sS) hi4 hg4 HPl.out (fun h0=>absurd h0 (by rw [← hsS]; exact failS_bad _ _)) 0;have HI4:=hDx hI4;clear hi4 hg4 hI4 HI3 HFl hsS
    go_upto_region 9 with fail
    have HRr:=hDx (readRow_any p sS (W:Int) (by have:=HWl.out; omega) (by omega) w4 HI4.out.i);rw [Int.toNat_natCast] at HRr;have HSs:=hDx hSs;clear hSs
    go_wp2_with fail
    refine HRr.out.mono ?_;rintro e w5 ⟨v5,rfl,hO5,hi5,hg5⟩;have hI5:=HI4.out.took (st:=(readR sS W).1) hi5 hg5 HPl.out (fun h0=>(readR_zero h0).1) 0;obtain ⟨a5,c5',rfl,hc5,hb5,hn5,hf5,hx5⟩ := hO5.shape;have hpa:PlainA a5:=fun q e=>by
     subst e;rcases hO5.2 with ⟨e2,-⟩ | ⟨g,cap,cur,e2,-⟩
     · cases e2
     · injection e2 with e2
       injection e2 with e2
       rw [e2]
    have hrv5:RowV .i32 (Rv.val ⟨a5,(readR sS W).2.l.length,c5',(readR sS W).2.wrapped⟩) (readR sS W).2 w5:=⟨a5,c5',rfl,hc5,hn5,hf5,hx5⟩;have hfew:=roundsM_few HMg.out j (w:=W);obtain ⟨rr,hrr⟩ : ∃ rr,(readR sS W).2=rr:=⟨_,rfl⟩;obtain ⟨w6,hrun,ha6,hg6,hput⟩ := hI5.a.put (i:=(y:Int)) (by omega) (by have:=HGd.out.few; have:=HGd.out.le; show m.l.length≤1000000; omega) (u:=⟨a5,rr.l.length,c5',rr.wrapped⟩) hpa;rw [hrr] at hrv5;have hI6:RrI p mb w (msNext W H m) w6:=by
     have hmn:msNext W H m=⟨(readR sS W).1,y+1,m.l++[(y,rr)]⟩ := by unfold msNext; rw [HSs.out,HY.out,hrr]
     rw [hmn];have hpm:=HPl.out;have hlen:m.l.length+1=(m.l++[(y,rr)]).length:=by simp
     refine ⟨?_,⟨hg6.os.trans hI5.g.os,hg6.tape.trans hI5.g.tape,hg6.output.trans hI5.g.output,Nat.le_trans hI5.g.size hg6.size,fun k hk hkp=>(hg6.block k (Nat.lt_of_lt_of_le hk hI5.g.size) (fun e=>by have:=Option.some.inj e; have:=HMb.out; omega)).trans (hI5.g.block k hk hkp)⟩,by show RmAny mb (m.l++[(y,rr)]).length w6; rw [← hlen]; exact ha6,fun h0=>?_⟩
     · obtain ⟨s,i1,i2,i3⟩ := hI5.i;exact ⟨s,(hg6.block p i1.lt (fun e=>by have:=Option.some.inj e; omega)).trans i1,i2,i3⟩
     · obtain ⟨it,h1,h2⟩ := hI5.ok h0;have hz:msOk H m:=(msNext_zero (w:=W) (h:=H) (m:=m) (by rw [hmn]; exact h0)).1;have hne:∀ x ∈ it.map imE,x.1≠y:=fun x hx e=>by
        obtain ⟨z,hz2,rfl⟩ := List.mem_map.1 hx;have h3:=HGd.out.lt (imR z) (by show imR z ∈ m.l; rw [show m.l=it.map imR from h1]; exact List.mem_map_of_mem hz2);have h4:=hz.1;rw [HY.out] at h4;have h5:z.1=y:=e;have h6:z.1<m.least:=h3;simp only at h4;omega
       have hlt6:mb<w4.heap.size:=HI4.out.a.lt;have hk6:∀ q,q≠mb→q<w5.heap.size→w6.heap[q]?=w5.heap[q]?:=fun q hq hl=>hg6.block q hl (fun e=>hq (Option.some.inj e))
       refine ⟨it++[(y,⟨a5,rr.l.length,c5',rr.wrapped⟩,rr)],by rw [List.map_append,← (show m.l=it.map imR from h1)]; rfl,⟨?_,fun x hx=>?_,fun x hx b o e=>?_⟩⟩
       · rw [List.map_append];exact hput (it.map imE) y rfl (by rw [List.length_map]; have h8:m.l=it.map imR:=h1; show it.length=m.l.length; rw [h8,List.length_map]) h2.m hne
       · rcases List.mem_append.1 hx with hx | hx
         · exact (h2.v x hx).moved hg6.size (fun b o e _=>hk6 b (by have:=(h2.b x hx b o e).1; omega) (h2.b x hx b o e).2)
         · have e9:x=(y,⟨a5,rr.l.length,c5',rr.wrapped⟩,rr):=by simpa using hx
           rw [e9];exact hrv5.moved hg6.size (fun b o e _=>hk6 b (by have:=(hb5 b o e).1; omega) (hb5 b o e).2.1)
       · rcases List.mem_append.1 hx with hx | hx
         · exact ⟨(h2.b x hx b o e).1,Nat.lt_of_lt_of_le (h2.b x hx b o e).2 hg6.size⟩
         · have e9:x=(y,⟨a5,rr.l.length,c5',rr.wrapped⟩,rr):=by simpa using hx
           rw [e9] at e;exact ⟨Nat.lt_of_lt_of_le hlt6 (hb5 b o e).1,Nat.lt_of_lt_of_le (hb5 b o e).2.1 hg6.size⟩
    have hrun':(Instr.mapUpdate 90 (.map (some mb)) (.int .i64 (y:Int)) (.agg #[.slice a5 rr.l.length c5',.bool rr.wrapped])).run Tryd.prog w5=.ok () w6:=hrun;rw [hrr];have HI6:Hid (RrI p mb w (roundsM W H (j+1) m0) w6):=hDx (by rw [HRd.out]; exact hI6);have HLe:Hid ((roundsM W H (j+1) m0).least=y+1):=hDx (by rw [HRd.out]; unfold msNext; rw [HY.out]);clear hO5 hi5 hg5 hI5 hc5 hb5 hn5 hf5 hx5 hpa hrv5 hfew hrun ha6 hg6 hput hI6 HRr hrr HI4 HSs
    go_wp2_with fail
    go_roundw
    case rel=>exact ⟨j+1,by have:=HKj.out; omega,by rw [HLe.out]; go_num,by have:=HKj.out; go_num,HI6⟩
    case measure=>simp [intOf]; omega
  · have t1:decide ((y:Int)<ls)=false:=decide_eq_false (by omega);have t2:decide (y<ls)=false:=decide_eq_false hlo;have t3:decide ((y:Int)≥H)=true:=decide_eq_true (by omega);have t4:decide (H≤y)=true:=decide_eq_true (by omega);have t5:decide ((H:Int)≤y)=true:=decide_eq_true (by omega);clear hmo;have HFl:=hDx (fail_any p s1.1 s1.2 1 w3 HI3.out.i);rw [show failS s1.1 s1.2 1=sS from hsS] at HFl
    go_wp2_with fail
    refine HFl.out.mono ?_;rintro e w4 ⟨rfl,hi4,hg4⟩;have hI4:=HI3.out.took (st:=sS) hi4 hg4 HPl.out (fun h0=>absurd h0 (by rw [← hsS]; exact failS_bad _ _)) 0;have HI4:=hDx hI4;clear hi4 hg4 hI4 HI3 HFl hsS
    go_upto_region 9 with fail
    have HRr:=hDx (readRow_any p sS (W:Int) (by have:=HWl.out; omega) (by omega) w4 HI4.out.i);rw [Int.toNat_natCast] at HRr;have HSs:=hDx hSs;clear hSs
    go_wp2_with fail
    refine HRr.out.mono ?_;rintro e w5 ⟨v5,rfl,hO5,hi5,hg5⟩;have hI5:=HI4.out.took (st:=(readR sS W).1) hi5 hg5 HPl.out (fun h0=>(readR_zero h0).1) 0;obtain ⟨a5,c5',rfl,hc5,hb5,hn5,hf5,hx5⟩ := hO5.shape;have hpa:PlainA a5:=fun q e=>by
     subst e;rcases hO5.2 with ⟨e2,-⟩ | ⟨g,cap,cur,e2,-⟩
     · cases e2
     · injection e2 with e2
       injection e2 with e2
       rw [e2]
    have hrv5:RowV .i32 (Rv.val ⟨a5,(readR sS W).2.l.length,c5',(readR sS W).2.wrapped⟩) (readR sS W).2 w5:=⟨a5,c5',rfl,hc5,hn5,hf5,hx5⟩;have hfew:=roundsM_few HMg.out j (w:=W);obtain ⟨rr,hrr⟩ : ∃ rr,(readR sS W).2=rr:=⟨_,rfl⟩;obtain ⟨w6,hrun,ha6,hg6,hput⟩ := hI5.a.put (i:=(y:Int)) (by omega) (by have:=HGd.out.few; have:=HGd.out.le; show m.l.length≤1000000; omega) (u:=⟨a5,rr.l.length,c5',rr.wrapped⟩) hpa;rw [hrr] at hrv5;have hI6:RrI p mb w (msNext W H m) w6:=by
     have hmn:msNext W H m=⟨(readR sS W).1,y+1,m.l++[(y,rr)]⟩ := by unfold msNext; rw [HSs.out,HY.out,hrr]
     rw [hmn];have hpm:=HPl.out;have hlen:m.l.length+1=(m.l++[(y,rr)]).length:=by simp
     refine ⟨?_,⟨hg6.os.trans hI5.g.os,hg6.tape.trans hI5.g.tape,hg6.output.trans hI5.g.output,Nat.le_trans hI5.g.size hg6.size,fun k hk hkp=>(hg6.block k (Nat.lt_of_lt_of_le hk hI5.g.size) (fun e=>by have:=Option.some.inj e; have:=HMb.out; omega)).trans (hI5.g.block k hk hkp)⟩,by show RmAny mb (m.l++[(y,rr)]).length w6; rw [← hlen]; exact ha6,fun h0=>?_⟩
     · obtain ⟨s,i1,i2,i3⟩ := hI5.i;exact ⟨s,(hg6.block p i1.lt (fun e=>by have:=Option.some.inj e; omega)).trans i1,i2,i3⟩
     · obtain ⟨it,h1,h2⟩ := hI5.ok h0;have hz:msOk H m:=(msNext_zero (w:=W) (h:=H) (m:=m) (by rw [hmn]; exact h0)).1;have hne:∀ x ∈ it.map imE,x.1≠y:=fun x hx e=>by
        obtain ⟨z,hz2,rfl⟩ := List.mem_map.1 hx;have h3:=HGd.out.lt (imR z) (by show imR z ∈ m.l; rw [show m.l=it.map imR from h1]; exact List.mem_map_of_mem hz2);have h4:=hz.1;rw [HY.out] at h4;have h5:z.1=y:=e;have h6:z.1<m.least:=h3;simp only at h4;omega
       have hlt6:mb<w4.heap.size:=HI4.out.a.lt;have hk6:∀ q,q≠mb→q<w5.heap.size→w6.heap[q]?=w5.heap[q]?:=fun q hq hl=>hg6.block q hl (fun e=>hq (Option.some.inj e))
       refine ⟨it++[(y,⟨a5,rr.l.length,c5',rr.wrapped⟩,rr)],by rw [List.map_append,← (show m.l=it.map imR from h1)]; rfl,⟨?_,fun x hx=>?_,fun x hx b o e=>?_⟩⟩
       · rw [List.map_append];exact hput (it.map imE) y rfl (by rw [List.length_map]; have h8:m.l=it.map imR:=h1; show it.length=m.l.length; rw [h8,List.length_map]) h2.m hne
       · rcases List.mem_append.1 hx with hx | hx
         · exact (h2.v x hx).moved hg6.size (fun b o e _=>hk6 b (by have:=(h2.b x hx b o e).1; omega) (h2.b x hx b o e).2)
         · have e9:x=(y,⟨a5,rr.l.length,c5',rr.wrapped⟩,rr):=by simpa using hx
           rw [e9];exact hrv5.moved hg6.size (fun b o e _=>hk6 b (by have:=(hb5 b o e).1; omega) (hb5 b o e).2.1)
       · rcases List.mem_append.1 hx with hx | hx
         · exact ⟨(h2.b x hx b o e).1,Nat.lt_of_lt_of_le (h2.b x hx b o e).2 hg6.size⟩
         · have e9:x=(y,⟨a5,rr.l.length,c5',rr.wrapped⟩,rr):=by simpa using hx
           rw [e9] at e;exact ⟨Nat.lt_of_lt_of_le hlt6 (hb5 b o e).1,Nat.lt_of_lt_of_le (hb5 b o e).2.1 hg6.size⟩
    have hrun':(Instr.mapUpdate 90 (.map (some mb)) (.int .i64 (y:Int)) (.agg #[.slice a5 rr.l.length c5',.bool rr.wrapped])).run Tryd.prog w5=.ok () w6:=hrun;rw [hrr];have HI6:Hid (RrI p mb w (roundsM W H (j+1) m0) w6):=hDx (by rw [HRd.out]; exact hI6);have HLe:Hid ((roundsM W H (j+1) m0).least=y+1):=hDx (by rw [HRd.out]; unfold msNext; rw [HY.out]);clear hO5 hi5 hg5 hI5 hc5 hb5 hn5 hf5 hx5 hpa hrv5 hfew hrun ha6 hg6 hput hI6 HRr hrr HI4 HSs
    go_wp2_with fail
    go_roundw
    case rel=>exact ⟨j+1,by have:=HKj.out; omega,by rw [HLe.out]; go_num,by have:=HKj.out; go_num,HI6⟩
    case measure=>simp [intOf]; omega
end Go.Proofs.YtagolklnjhpbdaaDoor.K
