import Derived.Test.YtagolklnjhpbdaaDoorMerged0
import Derived.Test.YtagolklnjhpbdaaDoorMerged14
import Derived.Lib.QuietBelow
import Derived.BigQuiet
import Derived.RangeFuncNested
import Derived.RangeFuncBound
import Derived.RangeFuncCalls
import Derived.RangeFuncLeaves
import Derived.RangeFuncBox
import Derived.Shelf.Abstract
import Derived.Shelf.RegionOpen
import Derived.OwnWalkIn
import Derived.TacticsInMore
import Derived.LoopNIn
import Derived.LoopIn
namespace Go.Proofs.YtagolklnjhpbdaaDoor.K
open Go.RowKit Go.Shelf Go.Proofs.YtagolklnjhpbdaaDoor.I
open W (KeepL keepL_t keepL_b)
attribute [local go_sem] Oper.semAt_some
abbrev QR:={ q:Nat × Cel // okC q.2∧q.1≤1000000 }
def valR (R:List QR):List (Nat × Cel):=R.map Subtype.val
def encQ (x:QR):Array Value:=#[.agg #[.int .i64 (x.1.1:Int),.int .i32 x.1.2.rune,.int .i64 x.1.2.style,.int .i64 x.1.2.part]]
theorem good_bound:∀ (R:List (Nat × Cel)) (pr:Option Cel),Good pr R→(expR R).length≤1000000→∀ q ∈ R,okC q.2∧q.1≤1000000
  | [],_,_,_=>fun q hq=>by cases hq
  | p::R,pr,h,hl=>fun q hq=>by
   unfold expR at hl;rw [List.flatMap_cons,List.length_append,List.length_replicate] at hl;rcases List.mem_cons.1 hq with rfl | hq
   · exact ⟨h.2.1,by omega⟩
   · exact good_bound R _ h.2.2.2 (by unfold expR; omega) q hq
theorem runs_all (l:List Cel) (h:AllC okC l) (hl:l.length≤1000000):∃ R:List QR,expR (valR R)=l∧Good none (valR R):=by
 obtain ⟨R,h1,h2⟩ := runs_exist l.length l (Nat.le_refl _) h none (fun e=>absurd rfl e);have h3:=good_bound R none h2 (by rw [h1]; exact hl);refine ⟨R.pmap Subtype.mk h3,?_⟩;have e:valR (R.pmap Subtype.mk h3)=R:=by unfold valR; rw [List.map_pmap]; simp
 rw [e];exact ⟨h1,h2⟩
theorem valR_get {R:List QR} {j:Nat} (hj:j<R.length):(valR R)[j]?=some (R[j].1.1,R[j].1.2):=by
 unfold valR;rw [List.getElem?_map,List.getElem?_eq_getElem hj]
 rfl
set_option maxRecDepth 100000 in
set_option maxHeartbeats 8000000 in
theorem runs1_in (n:Nat) (hn:2≤n) (y B:Nat) (a:Option Addr) (len cap:Nat) (l:List Cel) (R:List QR) (hR:expR (valR R)=l) (hg:Good none (valR R)) (hlen:len≤1000000) (J Jx:List QR→World→Prop) (V:World) (hJ:AbidesFrom V.heap.size J)
    (hY:∀ pre x V1,J pre V1→pre.length<R.length→YieldAt Fence.wide (n - 1) Tryd.prog y (encQ x) V1 fun e V' =>
     (e=.returned (.bool true)∧J (pre++[x]) V'∧KeepL (lookR B a l) V1 V')∨(e=.returned (.bool false)∧Jx (pre++[x]) V'))
    (hL:LooksR B a len cap l V) (h0:J [] V) :
    CallsIn Fence.wide n Tryd.prog 86 #[.func (.yield y) #[] #[],.pointer (some ⟨B,0,none⟩)] V fun e V'=>(∃ v,e=.returned v) ∧
      ((∃ ys,ys=R∧J ys V')∨(∃ pre,(∃ j,j≤R.length∧pre=R.take j)∧Jx pre V')):=by
 obtain ⟨P,hP⟩ : ∃ P:Ending→World→Prop,(fun e V'=>(∃ v,e=.returned v)∧((∃ ys,ys=R∧J ys V')∨(∃ pre,(∃ j,j≤R.length∧pre=R.take j)∧Jx pre V')))=P:=⟨_,rfl⟩;rw [hP];have HP:=hDx hP;have HLn:=hDx hL.cl.len;have HY:=hDx hY;have HJ:=hDx hJ;have HL:=hDx hL;have HG:=hDx hg;have HR:=hDx hR;have H0:=hDx h0;have hlI:(len:Int)≤1000000:=by omega
 have HVl:Hid ((valR R).length=R.length):=hDx (by unfold valR; rw [List.length_map]);have hok:AllC okC l:=by rw [← hR]; exact good_ok _ _ hg
 have HOk:=hDx hok;obtain ⟨base,hbase⟩ : ∃ base,V.heap.size=base:=⟨_,rfl⟩;have hszb:base≤V.heap.size:=by omega
 rw [hbase] at HJ;clear hP hY hJ hL hg hR h0 hbase hok;refine callsIn_of_wp Tryd.func86 rfl trivial ?_ rfl;simp only [Tryd.ntmps86,List.size_toArray,List.length_cons,List.length_nil,Nat.reduceAdd,Nat.reduceSub,Array.replicate_succ,Array.replicate_zero,List.push_toArray,List.append_toArray,List.nil_append,List.cons_append]
 gi_wp2_with fail
 gi_loopw [3] (fun i wr=>∃ x j:Nat,i=.int .i64 (x:Int)∧x≤len∧j≤R.length∧base≤wr.heap.size∧Hid (x=atR (valR R) j∧LooksR B a len cap l wr∧J (R.take j) wr)) (fun i _=>len - (intOf i).toNat)
 case atStart=>exact ⟨0,0,rfl,Nat.zero_le _,Nat.zero_le _,hszb,hDx ⟨rfl,HL.out,H0.out⟩⟩
 case round =>
  obtain ⟨x,j,rfl,hx,hj,hbw,HF⟩ := hrel;have z1:=HF.out.2.1.bl.cell;by_cases hjl:j<R.length
  · have hrun:=run_at HG.out (valR_get hjl);obtain ⟨q,hq⟩ : ∃ q,R[j]=q:=⟨_,rfl⟩;rw [hq] at hrun;obtain ⟨⟨k,c⟩,hqk⟩ := q;simp only at hrun;rw [HR.out,← HF.out.1] at hrun;obtain ⟨g1,g2,g3,g4,g5,g6⟩ := hrun;have hxl:x<len:=by rw [HLn.out]; omega
    have hd:decide (x<len)=true:=decide_eq_true hxl;have hxI:(x:Int)<len:=by omega
    have hll:l≠[]:=by rintro rfl; simp at g4; omega
    obtain ⟨ab,ao,rfl,hab,hAt⟩ := HF.out.2.1.cl.at_.resolve_left hll;have h1:=hAt x c (by have:=g5 0 (by omega); rwa [Nat.add_zero] at this);obtain ⟨c1,c2,c3⟩ := c;have k0:=h1.c0;have k1:=h1.c1;have k2:=h1.c2;simp only at k0 k1 k2;have HC:=hDx (fun w=>counted_any c1 c2 c3 g2.1.1 g2.2.1.1 g2.2.2.1 w);have hsn:R.take (j+1)=R.take j++[⟨(k,⟨c1,c2,c3⟩),hqk⟩]:=by rw [List.take_succ_eq_append_getElem hjl,hq]
    have HSn:=hDx hsn;have HGs:Hid (1≤k∧atR (valR R) (j+1)=x+k∧x+k≤len∧(∀ i,i<k→l[x+i]?=some ⟨c1,c2,c3⟩)∧l[x+k]?≠some ⟨c1,c2,c3⟩):=hDx ⟨g1,g3,by rw [HLn.out]; exact g4,g5,g6⟩;have HJl:=hDx hjl;have HX:=hDx HF.out.1;have HLk:=hDx HF.out.2.1;have HJ0:=hDx HF.out.2.2;clear hjl hq g1 g2 g3 g4 g5 g6 hll hab hAt h1 hsn HF
    gi_wp2_with fail
    refine ⟨by first | trivial | omega,fun _=>by omega,?_⟩;refine (callsIn_wide.2 (HC.out _)).mono ?_;rintro e w5 ⟨rfl,hb5⟩;have hL5:=HLk.out.below hb5;have hJ5:=HJ.out (R.take j) wr w5 none HJ0.out (W.grownBy_of_below hb5) (fun r e=>by cases e);have hs5:base≤w5.heap.size:=Nat.le_trans hbw hb5.size;have HL5:=hDx hL5;have HJ5:=hDx hJ5;clear hb5 hL5 hJ5 z1 k0 k1 k2 HLk HJ0;obtain ⟨gb,hgb⟩ : ∃ gb,w5.heap.size=gb:=⟨_,rfl⟩;obtain ⟨w6,hw6⟩ : ∃ w6,w5.alloc (.cells #[.int .i32 c1,.int .i64 c2,.int .i64 c3] 118)=w6:=⟨_,rfl⟩;have hnew:w6.heap[gb]?=some (.cells #[.int .i32 c1,.int .i64 c2,.int .i64 c3] 118 (0,0)):=by rw [← hw6,← hgb]; exact heap_alloc_new w5 _
    have hb6:Below w5.heap.size w5 w6:=by rw [← hw6]; exact (Below.refl _ _).alloc (Nat.le_refl _) _
    have hL6:=HL5.out.below hb6;have hJ6:=HJ.out (R.take j) w5 w6 none HJ5.out (W.grownBy_of_below hb6) (fun r e=>by cases e);have hs6:base≤w6.heap.size:=Nat.le_trans hs5 hb6.size;have H6:Hid (w6.heap[gb]?=some (.cells #[.int .i32 c1,.int .i64 c2,.int .i64 c3] 118 (0,0))∧LooksR B (some ⟨ab,ao,none⟩) len cap l w6∧J (R.take j) w6):=hDx ⟨hnew,hL6,hJ6⟩;have HW6:=hDx hw6;have HGb:=hDx hgb;clear hgb hw6 hnew hb6 hL6 hJ6 HL5 HJ5
    gi_wp2_with fail
    rw [HW6.out,HGb.out]
    gi_loopw [5] (fun i wr=>∃ t:Nat,i=.int .i64 (t:Int)∧x<t∧t≤len∧base≤wr.heap.size∧Hid (t≤x+k∧wr.heap[gb]?=some (.cells #[.int .i32 c1,.int .i64 c2,.int .i64 c3] 118 (0,0))∧LooksR B (some ⟨ab,ao,none⟩) len cap l wr∧J (R.take j) wr)) (fun i _=>len - (intOf i).toNat)
    case atStart=>exact ⟨x+1,by go_num,by omega,by omega,hs6,hDx ⟨by have:=HGs.out.1; omega,H6.out⟩⟩
    case round =>
     obtain ⟨t,rfl,hxt,htl,hbi,HI⟩ := hrel;have y1:=HI.out.2.2.1.bl.cell;have z1:=fun d os=>cell_regrown y1 d os
     by_cases htlt:t<len
     · have hdt:decide (t<len)=true:=decide_eq_true htlt;have htI:(t:Int)<len:=by omega
       have htll:t<l.length:=by rw [← HLn.out]; exact htlt
       have hll:l≠[]:=by rintro rfl; simp at htll
       obtain ⟨ab',ao',hea,hab,hAt⟩ := HI.out.2.2.1.cl.at_.resolve_left hll;obtain ⟨rfl,rfl⟩ : ab=ab'∧ao=ao':=by injection hea with e; injection e with e1 e2; exact ⟨e1,e2⟩
       have h1:=hAt t l[t] (List.getElem?_eq_getElem htll);have hokt:=HOk.out l[t] (List.getElem_mem htll);have hlt?:l[t]?=some l[t]:=List.getElem?_eq_getElem htll;obtain ⟨⟨d1,d2,d3⟩,hdd⟩ : ∃ d,l[t]=d:=⟨_,rfl⟩;rw [hdd] at h1 hokt hlt?;have k0:=fun d os=>cell_regrown h1.c0 d os
       have k1:=fun d os=>cell_regrown h1.c1 d os
       have k2:=fun d os=>cell_regrown h1.c2 d os
       simp only at k0 k1 k2;have n0:wr.cell? ⟨gb,0,none⟩=some (.int .i32 c1):=by rw [cell_block HI.out.2.1]; rfl
       have n1:wr.cell? ⟨gb,1,none⟩=some (.int .i64 c2):=by rw [cell_block HI.out.2.1]; rfl
       have n2:wr.cell? ⟨gb,2,none⟩=some (.int .i64 c3):=by rw [cell_block HI.out.2.1]; rfl
       have q0:=fun d os=>cell_regrown n0 d os
       have q1:=fun d os=>cell_regrown n1 d os
       have q2:=fun d os=>cell_regrown n2 d os
       have cF:∀ d os,Calls Tryd.prog 87 #[.agg #[.int .i32 d1,.int .i64 d2,.int .i64 d3]] (Go.Sort.grow (redrawn wr d) os) fun en w''=>en=.returned (.agg #[.int .i32 d1,.int .i64 d2,.int .i64 d3])∧∃ p:Regrown,w''=Go.Sort.grow (redrawn wr p.d) p.os:=fun d os=>Calls.regrown_of (counted_any d1 d2 d3 hokt.1.1 hokt.2.1.1 hokt.2.2.1 _)
       have CF:=hDx cF;have hEq:((⟨d1,d2,d3⟩ : Cel)=⟨c1,c2,c3⟩)↔t<x+k:=by
        constructor
        · intro e;rcases Nat.lt_or_ge t (x+k) with h | h
          · exact h
          · have h0:t=x+k:=by have:=HI.out.1; omega
            have:=HGs.out.2.2.2.2;rw [← h0,hlt?,e] at this;exact absurd rfl this
        · intro h;have:=HGs.out.2.2.2.1 (t - x) (by omega);rw [show x+(t - x)=t by omega,hlt?] at this;exact Option.some.inj this
       clear htll hll hea hab hAt h1 hokt hlt? hdd n0 n1 n2 cF;by_cases hce:t<x+k
       · have htk:t+1≤x+k:=hce;have he:=hEq.2 hce;injection he with e1 e2 e3
         have e1':=e1.symm;have e2':=e2.symm;have e3':=e3.symm;clear e1 e2 e3;subst e1' e2' e3';clear hEq hce
         gi_wp2_with fail
         rw [wpIn_wide];refine wp_region_quiet_below (by kernel_rfl) (by kernel_rfl) ?_
         repeat (go_big_quiet_step (exact CF.out _ _))
         refine wpQuiet_nil ?_;intro _ hw';obtain ⟨⟨dq,osq⟩,hw''⟩ := hw';have hb9:=below_regrown wr dq osq;obtain ⟨w9,hw9⟩ : ∃ w9,Go.Sort.grow (redrawn wr dq) osq=w9:=⟨_,rfl⟩;rw [hw''];simp only;rw [hw9] at hb9 ⊢;have hL9:=HI.out.2.2.1.below hb9;have hJ9:=HJ.out (R.take j) wr w9 none HI.out.2.2.2 (W.grownBy_of_below hb9) (fun r e=>by cases e);have hn9:=(hb9.block gb (gSx.1 HI.out.2.1).1).trans HI.out.2.1;have hs9:base≤w9.heap.size:=Nat.le_trans hbi hb9.size;have HE:Hid (t+1≤x+k∧w9.heap[gb]?=some (.cells #[.int .i32 c1,.int .i64 c2,.int .i64 c3] 118 (0,0))∧LooksR B (some ⟨ab,ao,none⟩) len cap l w9∧J (R.take j) w9):=hDx ⟨htk,hn9,hL9,hJ9⟩;clear hw'' hw9 hb9 hL9 hJ9 hn9 HI z1 CF k0 k1 k2 q0 q1 q2 y1
         gi_wp2_with fail
         go_roundw
         case rel=>exact ⟨t+1,by go_num,by omega,by omega,hs9,HE⟩
         case measure=>simp [intOf]; omega
       · have HTx:Hid (t=x+k):=hDx (by have:=HI.out.1; omega);have hne:¬ ((⟨d1,d2,d3⟩ : Cel)=⟨c1,c2,c3⟩):=fun e=>hce (hEq.1 e)
         clear hEq hce;by_cases e1:d1=c1
         · have e1':=e1.symm;clear e1;subst e1';by_cases e2:d2=c2
           · have e2':=e2.symm;clear e2;subst e2';have e3:¬ d3=c3:=fun e=>hne (by rw [e])
             clear hne
             gi_wp2_with fail
             rw [wpIn_wide];refine wp_region_quiet_below (by kernel_rfl) (by kernel_rfl) ?_
             repeat (go_big_quiet_step (exact CF.out _ _))
             refine wpQuiet_nil ?_;intro _ hw';obtain ⟨⟨dq,osq⟩,hw''⟩ := hw';have hb9:=below_regrown wr dq osq;obtain ⟨w9,hw9⟩ : ∃ w9,Go.Sort.grow (redrawn wr dq) osq=w9:=⟨_,rfl⟩;rw [hw''];simp only;rw [hw9] at hb9 ⊢;have hL9:=HI.out.2.2.1.below hb9;have hJ9:=HJ.out (R.take j) wr w9 none HI.out.2.2.2 (W.grownBy_of_below hb9) (fun r e=>by cases e);have hn9:=(hb9.block gb (gSx.1 HI.out.2.1).1).trans HI.out.2.1;have hs9:base≤w9.heap.size:=Nat.le_trans hbi hb9.size;have H9:Hid (w9.heap[gb]?=some (.cells #[.int .i32 c1,.int .i64 c2,.int .i64 c3] 118 (0,0))∧LooksR B (some ⟨ab,ao,none⟩) len cap l w9∧J (R.take j) w9):=hDx ⟨hn9,hL9,hJ9⟩;clear hw'' hw9 hb9 hL9 hJ9 hn9 HI z1 CF k0 k1 k2 q0 q1 q2 y1;obtain ⟨fn,tmps,assign,body,hy,hR⟩ := HY.out (R.take j) ⟨(k,⟨c1,c2,c3⟩),hqk⟩ w9 H9.out.2.2 (by rw [List.length_take]; have:=HJl.out; omega);rw [← HSn.out] at hR
             have hec:encQ ⟨(k,⟨c1,c2,c3⟩),hqk⟩=#[.agg #[.int .i64 ((t:Int) - (x:Int)),.int .i32 c1,.int .i64 c2,.int .i64 c3]]:=by unfold encQ; simp only; rw [show ((t:Int) - (x:Int))=(k:Int) by have:=HTx.out; omega]
             rw [hec] at hy;have p0:w9.cell? ⟨gb,0,none⟩=some (.int .i32 c1):=by rw [cell_block H9.out.1]; rfl
             have p1:w9.cell? ⟨gb,1,none⟩=some (.int .i64 c2):=by rw [cell_block H9.out.1]; rfl
             have p2:w9.cell? ⟨gb,2,none⟩=some (.int .i64 c3):=by rw [cell_block H9.out.1]; rfl
             have HR':=hDx hR;clear hR hec
             gi_wp2_with fail
             refine ⟨fun _=>by omega,HR'.out.mono ?_⟩;rintro e V' (⟨rfl,hJ',hkp⟩ | ⟨rfl,hJx'⟩)
             · have HE:Hid (t=atR (valR R) (j+1)∧LooksR B (some ⟨ab,ao,none⟩) len cap l V'∧J (R.take (j+1)) V'):=hDx ⟨by rw [HGs.out.2.1]; exact HTx.out,H9.out.2.1.keep hkp,hJ'⟩;have hb10:base≤V'.heap.size:=Nat.le_trans hs9 hkp.1;have hjn:j+1≤R.length:=HJl.out;have htl:t≤len:=by have:=HGs.out.2.2.1; have:=HTx.out; omega
               have hxt:x<t:=by have:=HGs.out.1; have:=HTx.out; omega
               clear hJ' hkp p0 p1 p2
               gi_wp2_with fail
               go_roundw
               case rel=>exact ⟨t,j+1,by go_num,htl,hjn,hb10,HE⟩
               case measure=>simp [intOf]; omega
             · have hend:Hid (∀ v,P (.returned v) V'):=hDx (fun v=>by
                rw [← HP.out];exact ⟨⟨_,rfl⟩,.inr ⟨_,⟨j+1,HJl.out,rfl⟩,hJx'⟩⟩)
               clear hJx' p0 p1 p2
               gi_wp2_with fail
               exact bodyPost_ret (results_none rfl _ _ _) rfl (hend.out _)
           · clear hne
             gi_wp2_with fail
             rw [wpIn_wide];refine wp_region_quiet_below (by kernel_rfl) (by kernel_rfl) ?_
             repeat (go_big_quiet_step (exact CF.out _ _))
             refine wpQuiet_nil ?_;intro _ hw';obtain ⟨⟨dq,osq⟩,hw''⟩ := hw';have hb9:=below_regrown wr dq osq;obtain ⟨w9,hw9⟩ : ∃ w9,Go.Sort.grow (redrawn wr dq) osq=w9:=⟨_,rfl⟩;rw [hw''];simp only;rw [hw9] at hb9 ⊢;have hL9:=HI.out.2.2.1.below hb9;have hJ9:=HJ.out (R.take j) wr w9 none HI.out.2.2.2 (W.grownBy_of_below hb9) (fun r e=>by cases e);have hn9:=(hb9.block gb (gSx.1 HI.out.2.1).1).trans HI.out.2.1;have hs9:base≤w9.heap.size:=Nat.le_trans hbi hb9.size;have H9:Hid (w9.heap[gb]?=some (.cells #[.int .i32 c1,.int .i64 c2,.int .i64 c3] 118 (0,0))∧LooksR B (some ⟨ab,ao,none⟩) len cap l w9∧J (R.take j) w9):=hDx ⟨hn9,hL9,hJ9⟩;clear hw'' hw9 hb9 hL9 hJ9 hn9 HI z1 CF k0 k1 k2 q0 q1 q2 y1;obtain ⟨fn,tmps,assign,body,hy,hR⟩ := HY.out (R.take j) ⟨(k,⟨c1,c2,c3⟩),hqk⟩ w9 H9.out.2.2 (by rw [List.length_take]; have:=HJl.out; omega);rw [← HSn.out] at hR
             have hec:encQ ⟨(k,⟨c1,c2,c3⟩),hqk⟩=#[.agg #[.int .i64 ((t:Int) - (x:Int)),.int .i32 c1,.int .i64 c2,.int .i64 c3]]:=by unfold encQ; simp only; rw [show ((t:Int) - (x:Int))=(k:Int) by have:=HTx.out; omega]
             rw [hec] at hy;have p0:w9.cell? ⟨gb,0,none⟩=some (.int .i32 c1):=by rw [cell_block H9.out.1]; rfl
             have p1:w9.cell? ⟨gb,1,none⟩=some (.int .i64 c2):=by rw [cell_block H9.out.1]; rfl
             have p2:w9.cell? ⟨gb,2,none⟩=some (.int .i64 c3):=by rw [cell_block H9.out.1]; rfl
             have HR':=hDx hR;clear hR hec
             gi_wp2_with fail
             refine ⟨fun _=>by omega,HR'.out.mono ?_⟩;rintro e V' (⟨rfl,hJ',hkp⟩ | ⟨rfl,hJx'⟩)
             · have HE:Hid (t=atR (valR R) (j+1)∧LooksR B (some ⟨ab,ao,none⟩) len cap l V'∧J (R.take (j+1)) V'):=hDx ⟨by rw [HGs.out.2.1]; exact HTx.out,H9.out.2.1.keep hkp,hJ'⟩;have hb10:base≤V'.heap.size:=Nat.le_trans hs9 hkp.1;have hjn:j+1≤R.length:=HJl.out;have htl:t≤len:=by have:=HGs.out.2.2.1; have:=HTx.out; omega
               have hxt:x<t:=by have:=HGs.out.1; have:=HTx.out; omega
               clear hJ' hkp p0 p1 p2
               gi_wp2_with fail
               go_roundw
               case rel=>exact ⟨t,j+1,by go_num,htl,hjn,hb10,HE⟩
               case measure=>simp [intOf]; omega
             · have hend:Hid (∀ v,P (.returned v) V'):=hDx (fun v=>by
                rw [← HP.out];exact ⟨⟨_,rfl⟩,.inr ⟨_,⟨j+1,HJl.out,rfl⟩,hJx'⟩⟩)
               clear hJx' p0 p1 p2
               gi_wp2_with fail
               exact bodyPost_ret (results_none rfl _ _ _) rfl (hend.out _)
         · clear hne
           gi_wp2_with fail
           rw [wpIn_wide];refine wp_region_quiet_below (by kernel_rfl) (by kernel_rfl) ?_
           repeat (go_big_quiet_step (exact CF.out _ _))
           refine wpQuiet_nil ?_;intro _ hw';obtain ⟨⟨dq,osq⟩,hw''⟩ := hw';have hb9:=below_regrown wr dq osq;obtain ⟨w9,hw9⟩ : ∃ w9,Go.Sort.grow (redrawn wr dq) osq=w9:=⟨_,rfl⟩;rw [hw''];simp only;rw [hw9] at hb9 ⊢;have hL9:=HI.out.2.2.1.below hb9;have hJ9:=HJ.out (R.take j) wr w9 none HI.out.2.2.2 (W.grownBy_of_below hb9) (fun r e=>by cases e);have hn9:=(hb9.block gb (gSx.1 HI.out.2.1).1).trans HI.out.2.1;have hs9:base≤w9.heap.size:=Nat.le_trans hbi hb9.size;have H9:Hid (w9.heap[gb]?=some (.cells #[.int .i32 c1,.int .i64 c2,.int .i64 c3] 118 (0,0))∧LooksR B (some ⟨ab,ao,none⟩) len cap l w9∧J (R.take j) w9):=hDx ⟨hn9,hL9,hJ9⟩;clear hw'' hw9 hb9 hL9 hJ9 hn9 HI z1 CF k0 k1 k2 q0 q1 q2 y1;obtain ⟨fn,tmps,assign,body,hy,hR⟩ := HY.out (R.take j) ⟨(k,⟨c1,c2,c3⟩),hqk⟩ w9 H9.out.2.2 (by rw [List.length_take]; have:=HJl.out; omega);rw [← HSn.out] at hR
           have hec:encQ ⟨(k,⟨c1,c2,c3⟩),hqk⟩=#[.agg #[.int .i64 ((t:Int) - (x:Int)),.int .i32 c1,.int .i64 c2,.int .i64 c3]]:=by unfold encQ; simp only; rw [show ((t:Int) - (x:Int))=(k:Int) by have:=HTx.out; omega]
           rw [hec] at hy;have p0:w9.cell? ⟨gb,0,none⟩=some (.int .i32 c1):=by rw [cell_block H9.out.1]; rfl
           have p1:w9.cell? ⟨gb,1,none⟩=some (.int .i64 c2):=by rw [cell_block H9.out.1]; rfl
           have p2:w9.cell? ⟨gb,2,none⟩=some (.int .i64 c3):=by rw [cell_block H9.out.1]; rfl
           have HR':=hDx hR;clear hR hec
           gi_wp2_with fail
           refine ⟨fun _=>by omega,HR'.out.mono ?_⟩;rintro e V' (⟨rfl,hJ',hkp⟩ | ⟨rfl,hJx'⟩)
           · have HE:Hid (t=atR (valR R) (j+1)∧LooksR B (some ⟨ab,ao,none⟩) len cap l V'∧J (R.take (j+1)) V'):=hDx ⟨by rw [HGs.out.2.1]; exact HTx.out,H9.out.2.1.keep hkp,hJ'⟩;have hb10:base≤V'.heap.size:=Nat.le_trans hs9 hkp.1;have hjn:j+1≤R.length:=HJl.out;have htl:t≤len:=by have:=HGs.out.2.2.1; have:=HTx.out; omega
             have hxt:x<t:=by have:=HGs.out.1; have:=HTx.out; omega
             clear hJ' hkp p0 p1 p2
             gi_wp2_with fail
             go_roundw
             case rel=>exact ⟨t,j+1,by go_num,htl,hjn,hb10,HE⟩
             case measure=>simp [intOf]; omega
           · have hend:Hid (∀ v,P (.returned v) V'):=hDx (fun v=>by
              rw [← HP.out];exact ⟨⟨_,rfl⟩,.inr ⟨_,⟨j+1,HJl.out,rfl⟩,hJx'⟩⟩)
             clear hJx' p0 p1 p2
             gi_wp2_with fail
             exact bodyPost_ret (results_none rfl _ _ _) rfl (hend.out _)
     · have HTx:Hid (t=x+k):=hDx (by have:=HI.out.1; have:=HGs.out.2.2.1; omega);have hdt:decide (t<len)=false:=decide_eq_false htlt;have CF:Hid (∀ (d os:Unit),True):=hDx (fun _ _=>trivial)
       gi_wp2_with fail
       rw [wpIn_wide];refine wp_region_quiet_below (by kernel_rfl) (by kernel_rfl) ?_
       repeat (go_big_quiet_step (fail))
       refine wpQuiet_nil ?_;intro _ hw';obtain ⟨⟨dq,osq⟩,hw''⟩ := hw';have hb9:=below_regrown wr dq osq;obtain ⟨w9,hw9⟩ : ∃ w9,Go.Sort.grow (redrawn wr dq) osq=w9:=⟨_,rfl⟩;rw [hw''];simp only;rw [hw9] at hb9 ⊢;have hL9:=HI.out.2.2.1.below hb9;have hJ9:=HJ.out (R.take j) wr w9 none HI.out.2.2.2 (W.grownBy_of_below hb9) (fun r e=>by cases e);have hn9:=(hb9.block gb (gSx.1 HI.out.2.1).1).trans HI.out.2.1;have hs9:base≤w9.heap.size:=Nat.le_trans hbi hb9.size;have H9:Hid (w9.heap[gb]?=some (.cells #[.int .i32 c1,.int .i64 c2,.int .i64 c3] 118 (0,0))∧LooksR B (some ⟨ab,ao,none⟩) len cap l w9∧J (R.take j) w9):=hDx ⟨hn9,hL9,hJ9⟩;clear hw'' hw9 hb9 hL9 hJ9 hn9 HI z1 CF y1;obtain ⟨fn,tmps,assign,body,hy,hR⟩ := HY.out (R.take j) ⟨(k,⟨c1,c2,c3⟩),hqk⟩ w9 H9.out.2.2 (by rw [List.length_take]; have:=HJl.out; omega);rw [← HSn.out] at hR
       have hec:encQ ⟨(k,⟨c1,c2,c3⟩),hqk⟩=#[.agg #[.int .i64 ((t:Int) - (x:Int)),.int .i32 c1,.int .i64 c2,.int .i64 c3]]:=by unfold encQ; simp only; rw [show ((t:Int) - (x:Int))=(k:Int) by have:=HTx.out; omega]
       rw [hec] at hy;have p0:w9.cell? ⟨gb,0,none⟩=some (.int .i32 c1):=by rw [cell_block H9.out.1]; rfl
       have p1:w9.cell? ⟨gb,1,none⟩=some (.int .i64 c2):=by rw [cell_block H9.out.1]; rfl
       have p2:w9.cell? ⟨gb,2,none⟩=some (.int .i64 c3):=by rw [cell_block H9.out.1]; rfl
       have HR':=hDx hR;clear hR hec
       gi_wp2_with fail
       refine ⟨fun _=>by omega,HR'.out.mono ?_⟩;rintro e V' (⟨rfl,hJ',hkp⟩ | ⟨rfl,hJx'⟩)
       · have HE:Hid (t=atR (valR R) (j+1)∧LooksR B (some ⟨ab,ao,none⟩) len cap l V'∧J (R.take (j+1)) V'):=hDx ⟨by rw [HGs.out.2.1]; exact HTx.out,H9.out.2.1.keep hkp,hJ'⟩;have hb10:base≤V'.heap.size:=Nat.le_trans hs9 hkp.1;have hjn:j+1≤R.length:=HJl.out;have htl:t≤len:=by have:=HGs.out.2.2.1; have:=HTx.out; omega
         have hxt:x<t:=by have:=HGs.out.1; have:=HTx.out; omega
         clear hJ' hkp p0 p1 p2
         gi_wp2_with fail
         go_roundw
         case rel=>exact ⟨t,j+1,by go_num,htl,hjn,hb10,HE⟩
         case measure=>simp [intOf]; omega
       · have hend:Hid (∀ v,P (.returned v) V'):=hDx (fun v=>by
          rw [← HP.out];exact ⟨⟨_,rfl⟩,.inr ⟨_,⟨j+1,HJl.out,rfl⟩,hJx'⟩⟩)
         clear hJx' p0 p1 p2
         gi_wp2_with fail
         exact bodyPost_ret (results_none rfl _ _ _) rfl (hend.out _)
  · obtain rfl:j=R.length:=by omega
    have hxe:x=len:=by rw [HF.out.1,← HVl.out,atR_end,HR.out,HLn.out]
    have hd:decide (x<len)=false:=decide_eq_false (by omega);have hend:Hid (∀ v,P (.returned v) wr):=hDx (fun v=>by
     rw [← HP.out];exact ⟨⟨_,rfl⟩,.inl ⟨R,rfl,by have:=HF.out.2.2; rw [List.take_length] at this; exact this⟩⟩)
    clear HF hjl hxe
    gi_wp2_with fail
    exact bodyPost_ret (results_none rfl _ _ _) rfl (hend.out _)
end Go.Proofs.YtagolklnjhpbdaaDoor.K
