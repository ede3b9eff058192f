import Derived.Test.YtagolklnjhpbdaaDoorMerged0
import Derived.Test.YtagolklnjhpbdaaDoorMerged20
import Derived.Test.YtagolklnjhpbdaaDoorNRfM
import Derived.Test.YtagolklnjhpbdaaDoorNRfP
import Derived.Test.YtagolklnjhpbdaaDoorMerged15
import Derived.Test.YtagolklnjhpbdaaDoorMerged23
import Derived.Test.YtagolklnjhpbdaaDoorMerged17
namespace Go.Proofs.YtagolklnjhpbdaaDoor.K
open Go.RowKit Go.Proofs.YtagolklnjhpbdaaDoor.I
theorem readR_len (st:Sta) (w:Nat):(readR st w).2.l.length≤w:=by
 by_cases h:(readR st w).1.2=0
 · rw [(readR_zero h).2.2.2]; exact Nat.le_refl _
 · have h':¬ (rowS (w+1) w (atS st 1).1 none).1.2=0:=h;unfold readR;rw [if_neg h'];exact Nat.zero_le _
theorem okC_rng {l:List Cel} (h:AllC okC l):AllC Rng l:=fun c hc=>by
 have:=(h c hc).1;unfold Rng;omega
end Go.Proofs.YtagolklnjhpbdaaDoor.K

namespace Go.Proofs.YtagolklnjhpbdaaDoor.K
open Go.Proofs.YtagolklnjhpbdaaDoor.R (agree_frame wp_region_kept)
open Go.RowKit Go.Proofs.YtagolklnjhpbdaaDoor.I
theorem flat_take {l:List Int} (k:Nat) (h:k<l.length):(l.take (k+1)).flatMap numB=(l.take k).flatMap numB++numB l[k]:=by
 rw [List.take_succ_eq_append_getElem h,List.flatMap_append];simp
theorem flat_nums (l:List Int):(l.flatMap numB).length≤9*l.length:=by
 induction l with
 | nil=>simp
 | cons a l ih =>
  have:=numB_len a;rw [List.flatMap_cons,List.length_append,List.length_cons];omega
structure PsJ (rb:Nat) (cs:Array Value) (w u:World):Prop where
 b:Below rb w u
 h:u.heap[rb]?=some (.cells cs 32 (0,0))
theorem PsJ.below {rb:Nat} {cs:Array Value} {w u u':World} (h:PsJ rb cs w u) (hb:Below u.heap.size u u'):PsJ rb cs w u' :=
 have hl:=(gSx.1 h.h).1
 ⟨h.b.trans (hb.mono (by omega)),(hb.block rb hl).trans h.h⟩
def PsOk9 (rb:Nat) (tt st ta tb tc td:ByteArray) (sn sc:Int) (ga:Option Addr) (gn gc:Nat):Nat→Value→World→Prop
  | 0,u,_=>u=.string tt
  | 1,u,_=>u=.pointer (some ⟨rb,5,none⟩)
  | 2,u,_=>u=.string st
  | 3,u,_=>u=.string ta
  | 4,u,_=>u=.pointer (some ⟨rb,7,none⟩)
  | 5,u,_=>u=.int .i64 sn
  | 6,u,_=>u=.string tb
  | 7,u,_=>u=.string (ta++tb)
  | 8,u,_=>u=.pointer (some ⟨rb,8,none⟩)
  | 9,u,_=>u=.int .i64 sc
  | 10,u,_=>u=.string tc
  | 11,u,_=>u=.string (ta++tb++tc)
  | 12,u,_=>u=.pointer (some ⟨rb,9,none⟩)
  | 13,u,_=>u=.slice ga gn gc
  | 14,u,_=>u=.string td
  | 15,u,_=>u=.string (ta++tb++tc++td)
  | 16,u,_=>u=.string (tt++(ta++tb++tc++td))
  | 17,u,_=>u=.string (tt++(ta++tb++tc++td))
  | _,_,_=>True
set_option maxRecDepth 100000 in
set_option maxHeartbeats 16000000 in
theorem nrfpack_any (s:Sn) (ra:Option Addr) (rn rc:Nat) (ga:Option Addr) (gn gc:Nat) (w:World) (hI:SnIn .i64 ra rn rc ga gn gc s w) (hB:SnB s) :
    Calls Tryd.prog 16 #[.agg (snA s ra rn rc ga gn gc)] w fun e w'=>∃ t:ByteArray,e=.returned (.string t)∧t.data.toList=packN s∧Below w.heap.size w w':=by
 obtain ⟨rb,hrb⟩ : ∃ rb,w.heap.size=rb:=⟨_,rfl⟩;obtain ⟨P,hP⟩ : ∃ P:Ending→World→Prop,(fun e w'=>∃ t:ByteArray,e=.returned (.string t)∧t.data.toList=packN s∧Below w.heap.size w w')=P:=⟨_,rfl⟩;rw [hP];have HEnd:Hid (∀ (t:ByteArray) v,t.data.toList=packN s→Below rb w v→P (.returned (.string t)) v):=hDx (fun t v ht hv=>by rw [← hP]; exact ⟨t,rfl,ht,by rw [hrb]; exact hv⟩);have hrn:=hI.rows.len;have hgn:=hI.beg.len;have hr1:=hB.rows;have hg1:=hB.beg;have HKE:Hid (∀ v,Below rb w v→Calls Tryd.prog 42 #[.agg (snA s ra rn rc ga gn gc)] v fun e w'=>e=.returned (.bool (decide (s=emptyN)))∧Below v.heap.size v w'):=hDx (fun v _=>nrfempty_any s ra rn rc ga gn gc v hrn hgn (by omega) (by omega))
 have HKM:Hid (∀ v,Below rb w v→Calls Tryd.prog 15 #[.agg (snA s ra rn rc ga gn gc)] v fun e w'=>e=.returned (.bool (decide (MayN s)))∧Below v.heap.size v w'):=hDx (fun v hb=>nrfmay_any s ra rn rc ga gn gc v (hI.belowAll (by rw [hrb]; exact hb)) hB);obtain ⟨w1,hw1⟩ : ∃ w1,w.alloc (.cells (snA s ra rn rc ga gn gc) 32)=w1:=⟨_,rfl⟩;have hb1:Below rb w w1:=by rw [← hw1,← hrb]; exact (Below.refl _ _).alloc (Nat.le_refl _) _
 have hz1:w1.heap[rb]?=some (.cells (snA s ra rn rc ga gn gc) 32 (0,0)):=by rw [← hw1,← hrb]; exact heap_alloc_new w _
 have HIw:=hDx hI;have HSb:=hDx hB;obtain ⟨D1,hD1⟩ : ∃ D,decide (s=emptyN)=D:=⟨_,rfl⟩;obtain ⟨D2,hD2⟩ : ∃ D,decide (MayN s)=D:=⟨_,rfl⟩;rw [hD1] at HKE;rw [hD2] at HKM;have HD1:=hDx hD1;have HD2:=hDx hD2;have HE1:=hDx (HKE.out w1 hb1);have HJ1:Hid (PsJ rb (snA s ra rn rc ga gn gc) w w1):=hDx ⟨hb1,hz1⟩;have HW1:=hDx hw1;have HRb:=hDx hrb;clear hP hrn hgn hr1 hg1 hw1 hb1 hz1 hI hB hrb hD1 hD2 HKE;obtain ⟨kk,W,h,x,y,st,R,sn,sc,sB⟩ := s;unfold snA at HW1 HE1 HKM HJ1 ⊢;simp only at HW1 HE1 HKM HJ1 ⊢;obtain ⟨c0,c1,c2,c3,c4,c5,c6,c7,c8,c9⟩ := ten_cells (s:=(⟨kk,W,h,x,y,st,R,sn,sc,sB⟩ : Sn)) (ra:=ra) (rn:=rn) (rc:=rc) (ga:=ga) (gn:=gn) (gc:=gc) HJ1.out.h;simp only at c0 c1 c2 c3 c4 c5 c6 c7 c8 c9
 go_enter Tryd.func16,Tryd.ntmps16
 go_upto_region 1 with fail
 rw [HW1.out,HRb.out]
 go_wp2_with fail
 refine HE1.out.mono ?_;rintro e w2 ⟨rfl,hb2⟩;have HJ2:=hDx (HJ1.out.below hb2);have HM2:=hDx (HKM.out w2 HJ2.out.b);clear hb2 c0 c1 c2 c3 c4 c5 c6 c7 c8 c9 HE1 HKM;cases D1
 rotate_left
 · have hend:=hDx (HEnd.out ⟨#[]⟩ w2 (by rw [(packN_nil _).2 (.inl (of_decide_eq_true HD1.out))]) HJ2.out.b)
   go_wp2_with fail
   exact hend.out
 obtain ⟨c0,c1,c2,c3,c4,c5,c6,c7,c8,c9⟩ := ten_cells (s:=(⟨kk,W,h,x,y,st,R,sn,sc,sB⟩ : Sn)) (ra:=ra) (rn:=rn) (rc:=rc) (ga:=ga) (gn:=gn) (gc:=gc) HJ2.out.h;simp only at c0 c1 c2 c3 c4 c5 c6 c7 c8 c9
 go_wp2_with fail
 refine HM2.out.mono ?_;rintro e w3 ⟨rfl,hb3⟩;have HJ3:=hDx (HJ2.out.below hb3);clear hb3 c0 c1 c2 c3 c4 c5 c6 c7 c8 c9 HM2;cases D2
 · have hend:=hDx (HEnd.out ⟨#[]⟩ w3 (by rw [(packN_nil _).2 (.inr (of_decide_eq_false HD2.out))]) HJ3.out.b)
   go_wp2_with fail
   exact hend.out
 have hm:MayN (⟨kk,W,h,x,y,st,R,sn,sc,sB⟩ : Sn):=of_decide_eq_true HD2.out;have hne:(⟨kk,W,h,x,y,st,R,sn,sc,sB⟩ : Sn)≠emptyN:=of_decide_eq_false HD1.out;obtain ⟨-,hct,hsh,hbg⟩ := hm.resolve_left hne;have HPk:Hid (packN (⟨kk,W,h,x,y,st,R,sn,sc,sB⟩ : Sn)=([kk,W,h,x,y]:List Int).flatMap numB++(textB st++(numB sn++(numB sc++packG sB)))++R.flatMap packR):=hDx (by
  unfold packN;rw [if_pos ⟨hne,hm⟩];unfold rawN headB;simp only [List.flatMap_cons,List.flatMap_nil,List.append_nil,List.append_assoc])
 have HStz:Hid ((st.size:Int)≤1000):=hDx (by have:=hct.2.2.2; simp only at this; omega);have HRw:Hid (∀ q ∈ R,q.l.length≤1000):=hDx (fun q hq=>by have h1:=HSb.out.rows; have h2:=(hsh.2 q hq).1; have h3:=(hm.resolve_left hne).1.1.2; simp only at h2 h3; omega);have HGnn:Hid (sB.length≤1024):=hDx hbg.2;have HRn:Hid (R.length≤1000):=hDx HSb.out.rows;clear hm hne hct hsh hbg;obtain ⟨lb,hlb⟩ : ∃ b,w3.heap.size=b:=⟨_,rfl⟩;obtain ⟨w4,hw4⟩ : ∃ w4,w3.alloc (.cells #[.int .i64 kk,.int .i64 W,.int .i64 h,.int .i64 x,.int .i64 y] 3)=w4:=⟨_,rfl⟩;have hb4:Below w3.heap.size w3 w4:=by rw [← hw4]; exact (Below.refl _ _).alloc (Nat.le_refl _) _
 have hl4:w4.heap[lb]?=some (.cells #[.int .i64 kk,.int .i64 W,.int .i64 h,.int .i64 x,.int .i64 y] 3 (0,0)):=by rw [← hw4,← hlb]; exact heap_alloc_new w3 _
 obtain ⟨NS,hNS⟩ : ∃ l:List Int,[kk,W,h,x,y]=l:=⟨_,rfl⟩;have hn5:NS.length=5:=by rw [← hNS]; rfl
 have HLc:Hid (∀ (j:Nat) (u:World),j<5→u.heap[lb]?=some (.cells #[.int .i64 kk,.int .i64 W,.int .i64 h,.int .i64 x,.int .i64 y] 3 (0,0))→∃ z,NS[j]?=some z∧u.cell? ⟨lb,j,none⟩=some (.int .i64 z)):=hDx (fun j u hj hu=>by
  rw [← hNS];rcases j with _ | _ | _ | _ | _ | j
  · exact ⟨kk,rfl,by rw [cell_block hu]; rfl⟩
  · exact ⟨W,rfl,by rw [cell_block hu]; rfl⟩
  · exact ⟨h,rfl,by rw [cell_block hu]; rfl⟩
  · exact ⟨x,rfl,by rw [cell_block hu]; rfl⟩
  · exact ⟨y,rfl,by rw [cell_block hu]; rfl⟩
  · omega)
 have HJ4:=hDx (HJ3.out.below hb4);have HL4:=hDx hl4;have HW4:=hDx hw4;have HLb:=hDx hlb;have HN5:=hDx hn5;obtain ⟨c0,c1,c2,c3,c4,c5,c6,c7,c8,c9⟩ := ten_cells (s:=(⟨kk,W,h,x,y,st,R,sn,sc,sB⟩ : Sn)) (ra:=ra) (rn:=rn) (rc:=rc) (ga:=ga) (gn:=gn) (gc:=gc) HJ3.out.h;simp only at c0 c1 c2 c3 c4 c5 c6 c7 c8 c9;rw [hNS] at HPk;clear hb4 hl4 hw4 hlb hn5 hNS
 go_upto_region 4 with fail
 go_wp2_with fail
 rw [HW4.out,HLb.out];clear c0 c1 c2 c3 c4 c5 c6 c7 c8 c9
 go_loopw [3,27] (fun u i wr=>∃ (j:Nat) (tt:ByteArray),u=.string tt∧i=.int .i64 (j:Int)∧j≤5∧Hid (tt.data.toList=(NS.take j).flatMap numB∧PsJ rb #[.int .i64 kk,.int .i64 W,.int .i64 h,.int .i64 x,.int .i64 y,.string st,.slice ra rn rc,.int .i64 sn,.int .i64 sc,.slice ga gn gc] w wr∧wr.heap[lb]?=some (.cells #[.int .i64 kk,.int .i64 W,.int .i64 h,.int .i64 x,.int .i64 y] 3 (0,0)))) (fun _ i _=>5 - (intOf i).toNat)
 case atStart=>exact ⟨0,⟨#[]⟩,rfl,rfl,by omega,hDx ⟨rfl,HJ4.out,HL4.out⟩⟩
 case round =>
  obtain ⟨j,tt,rfl,rfl,hj,HF⟩ := hrel;by_cases hlt:j<5
  · have hd:decide (j<5)=true:=decide_eq_true hlt;have hd':decide ((j:Int)<5)=true:=decide_eq_true (by omega);have hjI:(j:Int)<5:=by omega
    obtain ⟨z,hz,k0⟩ := HLc.out j wr hlt HF.out.2.2;have hzl:j<NS.length:=by rw [HN5.out]; exact hlt
    have hze:NS[j]=z:=by rw [List.getElem?_eq_getElem hzl] at hz; exact Option.some.inj hz
    have hft:=flat_take (l:=NS) j hzl;rw [hze] at hft;have HFt:=hDx hft;have HNu:=hDx (refnum_any z wr);have hsz:tt.size≤45:=by
     have h1:=flat_nums (NS.take j);rw [← HF.out.1,List.length_take,HN5.out] at h1;have h2:tt.data.toList.length=tt.size:=rfl;omega
    have hszI:(tt.size:Int)≤45:=by omega
    clear hz hzl hze hft hlt hsz
    go_wp2_with fail
    refine HNu.out.mono ?_;rintro e w5 ⟨t1,rfl,ht1,hb5⟩;have ht1s:(t1.size:Int)≤9:=by
     have h1:=numB_len z;unfold numB at h1;rw [← ht1] at h1;have h2:t1.data.toList.length=t1.size:=rfl;omega
    have HE:Hid ((tt++t1).data.toList=(NS.take (j+1)).flatMap numB∧PsJ rb #[.int .i64 kk,.int .i64 W,.int .i64 h,.int .i64 x,.int .i64 y,.string st,.slice ra rn rc,.int .i64 sn,.int .i64 sc,.slice ga gn gc] w w5∧w5.heap[lb]?=some (.cells #[.int .i64 kk,.int .i64 W,.int .i64 h,.int .i64 x,.int .i64 y] 3 (0,0))):=hDx ⟨by rw [append_list,HF.out.1,HFt.out,ht1]; rfl,HF.out.2.1.below hb5,(hb5.block lb (gSx.1 HF.out.2.2).1).trans HF.out.2.2⟩;clear k0 ht1 hb5 HF
    go_wp2_with fail
    go_roundw
    case rel=>exact ⟨j+1,tt++t1,rfl,by go_num,by omega,HE⟩
    case measure=>simp [intOf]; omega
  · obtain rfl:j=5:=by omega
    have hd:decide (5<5)=false:=by simp
    have hd':decide (((5:Nat):Int)<5)=false:=by simp
    obtain ⟨wg,hwg⟩ : ∃ wg,wr=wg:=⟨_,rfl⟩;rw [hwg] at HF ⊢;clear hwg;have HZg:=hDx HF.out.2.1.h;have HLtg:Hid (rb<wg.heap.size):=hDx (gSx.1 HF.out.2.1.h).1;have HGp:=hDx (HIw.out.beg.belowAll (show Below w.heap.size w wg from by rw [HRb.out]; exact HF.out.2.1.b));have HGn:Hid (gn≤1024):=hDx (by have h1:=HIw.out.beg.len; have h2:=HGnn.out; (try simp only at h1); omega);obtain ⟨ta,hta⟩ : ∃ t:ByteArray,t=⟨(textB st).toArray⟩ := ⟨_,rfl⟩;obtain ⟨tb,htb⟩ : ∃ t:ByteArray,t=⟨(numB sn).toArray⟩ := ⟨_,rfl⟩;obtain ⟨tc,htc⟩ : ∃ t:ByteArray,t=⟨(numB sc).toArray⟩ := ⟨_,rfl⟩;obtain ⟨td,htd⟩ : ∃ t:ByteArray,t=⟨(packG sB).toArray⟩ := ⟨_,rfl⟩;have Hta:Hid (ta.data.toList=textB st):=hDx (by rw [hta]);have Htb:Hid (tb.data.toList=numB sn):=hDx (by rw [htb]);have Htc:Hid (tc.data.toList=numB sc):=hDx (by rw [htc]);have Htd:Hid (td.data.toList=packG sB):=hDx (by rw [htd])
    have HSz:Hid ((tt.size:Int)≤45∧(ta.size:Int)≤1100∧(tb.size:Int)≤9∧(tc.size:Int)≤9∧(td.size:Int)≤100000):=hDx (by
     have e1:tt.data.toList.length=tt.size:=rfl;have e2:ta.data.toList.length=ta.size:=rfl;have e3:tb.data.toList.length=tb.size:=rfl;have e4:tc.data.toList.length=tc.size:=rfl;have e5:td.data.toList.length=td.size:=rfl;rw [HF.out.1] at e1;rw [Hta.out] at e2;rw [Htb.out] at e3;rw [Htc.out] at e4;rw [Htd.out] at e5;have a1:=flat_nums (NS.take 5);rw [List.length_take,HN5.out] at a1;have a2:=textB_len st;have a3:=numB_len sn;have a4:=numB_len sc;have a5:=packG_len sB;have a6:=HGnn.out;have a7:=HStz.out;refine ⟨by omega,by omega,by omega,by omega,by omega⟩)
    have HF5:Hid ((tt++(ta++tb++tc++td)).data.toList=NS.flatMap numB++(textB st++(numB sn++(numB sc++packG sB)))):=hDx (by
     rw [append_list,append_list,append_list,append_list,HF.out.1,Hta.out,Htb.out,Htc.out,Htd.out,List.take_of_length_le (by rw [HN5.out]; exact Nat.le_refl _)];simp only [List.append_assoc])
    have HJg:=hDx HF.out.2.1;clear hta htb htc htd HF
    go_upto_region 9 with fail
    clear hd hd' hlt;refine wp_region_kept [] [0,0,0,0,0,0,0,0,0,0,0,0,0,0,0,0,0,0] (by kernel_rfl) (fun _ _ u=>Below wg.heap.size wg u) (fun u u2=>Below u.heap.size u u2) (PsOk9 rb tt st ta tb tc td sn sc ga gn gc) (by rfl) (by kernel_rfl) (by kernel_rfl) (by kernel_rfl) (by kernel_rfl) ?hcong ?hOk ?hop ?hdone ?h0
    case hcong=>exact fun k f f2 u hs hst=>hst
    case hOk=>intro i u w1 w2 h hr; unfold PsOk9 at h ⊢; split <;> first | exact True.intro | exact h
    case h0=>exact (Below.refl _ _).drew
    case hop =>
     refine ⟨?_,?_,?_,?_,?_,?_,?_,?_,?_,?_,?_,?_,?_,?_,?_,?_,?_,?_,trivial⟩
     · intro k z v hk hst hag hdep hfr;refine .inl ⟨rfl,fun K hK=>?_⟩;have d3:z.tmps.getD 3 undef=.string tt:=hfr 3 (by kernel_rfl);have e3:=gEx d3;have HSt:=hDx hst;clear hdep hfr hag hst;go_simp;exact hK _ _ (Below.refl _ _) rfl HSt.out
     · intro k z v hk hst hag hdep hfr;refine .inl ⟨rfl,fun K hK=>?_⟩;have d1:z.tmps.getD 1 undef=.pointer (some ⟨rb,0,none⟩):=hag.2.2 1 (by kernel_rfl);have e1:=gEx d1;have HSt:=hDx hst;clear hdep hfr hag hst;go_simp;exact hK _ _ (Below.refl _ _) rfl HSt.out
     · intro k z v hk hst hag hdep hfr;refine .inl ⟨rfl,fun K hK=>?_⟩;have d37:z.tmps.getD 37 undef=.pointer (some ⟨rb,5,none⟩):=hdep ⟨1,.data⟩ (by simp) rfl _ _ rfl rfl;have e37:=gEx d37;have hb:Below wg.heap.size wg v:=hst;have l5:v.cell? ⟨rb,5,none⟩=some (.string st):=by rw [cell_block ((hb.block rb HLtg.out).trans HZg.out)]; rfl
       clear hb;have HSt:=hDx hst;clear hdep hfr hag hst;go_simp;exact hK _ _ (Below.refl _ _) rfl HSt.out
     · intro k z v hk hst hag hdep hfr;refine .inl ⟨rfl,fun K hK=>?_⟩;have d38:z.tmps.getD 38 undef=.string st:=hdep ⟨2,.data⟩ (by simp) rfl _ _ rfl rfl;have e38:=gEx d38;have hb:Below wg.heap.size wg v:=hst;have HCa:=hDx (reftextw_any st HStz.out v);have HBv:=hDx hb;clear hdep hfr hag hst hb;go_simp;refine HCa.out.mono ?_;rintro e w' ⟨u,rfl,hu,hb2⟩;obtain rfl:u=ta:=bytes_eqN (by rw [hu,Hta.out] <;> rfl);exact hK _ _ hb2 rfl (HBv.out.trans (hb2.mono HBv.out.size))
     · intro k z v hk hst hag hdep hfr;refine .inl ⟨rfl,fun K hK=>?_⟩;have d1:z.tmps.getD 1 undef=.pointer (some ⟨rb,0,none⟩):=hag.2.2 1 (by kernel_rfl);have e1:=gEx d1;have HSt:=hDx hst;clear hdep hfr hag hst;go_simp;exact hK _ _ (Below.refl _ _) rfl HSt.out
     · intro k z v hk hst hag hdep hfr;refine .inl ⟨rfl,fun K hK=>?_⟩;have d40:z.tmps.getD 40 undef=.pointer (some ⟨rb,7,none⟩):=hdep ⟨4,.data⟩ (by simp) rfl _ _ rfl rfl;have e40:=gEx d40;have hb:Below wg.heap.size wg v:=hst;have l7:v.cell? ⟨rb,7,none⟩=some (.int .i64 sn):=by rw [cell_block ((hb.block rb HLtg.out).trans HZg.out)]; rfl
       clear hb;have HSt:=hDx hst;clear hdep hfr hag hst;go_simp;exact hK _ _ (Below.refl _ _) rfl HSt.out
     · intro k z v hk hst hag hdep hfr;refine .inl ⟨rfl,fun K hK=>?_⟩;have d41:z.tmps.getD 41 undef=.int .i64 sn:=hdep ⟨5,.data⟩ (by simp) rfl _ _ rfl rfl;have e41:=gEx d41;have hb:Below wg.heap.size wg v:=hst;have HCa:=hDx (refnum_any sn v);have HBv:=hDx hb;clear hdep hfr hag hst hb;go_simp;refine HCa.out.mono ?_;rintro e w' ⟨u,rfl,hu,hb2⟩;obtain rfl:u=tb:=bytes_eqN (by rw [hu,Htb.out] <;> rfl);exact hK _ _ hb2 rfl (HBv.out.trans (hb2.mono HBv.out.size))
     · intro k z v hk hst hag hdep hfr;refine .inl ⟨rfl,fun K hK=>?_⟩;have d39:z.tmps.getD 39 undef=.string ta:=hdep ⟨3,.data⟩ (by simp) rfl _ _ rfl rfl;have e39:=gEx d39;have d42:z.tmps.getD 42 undef=.string tb:=hdep ⟨6,.data⟩ (by simp) rfl _ _ rfl rfl;have e42:=gEx d42;have HSt:=hDx hst;obtain ⟨l91,l92,l93,l94,l95⟩ := HSz.out;clear hdep hfr hag hst;go_simp;rw [if_neg (by (try simp only [ByteArray.size_append]); omega)];exact hK _ _ (Below.refl _ _) rfl HSt.out
     · intro k z v hk hst hag hdep hfr;refine .inl ⟨rfl,fun K hK=>?_⟩;have d1:z.tmps.getD 1 undef=.pointer (some ⟨rb,0,none⟩):=hag.2.2 1 (by kernel_rfl);have e1:=gEx d1;have HSt:=hDx hst;clear hdep hfr hag hst;go_simp;exact hK _ _ (Below.refl _ _) rfl HSt.out
     · intro k z v hk hst hag hdep hfr;refine .inl ⟨rfl,fun K hK=>?_⟩;have d44:z.tmps.getD 44 undef=.pointer (some ⟨rb,8,none⟩):=hdep ⟨8,.data⟩ (by simp) rfl _ _ rfl rfl;have e44:=gEx d44;have hb:Below wg.heap.size wg v:=hst;have l8:v.cell? ⟨rb,8,none⟩=some (.int .i64 sc):=by rw [cell_block ((hb.block rb HLtg.out).trans HZg.out)]; rfl
       clear hb;have HSt:=hDx hst;clear hdep hfr hag hst;go_simp;exact hK _ _ (Below.refl _ _) rfl HSt.out
     · intro k z v hk hst hag hdep hfr;refine .inl ⟨rfl,fun K hK=>?_⟩;have d45:z.tmps.getD 45 undef=.int .i64 sc:=hdep ⟨9,.data⟩ (by simp) rfl _ _ rfl rfl;have e45:=gEx d45;have hb:Below wg.heap.size wg v:=hst;have HCa:=hDx (refnum_any sc v);have HBv:=hDx hb;clear hdep hfr hag hst hb;go_simp;refine HCa.out.mono ?_;rintro e w' ⟨u,rfl,hu,hb2⟩;obtain rfl:u=tc:=bytes_eqN (by rw [hu,Htc.out] <;> rfl);exact hK _ _ hb2 rfl (HBv.out.trans (hb2.mono HBv.out.size))
     · intro k z v hk hst hag hdep hfr;refine .inl ⟨rfl,fun K hK=>?_⟩;have d43:z.tmps.getD 43 undef=.string (ta++tb):=hdep ⟨7,.data⟩ (by simp) rfl _ _ rfl rfl;have e43:=gEx d43;have d46:z.tmps.getD 46 undef=.string tc:=hdep ⟨10,.data⟩ (by simp) rfl _ _ rfl rfl;have e46:=gEx d46;have HSt:=hDx hst;obtain ⟨l91,l92,l93,l94,l95⟩ := HSz.out;clear hdep hfr hag hst;go_simp;rw [if_neg (by (try simp only [ByteArray.size_append]); omega)];exact hK _ _ (Below.refl _ _) rfl HSt.out
     · intro k z v hk hst hag hdep hfr;refine .inl ⟨rfl,fun K hK=>?_⟩;have d1:z.tmps.getD 1 undef=.pointer (some ⟨rb,0,none⟩):=hag.2.2 1 (by kernel_rfl);have e1:=gEx d1;have HSt:=hDx hst;clear hdep hfr hag hst;go_simp;exact hK _ _ (Below.refl _ _) rfl HSt.out
     · intro k z v hk hst hag hdep hfr;refine .inl ⟨rfl,fun K hK=>?_⟩;have d48:z.tmps.getD 48 undef=.pointer (some ⟨rb,9,none⟩):=hdep ⟨12,.data⟩ (by simp) rfl _ _ rfl rfl;have e48:=gEx d48;have hb:Below wg.heap.size wg v:=hst;have l9:v.cell? ⟨rb,9,none⟩=some (.slice ga gn gc):=by rw [cell_block ((hb.block rb HLtg.out).trans HZg.out)]; rfl
       clear hb;have HSt:=hDx hst;clear hdep hfr hag hst;go_simp;exact hK _ _ (Below.refl _ _) rfl HSt.out
     · intro k z v hk hst hag hdep hfr;refine .inl ⟨rfl,fun K hK=>?_⟩;have d49:z.tmps.getD 49 undef=.slice ga gn gc:=hdep ⟨13,.data⟩ (by simp) rfl _ _ rfl rfl;have e49:=gEx d49;have hb:Below wg.heap.size wg v:=hst;have HCa:=hDx (refPack_any ga gn gc sB v (HGp.out.belowAll hb) HGn.out);have HBv:=hDx hb;clear hdep hfr hag hst hb;go_simp;refine HCa.out.mono ?_;rintro e w' ⟨u,rfl,hu,hb2⟩;obtain rfl:u=td:=bytes_eqN (by rw [hu,Htd.out] <;> rfl);exact hK _ _ hb2 rfl (HBv.out.trans (hb2.mono HBv.out.size))
     · intro k z v hk hst hag hdep hfr;refine .inl ⟨rfl,fun K hK=>?_⟩;have d47:z.tmps.getD 47 undef=.string (ta++tb++tc):=hdep ⟨11,.data⟩ (by simp) rfl _ _ rfl rfl;have e47:=gEx d47;have d50:z.tmps.getD 50 undef=.string td:=hdep ⟨14,.data⟩ (by simp) rfl _ _ rfl rfl;have e50:=gEx d50;have HSt:=hDx hst;obtain ⟨l91,l92,l93,l94,l95⟩ := HSz.out;clear hdep hfr hag hst;go_simp;rw [if_neg (by (try simp only [ByteArray.size_append]); omega)];exact hK _ _ (Below.refl _ _) rfl HSt.out
     · intro k z v hk hst hag hdep hfr;refine .inl ⟨rfl,fun K hK=>?_⟩;have d36:z.tmps.getD 36 undef=.string tt:=hdep ⟨0,.data⟩ (by simp) rfl _ _ rfl rfl;have e36:=gEx d36;have d51:z.tmps.getD 51 undef=.string (ta++tb++tc++td):=hdep ⟨15,.data⟩ (by simp) rfl _ _ rfl rfl;have e51:=gEx d51;have HSt:=hDx hst;obtain ⟨l91,l92,l93,l94,l95⟩ := HSz.out;clear hdep hfr hag hst;go_simp;rw [if_neg (by (try simp only [ByteArray.size_append]); omega)];exact hK _ _ (Below.refl _ _) rfl HSt.out
     · intro k z v hk hst hag hdep hfr;refine .inl ⟨rfl,fun K hK=>?_⟩;have d52:z.tmps.getD 52 undef=.string (tt++(ta++tb++tc++td)):=hdep ⟨16,.data⟩ (by simp) rfl _ _ rfl rfl;have e52:=gEx d52;have HSt:=hDx hst;clear hdep hfr hag hst;go_simp;exact hK _ _ (Below.refl _ _) rfl HSt.out
    case hdone =>
     intro z v hst hag hok;have d3:z.tmps.getD 3 undef=.string (tt++(ta++tb++tc++td)):=hok 17 _ 3 rfl rfl;have HJv:=hDx (HJg.out.below hst);clear hst;obtain ⟨uu,hu,hzz⟩ := agree_frame [36,37,38,39,40,41,42,43,44,45,46,47,48,49,50,51,52,3] rfl hag;have e3:=(hu 3).trans d3;subst hzz;simp only [List.foldl_cons,List.foldl_nil];rw [e3];clear e3 d3 hu hag hok
     try dsimp only [Exit.then]
     simp only [List.setIfInBounds_toArray,List.set_cons_succ,List.set_cons_zero];generalize uu 36=u36',uu 37=u37',uu 38=u38',uu 39=u39',uu 40=u40',uu 41=u41',uu 42=u42',uu 43=u43',uu 44=u44',uu 45=u45',uu 46=u46',uu 47=u47',uu 48=u48',uu 49=u49',uu 50=u50',uu 51=u51',uu 52=u52';clear uu;rename_i K hK;refine hK _ _ ?_;obtain ⟨th,hth⟩ : ∃ t,tt++(ta++tb++tc++td)=t:=⟨_,rfl⟩;have hths:(th.size:Int)≤200000:=by
      obtain ⟨l91,l92,l93,l94,l95⟩ := HSz.out;rw [← hth];simp only [ByteArray.size_append];omega
     rw [hth] at HF5 ⊢;obtain ⟨wh,hwh⟩ : ∃ wh,v=wh:=⟨_,rfl⟩;rw [hwh] at HJv ⊢;have c6:wh.cell? ⟨rb,6,none⟩=some (.slice ra rn rc):=by rw [cell_block HJv.out.h]; rfl
     have HLn:=hDx HIw.out.rows.len;have hrnI:(rn:Int)≤1000:=by have h1:=HIw.out.rows.len; have h2:=HRn.out; (try simp only at h1); omega
     obtain ⟨CS,hCS⟩ : ∃ C:Array Value,(#[.int .i64 kk,.int .i64 W,.int .i64 h,.int .i64 x,.int .i64 y,.string st,.slice ra rn rc,.int .i64 sn,.int .i64 sc,.slice ga gn gc]:Array Value)=C:=⟨_,rfl⟩;rw [hCS] at HJv;clear hth hwh hCS
     go_wp2_with fail
     clear c6
     go_loopw [3,56] (fun u i wr=>∃ (j:Nat) (tt:ByteArray),u=.string tt∧i=.int .i64 (j:Int)∧j≤rn∧Hid (tt.data.toList=NS.flatMap numB++(textB st++(numB sn++(numB sc++packG sB)))++(R.take j).flatMap packR∧PsJ rb CS w wr)) (fun _ i _=>rn - (intOf i).toNat)
     case atStart=>exact ⟨0,th,rfl,rfl,Nat.zero_le _,hDx ⟨by rw [HF5.out]; simp,HJv.out⟩⟩
     case round =>
      obtain ⟨j,tj,rfl,rfl,hj,HF⟩ := hrel;by_cases hlt:j<rn
      · have hd:decide (j<rn)=true:=decide_eq_true hlt;have hjI:(j:Int)<rn:=by omega
        have hjl:j<R.length:=by have h1:=HLn.out; (try simp only at h1); omega
        have hrr:=HIw.out.rows.below (show Below w.heap.size w wr from by rw [HRb.out]; exact HF.out.2.b);obtain ⟨us0,hin,hrv,-⟩ := hrr.ex;have hju:j<us0.length:=by rw [hrv.1]; exact hjl
        obtain ⟨ab,ao,rfl,hab,hAt⟩ := hin.at_.resolve_left (by intro e; rw [e] at hju; simp at hju);have hat:=hAt j us0[j] (List.getElem?_eq_getElem hju);have hrj:=hrv.2 j us0[j] R[j] (List.getElem?_eq_getElem hju) (List.getElem?_eq_getElem hjl);have htk:=packN_rows R j hjl;have hwl:=HRw.out R[j] (List.getElem_mem hjl);have hsz:(tj.size:Int)≤40000000:=by
         have e1:tj.data.toList.length=tj.size:=rfl;have e2:th.data.toList.length=th.size:=rfl;rw [HF.out.1,List.length_append,← HF5.out,e2] at e1;have h1:=rows_len (R.take j) 1000 (fun q hq=>HRw.out q (List.mem_of_mem_take hq));have h2:=HRn.out;have h3:(R.take j).length≤1000:=by rw [List.length_take]; omega
         omega
        obtain ⟨⟨xa,xn,xc,xb⟩,hu⟩ : ∃ u,us0[j]=u:=⟨_,rfl⟩;obtain ⟨r,hre⟩ : ∃ r,R[j]=r:=⟨_,rfl⟩;rw [hu] at hat hrj;rw [hre] at hrj htk hwl;unfold Rv.val at hrj;simp only at hrj hat;have k0:=hat.1;have k1:=hat.2;obtain ⟨-,-,-,-,-,hxl⟩ := hrj.of;obtain ⟨gb,hgb⟩ : ∃ gb,wr.heap.size=gb:=⟨_,rfl⟩;obtain ⟨w5,hw5⟩ : ∃ w5,wr.alloc (.cells #[.slice xa xn xc,.bool xb] 63)=w5:=⟨_,rfl⟩;have hnew:w5.heap[gb]?=some (.cells #[.slice xa xn xc,.bool xb] 63 (0,0)):=by rw [← hw5,← hgb]; exact heap_alloc_new wr _
        have m0:w5.cell? ⟨gb,0,none⟩=some (.slice xa xn xc):=by rw [cell_block hnew]; rfl
        have m1:w5.cell? ⟨gb,1,none⟩=some (.bool xb):=by rw [cell_block hnew]; rfl
        have hb5:Below wr.heap.size wr w5:=by rw [← hw5]; exact (Below.refl _ _).alloc (Nat.le_refl _) _
        have HPr:=hDx (refPackRow_any xa xn xc xb r w5 (hrj.belowAll hb5) (by omega));have HTk:=hDx htk;have HT:=hDx HF.out.1;have HJ5:=hDx (HF.out.2.below hb5);have HW5:=hDx hw5;have HGb:=hDx hgb;have HWl:=hDx hwl;clear hjl hrr hin hrv hju hab hAt hat hrj htk hwl hu hre hxl hgb hw5 hnew hb5 HF hlt
        go_upto_region 13 with fail
        rw [HW5.out,HGb.out];clear k0 k1 hd
        go_wp2_with fail
        refine HPr.out.mono ?_;rintro e w6 ⟨t1,rfl,ht1,hb6⟩;have ht1s:(t1.size:Int)≤40000:=by
         have h1:=packR_len r;rw [← ht1] at h1;have h2:t1.data.toList.length=t1.size:=rfl;have h3:=HWl.out;omega
        have HE:Hid ((tj++t1).data.toList=NS.flatMap numB++(textB st++(numB sn++(numB sc++packG sB)))++(R.take (j+1)).flatMap packR∧PsJ rb CS w w6):=hDx ⟨by rw [append_list,HT.out,HTk.out,ht1,List.append_assoc _ _ (packR r)],HJ5.out.below hb6⟩;clear m0 m1 ht1 hb6
        go_wp2_with fail
        go_roundw
        case rel=>exact ⟨j+1,tj++t1,rfl,by go_num,by omega,HE⟩
        case measure=>simp [intOf]; omega
      · obtain rfl:j=rn:=by omega
        have hd:decide (j<j)=false:=by simp
        have hend:=hDx (HEnd.out tj wr (by
         rw [HF.out.1,HPk.out,List.take_of_length_le (by have h1:=HLn.out; (try simp only at h1); omega)]) HF.out.2.b)
        clear HF hlt
        go_wp2_with fail
        exact hend.out
end Go.Proofs.YtagolklnjhpbdaaDoor.K
