import Derived.Test.YtagolklnjhpbdaaDoorMerged0
import Derived.Test.YtagolklnjhpbdaaDoorMerged19
import Derived.Test.YtagolklnjhpbdaaDoorMerged17
import Derived.Test.YtagolklnjhpbdaaDoorMerged14
namespace Go.Proofs.YtagolklnjhpbdaaDoor.K
open Go.RowKit Go.Proofs.YtagolklnjhpbdaaDoor.I
theorem ownP_of {rk:IntKind} {T:TypeId} {base:Nat} {v:Value} {l:List (Int × Int)} {w w':World} (h:OwnP rk T base v l w) {row:Option Nat} (hg:w.grownBy w' row) (hne:∀ q,row=some q→q<base∨∃ cs T',w.heap[q]?=some (.cells cs T' (0,0))∧T'≠T):OwnP rk T base v l w':=h.kept hg (fun q hq e=>by
 rcases hne q e with h1 | ⟨cs,T',h1,h2⟩
 · have:=(h.ownBlock q hq).1; omega
 · obtain ⟨cs2,h3,-⟩ := U.own_type h hq;rw [h3] at h1;injection h1 with h1
   injection h1 with _ h1
   exact h2 h1.symm)
structure RdNI (p rb sb:Nat) (k W h x y:Int) (t:ByteArray) (n c:Int) (ya:Option Addr) (yn yc:Nat) (B:List (Int × Int)) (w:World) (vb v:Value) (rs:List Ro) (st:Sta) (u:World):Prop where
 i:InSt p st.1 st.2 u
 g:GatR (sb+1) v rs u
 o:OwnP .i32 111 (sb+1) (.slice ya yn yc) B u
 bk:u.heap[sb]?=some (.cells #[.int .i64 k,.int .i64 W,.int .i64 h,.int .i64 x,.int .i64 y,.string t,vb,.int .i64 n,.int .i64 c,.slice ya yn yc] 25 (0,0))
 zk:u.heap[rb]?=some (.cells #[.int .i64 0,.int .i64 0,.int .i64 0,.int .i64 0,.int .i64 0,.string ⟨#[]⟩,.slice none 0 0,.int .i64 0,.int .i64 0,.slice none 0 0] 25 (0,0))
 gr:w.grownBy u (some p)
 sz:sb+1≤u.heap.size
 ps:p<rb∧rb<sb∧w.heap.size=rb
section
variable {p rb sb:Nat} {k W h x y:Int} {t:ByteArray} {n c:Int} {ya:Option Addr} {yn yc:Nat} {B:List (Int × Int)} {w:World} {vb v v':Value} {rs rs':List Ro} {st st':Sta} {u u':World}
theorem RdNI.took (hh:RdNI p rb sb k W h x y t n c ya yn yc B w vb v rs st u) (hi:InSt p st'.1 st'.2 u') (hg:u.grownBy u' (some p)):RdNI p rb sb k W h x y t n c ya yn yc B w vb v rs st' u' :=
 have hp:=hh.ps
 ⟨hi,hh.g.grown hg (by omega),ownP_of hh.o hg (fun q e=>.inl (by have:=Option.some.inj e; omega)),(hg.block sb (gSx.1 hh.bk).1 (fun e=>by have:=Option.some.inj e; omega)).trans hh.bk,(hg.block rb (gSx.1 hh.zk).1 (fun e=>by have:=Option.some.inj e; omega)).trans hh.zk,grown_trans hh.gr hg,Nat.le_trans hh.sz hg.size,hp⟩
theorem RdNI.below (hh:RdNI p rb sb k W h x y t n c ya yn yc B w vb v rs st u) (hb:Below u.heap.size u u'):RdNI p rb sb k W h x y t n c ya yn yc B w vb v rs st u' :=
 hh.took (inst_below hh.i hb) ⟨hb.os,hb.tape,hb.output,hb.size,fun k hk _=>hb.block k hk⟩
theorem RdNI.more (hh:RdNI p rb sb k W h x y t n c ya yn yc B w vb v rs st u) (hg:GatR (sb+1) v' rs' u') (hgr:u.grownBy u' v.ownBlock):RdNI p rb sb k W h x y t n c ya yn yc B w vb v' rs' st u':=by
 have hp:=hh.ps;obtain ⟨us,h1,-⟩ := hh.g.ex;have hb:Below (sb+1) u u':=(Below.refl _ _).grown hgr hh.sz (fun q hq=>(h1.ownBlock q hq).1);obtain ⟨s,i1,i2,i3⟩ := hh.i;refine ⟨⟨s,(hb.block p (by omega)).trans i1,i2,i3⟩,hg,ownP_of hh.o hgr (fun q e=>.inr ?_),(hb.block sb (by omega)).trans hh.bk,(hb.block rb (by omega)).trans hh.zk,⟨hb.os.trans hh.gr.os,hb.tape.trans hh.gr.tape,hb.output.trans hh.gr.output,Nat.le_trans hh.gr.size hb.size,fun k hk hkp=>(hb.block k (by omega)).trans (hh.gr.block k hk hkp)⟩,Nat.le_trans hh.sz hb.size,hp⟩;obtain ⟨cs,h3,-⟩ := U.own_type h1 e;exact ⟨cs,_,h3,by decide⟩
theorem RdNI.set (hh:RdNI p rb sb k W h x y t n c ya yn yc B w vb v rs st u) (za:Option Addr) (zn zc:Nat) (hv:v=.slice za zn zc):RdNI p rb sb k W h x y t n c ya yn yc B w (.slice za zn zc) (.slice za zn zc) rs st (u.setCell ⟨sb,6,none⟩ (.slice za zn zc)):=by
 have hp:=hh.ps;subst hv;refine ⟨inst_setOther hh.i (by omega) _ _,hh.g.setOther (by omega) _ _,ownP_of hh.o (grown_set u sb 6 _) (fun q e=>.inl (by have:=Option.some.inj e; omega)),by simp [World.setCell,Array.getElem?_modify,hh.bk],(Below.heap_setCell _ _ _ rb (by show rb≠sb; omega)).trans hh.zk,grown_setNew hh.gr (by omega) _ _,by have:=(KeepsWalks.setCell u ⟨sb,6,none⟩ (.slice za zn zc)).size; have:=hh.sz; omega,hp⟩
end
def Sr11 (p rb sb:Nat) (k W h x y:Int) (t:ByteArray) (n c:Int) (ya:Option Addr) (yn yc:Nat) (B:List (Int × Int)) (w:World) (v0:Value) (rs:List Ro) (sj:Sta):Nat→(Nat→Value)→World→Prop
  | 0,_,u=>RdNI p rb sb k W h x y t n c ya yn yc B w v0 v0 rs sj u
  | 1,f,u=>RdNI p rb sb k W h x y t n c ya yn yc B w v0 v0 rs (readR sj W.toNat).1 u∧∃ a n c,f 40=.agg #[.slice a n c,.bool (readR sj W.toNat).2.wrapped]∧RowV .i32 (.agg #[.slice a n c,.bool (readR sj W.toNat).2.wrapped]) (readR sj W.toNat).2 u∧∀ b o,a=some ⟨b,o,none⟩→(∀ q,v0.ownBlock=some q→b≠q)∧sb+1≤b∧b<u.heap.size
  | 2,f,u=>RdNI p rb sb k W h x y t n c ya yn yc B w v0 v0 rs (readR sj W.toNat).1 u∧∃ q,f 41=.slice (some ⟨q,0,none⟩) 1 1∧∃ a n c b',u.heap[q]?=some (.cells #[.slice a n c,.bool b'] 57 (0,0))∧RowV .i32 (.agg #[.slice a n c,.bool b']) (readR sj W.toNat).2 u∧∀ b o,a=some ⟨b,o,none⟩→(∀ q,v0.ownBlock=some q→b≠q)∧sb+1≤b∧b<u.heap.size
  | 3,f,u=>∃ v,f 42=v∧RdNI p rb sb k W h x y t n c ya yn yc B w v0 v (rs++[(readR sj W.toNat).2]) (readR sj W.toNat).1 u
  | _,_,u=>∃ za zn zc,RdNI p rb sb k W h x y t n c ya yn yc B w (.slice za zn zc) (.slice za zn zc) (rs++[(readR sj W.toNat).2]) (readR sj W.toNat).1 u
section
variable {p rb sb:Nat} {k W h x y:Int} {t:ByteArray} {n c:Int} {ya:Option Addr} {yn yc:Nat} {B:List (Int × Int)} {w:World} {v0:Value} {rs:List Ro} {sj:Sta} {u:World} {i:Nat} {f f2:Nat→Value}
theorem RdNI.cs {vb v:Value} {st:Sta} (hh:RdNI p rb sb k W h x y t n c ya yn yc B w vb v rs st u):u.cell? ⟨sb,6,none⟩=some vb∧u.cell? ⟨sb,1,none⟩=some (.int .i64 W):=⟨by rw [cell_block hh.bk]; rfl,by rw [cell_block hh.bk]; rfl⟩
theorem Sr11.base (hk:i≤3) (hh:Sr11 p rb sb k W h x y t n c ya yn yc B w v0 rs sj i f u):u.cell? ⟨sb,6,none⟩=some v0∧u.cell? ⟨sb,1,none⟩=some (.int .i64 W):=by
 match i,hk,hh with
 | 0,_,hh=>exact RdNI.cs hh
 | 1,_,hh=>exact RdNI.cs hh.1
 | 2,_,hh=>exact RdNI.cs hh.1
 | 3,_,⟨_,_,hh⟩=>exact RdNI.cs hh
theorem Sr11.cong (e1:i=1→f 40=f2 40) (e2:i=2→f 41=f2 41) (e3:i=3→f 42=f2 42) (hh:Sr11 p rb sb k W h x y t n c ya yn yc B w v0 rs sj i f u):Sr11 p rb sb k W h x y t n c ya yn yc B w v0 rs sj i f2 u:=by
 match i,hh,e1,e2,e3 with
 | 0,hh,_,_,_=>exact hh
 | 1,⟨hh,a,n,c,e,h2⟩,e1,_,_=>exact ⟨hh,a,n,c,by rw [← e1 rfl]; exact e,h2⟩
 | 2,⟨hh,q,e,h2⟩,_,e2,_=>exact ⟨hh,q,by rw [← e2 rfl]; exact e,h2⟩
 | 3,⟨v,e,hh⟩,_,_,e3=>exact ⟨v,by rw [← e3 rfl]; exact e,hh⟩
 | _+4,hh,_,_,_=>exact hh
end
end Go.Proofs.YtagolklnjhpbdaaDoor.K

namespace Go.Proofs.YtagolklnjhpbdaaDoor.K
open Go.RowKit Go.Proofs.YtagolklnjhpbdaaDoor.I
structure Ms where
 st:Sta
 least:Nat
 l:List (Nat × Ro)
def msNum (m:Ms):Sta × Nat:=numS m.st.1 m.st.2
def msOk (h:Nat) (m:Ms):Prop:=m.least≤(msNum m).2∧(msNum m).2<h
instance (h:Nat) (m:Ms):Decidable (msOk h m):=by unfold msOk; exact inferInstance
def msSt (h:Nat) (m:Ms):Sta:=if msOk h m then (msNum m).1 else failS (msNum m).1.1 (msNum m).1.2 1
def msNext (w h:Nat) (m:Ms):Ms:=⟨(readR (msSt h m) w).1,(msNum m).2+1,m.l++[((msNum m).2,(readR (msSt h m) w).2)]⟩
def roundM (w h:Nat) (m:Ms):Ms:=if m.st.2≠0 then m else msNext w h m
def roundsM (w h:Nat):Nat→Ms→Ms
  | 0,m=>m
  | n+1,m=>roundM w h (roundsM w h n m)
def ms0 (st:Sta):Ms:=⟨(numS st.1 st.2).1,0,[]⟩
def readM (w h:Nat) (st:Sta):Ms:=roundsM w h (numS st.1 st.2).2 (ms0 st)
theorem numS_top (l:List UInt8) (e:Nat):(numS l e).2≤top:=by
 by_cases h:(firstS l).2.2=0
 · have h1:numS l 0=((l.drop (firstS l).2.1,0),(firstS l).1):=by unfold numS; rw [if_pos h]
   have h2:numS l e=((l.drop (firstS l).2.1,e),(firstS l).1):=by unfold numS; rw [if_pos h]
   rw [h2];exact (numS_zero h1 rfl).2.2
 · unfold numS;rw [if_neg h];exact Nat.zero_le _
theorem failS_bad (l:List UInt8) (e:Nat):(failS l e 1).2≠0:=by
 unfold failS
 split
 · rename_i h;exact h.resolve_right (by decide)
 · exact Nat.one_ne_zero
theorem msSt_okS {h:Nat} {m:Ms} (hm:InOk m.st):InOk (msSt h m):=by
 unfold msSt
 split
 · exact numS_ok hm
 · exact failS_ok (numS_ok hm)
theorem msNext_zero {w h:Nat} {m:Ms} (h0:(msNext w h m).st.2=0):msOk h m∧(msNum m).1.2=0∧m.st.2=0:=by
 have h1:=(readR_zero (show (readR (msSt h m) w).1.2=0 from h0)).1;by_cases hk:msOk h m
 · unfold msSt at h1;rw [if_pos hk] at h1;obtain ⟨⟨⟨l',e'⟩,v⟩,hn⟩ : ∃ q,numS m.st.1 m.st.2=q:=⟨_,rfl⟩;have h2:(msNum m).1.2=e':=by unfold msNum; rw [hn]
   exact ⟨hk,h1,(numS_zero hn (by rw [← h2]; exact h1)).1⟩
 · unfold msSt at h1;rw [if_neg hk] at h1;exact absurd h1 (failS_bad _ _)
theorem roundM_ok {w h:Nat} {m:Ms} (hm:InOk m.st):InOk (roundM w h m).st:=by
 unfold roundM
 split
 · exact hm
 · exact readR_ok (msSt_okS hm) w
theorem roundsM_ok {w h:Nat}:∀ (n:Nat) {m:Ms},InOk m.st→InOk (roundsM w h n m).st
  | 0,_,hm=>hm
  | n+1,_,hm=>roundM_ok (roundsM_ok n hm)
structure MsGood (h:Nat) (m:Ms):Prop where
 up:(m.l.map Prod.fst).Pairwise (·<·)
 lt:∀ x ∈ m.l,x.1<m.least
 le:m.least≤h
 few:m.l.length≤m.least
theorem MsGood.next {w h:Nat} {m:Ms} (hm:MsGood h m) (h0:(msNext w h m).st.2=0):MsGood h (msNext w h m):=by
 obtain ⟨⟨h1,h2⟩,-,-⟩ := msNext_zero h0;refine ⟨?_,fun x hx=>?_,h2,?_⟩
 · show ((m.l++[((msNum m).2,(readR (msSt h m) w).2)]).map Prod.fst).Pairwise (·<·);rw [List.map_append,List.map_cons,List.map_nil];refine List.pairwise_append.2 ⟨hm.up,List.pairwise_singleton _ _,fun a ha b hb=>?_⟩;obtain ⟨x,hx,rfl⟩ := List.mem_map.1 ha;have hb2:b=(msNum m).2:=by simpa using hb
   rw [hb2];exact Nat.lt_of_lt_of_le (hm.lt x hx) h1
 · rcases List.mem_append.1 hx with hx | hx
   · have:=hm.lt x hx;show x.1<(msNum m).2+1;omega
   · have e:x=((msNum m).2,(readR (msSt h m) w).2):=by simpa using hx
     rw [e];exact Nat.lt_succ_self _
 · show (m.l++[_]).length≤(msNum m).2+1;have:=hm.few;rw [List.length_append];simp;omega
theorem roundsM_good {w h:Nat} {m:Ms} (hm:MsGood h m):∀ n,(roundsM w h n m).st.2=0→MsGood h (roundsM w h n m)
  | 0,_=>hm
  | n+1,h0=>by
   have h1:roundsM w h (n+1) m=roundM w h (roundsM w h n m):=rfl;rw [h1] at h0 ⊢;unfold roundM at h0 ⊢
   split at h0
   · rename_i h2;exact absurd h0 h2
   · rename_i h2;rw [if_neg h2];exact (roundsM_good hm n (by omega)).next h0
theorem roundsM_stuck {w h:Nat} {m:Ms}:∀ {j n:Nat},j≤n→(roundsM w h j m).st.2≠0→roundsM w h n m=roundsM w h j m:=by
 intro j n hjn he
 induction n with
 | zero=>rw [show j=0 by omega]
 | succ n ih =>
  rcases Nat.lt_or_ge n j with h1 | h1
  · rw [show j=n+1 by omega]
  · have h2:=ih h1;show roundM w h (roundsM w h n m)=_;rw [h2];unfold roundM;rw [if_pos he]
theorem roundsM_few {w h:Nat} {m:Ms} (hm:MsGood h m):∀ n,(roundsM w h n m).l.length≤h+1
  | 0=>by have:=hm.few; have:=hm.le; show m.l.length≤h+1; omega
  | n+1=>by
   show (roundM w h (roundsM w h n m)).l.length≤h+1;unfold roundM
   split
   · exact roundsM_few hm n
   · rename_i h2;have hg:=roundsM_good (w:=w) hm n (by omega);have:=hg.few;have:=hg.le;show ((roundsM w h n m).l++[_]).length≤h+1;rw [List.length_append];simp;omega
theorem ms0_good (h:Nat) (st:Sta):MsGood h (ms0 st):=⟨List.Pairwise.nil,(fun x hx=>by cases hx),Nat.zero_le _,Nat.zero_le _⟩
end Go.Proofs.YtagolklnjhpbdaaDoor.K

namespace Go.Proofs.YtagolklnjhpbdaaDoor.K
open Go.RowKit Go.Proofs.YtagolklnjhpbdaaDoor.I
set_option maxHeartbeats 2000000 in
theorem dtsize_any (p:Nat) (st:Sta) (w:World) (h:InSt p st.1 st.2 w):Calls Tryd.prog 71 #[.pointer (some ⟨p,0,none⟩)] w (Took p (.int .i64 ((atS st 1000).2:Nat)) (atS st 1000).1 w):=by
 have HN:=hDx (innum_any p st.1 st.2 w h);obtain ⟨P,hP⟩ : ∃ P,Took p (.int .i64 ((atS st 1000).2:Nat)) (atS st 1000).1 w=P:=⟨_,rfl⟩;rw [hP];have HP:=hDx hP;obtain ⟨⟨⟨l1,e1⟩,v⟩,hn⟩ : ∃ q,numS st.1 st.2=q:=⟨_,rfl⟩;have ha:atS st 1000=if v≤1000 then ((l1,e1),v) else (failS l1 e1 1,0):=by unfold atS; rw [hn]
 rw [hn] at HN;have HAt:=hDx ha;clear hP h hn ha
 go_enter Tryd.func71,Tryd.ntmps71
 go_wp2_with fail
 refine HN.out.mono ?_;rintro e w2 ⟨rfl,h2,hg2⟩;by_cases hv:v≤1000
 · have d1:decide ((v:Int) > 1000)=false:=decide_eq_false (by omega);have d2:decide (1000<v)=false:=decide_eq_false (by omega);have d3:decide (v > 1000)=false:=decide_eq_false (by omega);have hend:Hid (P (.returned (.int .i64 (v:Int))) w2):=hDx (by rw [← HP.out,HAt.out,if_pos hv]; exact ⟨rfl,h2,hg2⟩);clear h2 hg2 HN hv
   go_wp2_with fail
   exact hend.out
 · have d1:decide ((v:Int) > 1000)=true:=decide_eq_true (by omega);have d2:decide (1000<v)=true:=decide_eq_true (by omega);have d3:decide (v > 1000)=true:=decide_eq_true (by omega);have HF:=hDx (fail_any p l1 e1 1 w2 h2);have HG:=hDx hg2;have HV:=hDx hv;clear h2 hg2 HN hv
   go_wp2_with fail
   refine HF.out.mono ?_;rintro e w3 ⟨rfl,h3,hg3⟩;have hend:Hid (P (.returned (.int .i64 0)) w3):=hDx (by rw [← HP.out,HAt.out,if_neg HV.out]; exact ⟨rfl,h3,grown_trans HG.out hg3⟩);clear h3 hg3
   go_wp2_with fail
   exact hend.out
end Go.Proofs.YtagolklnjhpbdaaDoor.K

namespace Go.Proofs.YtagolklnjhpbdaaDoor.K
open Go.RowKit Go.Proofs.YtagolklnjhpbdaaDoor.I
def FullN (s:Sn):Prop:=MayN s∧s≠emptyN
instance (s:Sn):Decidable (FullN s):=by unfold FullN; exact inferInstance
set_option maxRecDepth 100000 in
set_option maxHeartbeats 4000000 in
theorem full_any (s:Sn) (ra:Option Addr) (rn rc:Nat) (ga:Option Addr) (gn gc:Nat) (w:World) (h:SnIn .i32 ra rn rc ga gn gc s w) (hB:SnB s) :
    Calls Tryd.prog 28 #[.agg (snA s ra rn rc ga gn gc)] w fun e w'=>e=.returned (.bool (decide (FullN s)))∧Below w.heap.size w w':=by
 obtain ⟨rb,hrb⟩ : ∃ rb,w.heap.size=rb:=⟨_,rfl⟩;obtain ⟨D,hD⟩ : ∃ D,decide (FullN s)=D:=⟨_,rfl⟩;rw [hD];obtain ⟨P,hP⟩ : ∃ P:Ending→World→Prop,(fun e w'=>e=.returned (.bool D)∧Below w.heap.size w w')=P:=⟨_,rfl⟩;rw [hP];have HEnd:Hid (∀ b v,(FullN s↔b=true)→Below rb w v→P (.returned (.bool b)) v):=hDx (fun b v hb hv=>by
  rw [← hP];have:D=b:=by rw [← hD]; cases b <;> simp_all
  rw [this];exact ⟨rfl,by rw [hrb]; exact hv⟩)
 obtain ⟨w1,hw1⟩ : ∃ w1,w.alloc (.cells (snA s ra rn rc ga gn gc) 25)=w1:=⟨_,rfl⟩;have hb1:Below rb w w1:=by rw [← hw1,← hrb]; exact (Below.refl _ _).alloc (Nat.le_refl _) _
 have hz1:w1.heap[rb]?=some (.cells (snA s ra rn rc ga gn gc) 25 (0,0)):=by rw [← hw1,← hrb]; exact heap_alloc_new w _
 have HCk:=hDx (ncheck_any s ra rn rc ga gn gc w1 (h.belowAll (by rw [hrb]; exact hb1)) hB);have HSm:Hid (∀ v,Below rb w v→Calls Tryd.prog 22 #[.agg (snA s ra rn rc ga gn gc),.agg (snA emptyN none 0 0 none 0 0)] v fun e w'=>e=.returned (.bool (decide (s=emptyN)))∧Below v.heap.size v w'):=hDx (fun v hb=>nsame_any s emptyN ra rn rc ga gn gc none 0 0 none 0 0 v (h.belowAll (by rw [hrb]; exact hb)) (zero_in v) hB SnB.empty);obtain ⟨c0,c1,c2,c3,c4,c5,c6,c7,c8,c9⟩ := ten_cells hz1;obtain ⟨kc,hkc⟩ : ∃ k,chkN s=k:=⟨_,rfl⟩;rw [hkc] at HCk;have HKc:=hDx hkc;have HW1:=hDx hw1;have HRb:=hDx hrb;have HB1:=hDx hb1;have HZ1:=hDx hz1;clear hP hD hrb hw1 hb1 hz1 h hB hkc;obtain ⟨D0,hD0⟩ : ∃ D,decide (s=emptyN)=D:=⟨_,rfl⟩;rw [hD0] at HSm;have HD0:=hDx hD0;clear hD0;unfold snA emptyN at HSm;unfold snA at HW1 HCk;unfold snA;simp only at HSm
 go_enter Tryd.func28,Tryd.ntmps28
 go_upto_region 1 with fail
 rw [HW1.out,HRb.out]
 go_wp2_with fail
 refine HCk.out.mono ?_;rintro e w2 ⟨rfl,hb2⟩;have hz2:=(hb2.block rb (gSx.1 HZ1.out).1).trans HZ1.out;have hb02:Below rb w w2:=HB1.out.trans (hb2.mono (by have:=HB1.out.size; have:=HRb.out; omega));have HB2:=hDx hb02;have HS2:=hDx (HSm.out w2 hb02);clear c0 c1 c2 c3 c4 c5 c6 c7 c8 c9 hb2 hb02;obtain ⟨c0,c1,c2,c3,c4,c5,c6,c7,c8,c9⟩ := ten_cells hz2;by_cases hm:MayN s
 · have hk0:(kc:Int)=0:=by rw [← HKc.out]; unfold chkN; rw [if_pos hm]; rfl
   have q:((kc:Int) == 0)=true:=by rw [hk0]; rfl
   cases D0
   rotate_left
   · have he:s=emptyN:=of_decide_eq_true HD0.out;have HN:Hid (¬ FullN s):=hDx (fun h=>absurd he h.2);clear hm hk0 he hz2
     go_wp2_with fail
     refine HS2.out.mono ?_;rintro e w3 ⟨rfl,hb3⟩;have hend:=hDx (HEnd.out false w3 ⟨fun h=>absurd h HN.out,fun h=>by cases h⟩ (HB2.out.trans (hb3.mono (by have:=HB2.out.size; have:=HRb.out; omega))));clear hb3
     go_wp2_with fail
     exact hend.out
   · have he:s≠emptyN:=of_decide_eq_false HD0.out;have HN:Hid (FullN s):=hDx ⟨hm,he⟩;clear hm hk0 he hz2
     go_wp2_with fail
     refine HS2.out.mono ?_;rintro e w3 ⟨rfl,hb3⟩;have hend:=hDx (HEnd.out true w3 ⟨fun _=>rfl,fun _=>HN.out⟩ (HB2.out.trans (hb3.mono (by have:=HB2.out.size; have:=HRb.out; omega))));clear hb3
     go_wp2_with fail
     exact hend.out
 · have hk0:(kc:Int)=1:=by rw [← HKc.out]; unfold chkN; rw [if_neg hm]; rfl
   have q:((kc:Int) == 0)=false:=by rw [hk0]; rfl
   have hend:=hDx (HEnd.out false w2 ⟨fun h=>absurd h.1 hm,fun h=>by cases h⟩ HB2.out);clear hm hk0 hz2
   go_wp2_with fail
   exact hend.out
end Go.Proofs.YtagolklnjhpbdaaDoor.K
