import Derived.Test.YtagolklnjhpbdaaDoorMerged0
import Derived.Test.YtagolklnjhpbdaaDoorMerged17
import Derived.Test.YtagolklnjhpbdaaDoorMerged7
import Derived.Test.YtagolklnjhpbdaaDoorMerged6
import Derived.BigQuiet
import Derived.Lib.QuietBelow
namespace Go.Proofs.YtagolklnjhpbdaaDoor.K
open Go.Proofs.YtagolklnjhpbdaaDoor.R (agree_frame mem_slots slot_same wp_region_kept)
open Go.RowKit Go.Proofs.YtagolklnjhpbdaaDoor.I
def lenOf:Value→Nat
  | .slice _ n _=>n
  | _=>0
structure LpI (p rb:Nat) (u:Value) (R1:List (Nat × Cel)) (st:Sta) (w wr:World):Prop where
 i:InSt p st.1 st.2 wr
 o:OwnRn rb u R1 wr
 g:w.grownBy wr (some p)
 rk:wr.heap[rb]?=some (.cells #[.slice none 0 0,.bool false] 57 (0,0))
 pr:p<rb
 sz:rb≤wr.heap.size
 h0:w.heap.size=rb
theorem LpI.took {p rb:Nat} {u:Value} {R1:List (Nat × Cel)} {st st':Sta} {w wr w':World} (h:LpI p rb u R1 st w wr) (hi:InSt p st'.1 st'.2 w') (hg:wr.grownBy w' (some p)):LpI p rb u R1 st' w w' :=
 ⟨hi,h.o.grown hg h.pr,grown_trans h.g hg,(hg.block rb (gSx.1 h.rk).1 (fun e=>by have:=Option.some.inj e; have:=h.pr; omega)).trans h.rk,h.pr,Nat.le_trans h.sz hg.size,h.h0⟩
theorem inst_below {p:Nat} {l:List UInt8} {e:Nat} {u u':World} (h:InSt p l e u) (hb:Below u.heap.size u u'):InSt p l e u':=by
 obtain ⟨s,h1,h2,h3⟩ := h;exact ⟨s,(hb.block p h1.lt).trans h1,h2,h3⟩
theorem LpI.below {p rb:Nat} {u:Value} {R1:List (Nat × Cel)} {st:Sta} {w wr w':World} (h:LpI p rb u R1 st w wr) (hb:Below wr.heap.size wr w'):LpI p rb u R1 st w w' :=
 h.took (inst_below h.i hb) ⟨hb.os,hb.tape,hb.output,hb.size,fun k hk _=>hb.block k hk⟩
theorem LpI.more {p rb:Nat} {u v':Value} {R1 R2:List (Nat × Cel)} {st:Sta} {w wr w':World} (h:LpI p rb u R1 st w wr) (ho:OwnRn rb v' R2 w') (hg:wr.grownBy w' u.ownBlock):LpI p rb v' R2 st w w':=by
 have hn:∀ q,u.ownBlock=some q→rb≤q∧q<wr.heap.size∧∃ cs,wr.heap[q]?=some (.cells cs 129 (0,0)):=fun q hq=>by
  obtain ⟨cs,h1,h2,h3⟩ := U.own_type h.o hq;exact ⟨h2,h3,cs,h1⟩
 have hb:Below rb wr w':=(Below.refl _ _).grown hg h.sz (fun q hq=>(hn q hq).1);obtain ⟨s,h1,h2,h3⟩ := h.i;refine ⟨⟨s,(hb.block p h.pr).trans h1,h2,h3⟩,ho,⟨hb.os.trans h.g.os,hb.tape.trans h.g.tape,hb.output.trans h.g.output,Nat.le_trans h.g.size hb.size,fun k hk hkp=>(hb.block k (by rw [← h.h0]; exact hk)).trans (h.g.block k hk hkp)⟩,?_,h.pr,Nat.le_trans h.sz hb.size,h.h0⟩;refine (hg.block rb (gSx.1 h.rk).1 (fun e=>?_)).trans h.rk;obtain ⟨-,-,cs,h4⟩ := hn rb e.symm;rw [h.rk] at h4;injection h4 with h4
 injection h4 with _ h5
 revert h5
 decide
theorem wp_append_cells {rk:IntKind} {t T:TypeId} {bytes:Nat} (hI:CelT rk t T bytes) {o:Oper} {z:Act} {w:World} {K:Act→World→Prop} {Q:Exit→Act→World→Prop} (s x:Operand)
    (ho:o.op=.call { callee:=.builtin .append,args:=#[s,x],argTypes:=#[t,t] }) (hty:o.type=t)
    (base:Nat) (v:Value) (l:List Cel) (a:Option Addr) (m c:Nat) (l2:List Cel) (hs:z.eval s=v) (hxv:z.eval x=.slice a m c) (hown:OwnC rk T base v l w) (h:CelsIn rk a m l2 w) (hnil:a=none→c=0) (h1:(l.length:Int)≤1000000) (h2:(l2.length:Int)≤1000000) (hbase:base≤w.heap.size)
    (hK:∀ v' w',OwnC rk T base v' (l++l2) w'→w.grownBy w' v.ownBlock→K (z.put o.dst v') w'):o.wp Tryd.prog z w K Q:=by
 obtain ⟨v',w',hr,k1,k2⟩ := run_append_cells hI base v l a m c l2 w hown h hnil h1 h2 hbase;unfold Oper.wp execOp;simp only [ho,hty,resolve,invoke,builtin,Sem.run_bind,Sem.run_pure,Result.andThen_ok,List.map_toArray,List.map_cons,List.map_nil,hs,hxv,hr];exact hK v' w' k1 k2.grown
structure Rr17 (B2 rr:Nat) (v:Value) (l:List Cel) (bw:Bool) (w9 u:World):Prop where
 o:OwnC .i32 118 (B2+1) v l u
 bk:u.heap[rr]?=some (.cells #[v,.bool bw] 57 (0,0))
 b:Below B2 w9 u
 rl:rr=B2
 sz:rr<u.heap.size
theorem Rr17.sz1 {B2 rr:Nat} {v:Value} {l:List Cel} {bw:Bool} {w9 u:World} (h:Rr17 B2 rr v l bw w9 u):B2+1≤u.heap.size:=by have:=h.sz; have:=h.rl; omega
theorem Rr17.below {B2 rr:Nat} {v:Value} {l:List Cel} {bw:Bool} {w9 u u':World} (h:Rr17 B2 rr v l bw w9 u) (hb:Below u.heap.size u u'):Rr17 B2 rr v l bw w9 u' :=
 ⟨h.o.belowAll hb,(hb.block rr h.sz).trans h.bk,h.b.trans (hb.mono (by have:=h.sz1; omega)),h.rl,Nat.lt_of_lt_of_le h.sz hb.size⟩
structure Rs17 (B2 rr:Nat) (v0 v:Value) (l:List Cel) (bw:Bool) (w9 u:World):Prop where
 o:OwnC .i32 118 (B2+1) v l u
 bk:u.heap[rr]?=some (.cells #[v0,.bool bw] 57 (0,0))
 b:Below B2 w9 u
 rl:rr=B2
 sz:rr<u.heap.size
theorem Rr17.more {B2 rr:Nat} {v v':Value} {l l':List Cel} {bw:Bool} {w9 u u':World} (h:Rr17 B2 rr v l bw w9 u) (ho:OwnC .i32 118 (B2+1) v' l' u') (hg:u.grownBy u' v.ownBlock):Rs17 B2 rr v v' l' bw w9 u':=by
 have hn:∀ q,v.ownBlock=some q→B2+1≤q:=fun q hq=>(h.o.ownBlock q hq).1
 have hb:Below (B2+1) u u':=(Below.refl _ _).grown hg h.sz1 hn;exact ⟨ho,(hb.block rr (by have:=h.rl; omega)).trans h.bk,h.b.trans (hb.mono (by omega)),h.rl,Nat.lt_of_lt_of_le h.sz hb.size⟩
theorem Rs17.c0 {B2 rr:Nat} {v0 v:Value} {l:List Cel} {bw:Bool} {w9 u:World} (h:Rs17 B2 rr v0 v l bw w9 u):u.cell? ⟨rr,0,none⟩=some v0:=by rw [cell_block h.bk]; rfl
theorem Rs17.fr {B2 rr:Nat} {v0 v:Value} {l:List Cel} {bw:Bool} {w9 u:World} (h:Rs17 B2 rr v0 v l bw w9 u):u.frozen? ⟨rr,0,none⟩=false:=frozen_block h.bk 0
theorem Rs17.store {B2 rr:Nat} {v0 v:Value} {l:List Cel} {bw:Bool} {w9 u:World} (h:Rs17 B2 rr v0 v l bw w9 u):Rr17 B2 rr v l bw w9 (u.setCell ⟨rr,0,none⟩ v) :=
 ⟨h.o.set1 (by have:=h.rl; omega) 0 v,RoB.set0 (t:=57) (p:=rr) (v:=v0) h.bk,h.b.setCell (p:=⟨rr,0,none⟩) (by show B2≤rr; have:=h.rl; omega) _,h.rl,by have:=(KeepsWalks.setCell u ⟨rr,0,none⟩ v).size; have:=h.sz; omega⟩
def St17 (B2 rr n:Nat) (v0:Value) (l:List Cel) (bw:Bool) (x1 x2 x3:Int) (w9:World):Nat→(Nat→Value)→World→Prop
  | 0,_,u=>Rr17 B2 rr v0 l bw w9 u
  | 1,f,u=>Rr17 B2 rr v0 l bw w9 u∧∃ q,f 68=.slice (some ⟨q,0,none⟩) 1 1∧B2≤q∧u.heap[q]?=some (.cells #[.int .i32 x1,.int .i64 x2,.int .i64 x3] 118 (0,0))
  | 2,f,u=>Rr17 B2 rr v0 l bw w9 u∧∃ y,f 71=.slice (some ⟨y,0,none⟩) n n∧Hid (OwnC .i32 118 y (.slice (some ⟨y,0,none⟩) n n) (List.replicate n ⟨x1,x2,x3⟩) u)
  | 3,f,u=>∃ v',f 72=v'∧Rs17 B2 rr v0 v' (l++List.replicate n ⟨x1,x2,x3⟩) bw w9 u
  | _,_,u=>∃ v',Rr17 B2 rr v' (l++List.replicate n ⟨x1,x2,x3⟩) bw w9 u
theorem St17.base3 {B2 rr n:Nat} {v0:Value} {l:List Cel} {bw:Bool} {x1 x2 x3:Int} {w9 u:World} {k:Nat} {f:Nat→Value} (hk:k≤3) (h:St17 B2 rr n v0 l bw x1 x2 x3 w9 k f u):Below B2 w9 u∧u.cell? ⟨rr,0,none⟩=some v0:=by
 match k,hk,h with
 | 0,_,h=>exact ⟨h.b,by rw [cell_block h.bk]; rfl⟩
 | 1,_,h=>exact ⟨h.1.b,by rw [cell_block h.1.bk]; rfl⟩
 | 2,_,h=>exact ⟨h.1.b,by rw [cell_block h.1.bk]; rfl⟩
 | 3,_,⟨v',_,h⟩=>exact ⟨h.b,h.c0⟩
theorem St17.cong {B2 rr n:Nat} {v0:Value} {l:List Cel} {bw:Bool} {x1 x2 x3:Int} {w9 u:World} {k:Nat} {f f2:Nat→Value} (e1:k=1→f 68=f2 68) (e2:k=2→f 71=f2 71) (e3:k=3→f 72=f2 72) (h:St17 B2 rr n v0 l bw x1 x2 x3 w9 k f u):St17 B2 rr n v0 l bw x1 x2 x3 w9 k f2 u:=by
 match k,h,e1,e2,e3 with
 | 0,h,_,_,_=>exact h
 | 1,⟨h,q,e,h2⟩,e1,_,_=>exact ⟨h,q,by rw [← e1 rfl]; exact e,h2⟩
 | 2,⟨h,q,e,h2⟩,_,e2,_=>exact ⟨h,q,by rw [← e2 rfl]; exact e,h2⟩
 | 3,⟨v,e,h⟩,_,_,e3=>exact ⟨v,by rw [← e3 rfl]; exact e,h⟩
 | _+4,h,_,_,_=>exact h
def RrOk17 (B2 qb n:Nat) (va:Option Addr) (vc:Nat) (l:List Cel) (x1 x2 x3:Int):Nat→Value→World→Prop
  | 0,u,_=>u=.pointer (some ⟨B2,0,none⟩)
  | 1,u,_=>u=.slice va l.length vc
  | 2,u,_=>u=.pointer (some ⟨qb,1,none⟩)
  | 3,u,_=>u=.agg #[.int .i32 x1,.int .i64 x2,.int .i64 x3]
  | 4,_,_=>True
  | 5,u,_=>u=.pointer (some ⟨qb,0,none⟩)
  | 6,u,_=>u=.int .i64 (n:Int)
  | 7,_,_=>True
  | 8,_,_=>True
  | 9,u,_=>u=.pointer (some ⟨B2,0,none⟩)
  | 10,_,_=>True
  | _,_,_=>True
def RdRPost (p:Nat) (q:Sta × Ro) (w:World) (e:Ending) (w':World):Prop:=∃ v,e=.returned (.agg #[v,.bool q.2.wrapped])∧OwnC .i32 118 w.heap.size v q.2.l w'∧InSt p q.1.1 q.1.2 w'∧w.grownBy w' (some p)
set_option maxRecDepth 100000 in
set_option maxHeartbeats 16000000 in
theorem readRow_any (p:Nat) (st:Sta) (W:Int) (hW:W≤2000) (hW2:-9223372036854775808≤W) (w:World) (h:InSt p st.1 st.2 w):Calls Tryd.prog 93 #[.pointer (some ⟨p,0,none⟩),.int .i64 W] w (RdRPost p (readR st W.toNat) w):=by
 obtain ⟨rb,hrb⟩ : ∃ rb,w.heap.size=rb:=⟨_,rfl⟩;obtain ⟨P,hP⟩ : ∃ P,RdRPost p (readR st W.toNat) w=P:=⟨_,rfl⟩;rw [hP];have HP:=hDx hP;have hpl:p<rb:=by obtain ⟨s,hb,-⟩ := h; rw [← hrb]; exact hb.lt
 obtain ⟨w1,hw1⟩ : ∃ w1,w.alloc (.cells #[.slice none 0 0,.bool false] 57)=w1:=⟨_,rfl⟩;have hbk:w1.heap[rb]?=some (.cells #[.slice none 0 0,.bool false] 57 (0,0)):=by rw [← hw1,← hrb]; exact heap_alloc_new w _
 have h1:InSt p st.1 st.2 w1:=by rw [← hw1]; exact h.alloc _
 have hg1:w.grownBy w1 (some p):=by rw [← hw1]; exact World.grownBy_alloc w _ _
 have hL1:LpI p rb (.slice none 0 0) [] st w w1:=⟨h1,OwnRn.nil _ _,hg1,hbk,hpl,by have:=hg1.size; omega,hrb⟩;have hA:=natmost_any p st 1 (by decide) w1 h1;obtain ⟨⟨s0,v0⟩,hat⟩ : ∃ q,atS st 1=q:=⟨_,rfl⟩;rw [hat] at hA;have hA':Calls Tryd.prog 97 #[.pointer (some ⟨p,0,none⟩),.int .i64 1] w1 (Took p (.int .i64 (v0:Int)) s0 w1):=hA;obtain ⟨m0,hm0⟩ : ∃ m,W.toNat=m:=⟨_,rfl⟩;obtain ⟨tot,htot⟩ : ∃ tot,rowS (m0+1) m0 s0 none=tot:=⟨_,rfl⟩;have hrd:readR st W.toNat=(tot.1,if tot.1.2=0 then ⟨expR tot.2,decide (v0=1)⟩ else ⟨[],false⟩):=by unfold readR; rw [hm0,hat]; simp only; rw [htot]
 obtain ⟨bw,hbw⟩ : ∃ bw,decide (v0=1)=bw:=⟨_,rfl⟩;rw [hbw] at hrd;have hbw2:((v0:Int) == 1)=bw:=by rw [← hbw]; by_cases h:v0=1; subst h; rfl; rw [decide_eq_false h,beq_eq_false_iff_ne]; omega
 have HRd:=hDx hrd;have HTot0:=hDx htot;have HL1:=hDx hL1;have HA:=hDx hA';have HRb:=hDx hrb;have HW1:=hDx hw1;have HM0:=hDx hm0;have hm0b:m0≤2000:=by omega
 clear hP hrb h hpl hw1 hbk h1 hg1 hat hA hA' hrd htot hbw hL1
 go_enter Tryd.func93,Tryd.ntmps93
 go_upto_region 1 with fail
 rw [HW1.out,HRb.out]
 go_wp2_with fail
 refine HA.out.mono ?_;rintro e w2 ⟨rfl,h2,hg2⟩;have HL2:=hDx (HL1.out.took h2 hg2);clear h2 hg2 HA
 go_wp2_with fail
 try rw [hbw2]
 clear hbw2
 go_loopw [6,7] (fun u i wr=>∃ (R1:List (Nat × Cel)) (m f:Nat) (sj:Sta) (pr:Option Cel) (L:Int),i=.int .i64 L∧(L.toNat=m∧L≤2000∧-9223372036854775808≤L)∧Hid (LpI p rb u R1 sj w wr∧pr=R1.getLast?.map Prod.snd∧(R1++(rowS f m sj pr).2=tot.2∧(rowS f m sj pr).1=tot.1)∧(m<f∨sj.2≠0)∧R1.length+f≤m0+1)) (fun u _ _=>m0+3 - lenOf u)
 case atStart=>exact ⟨[],m0,m0+1,s0,none,W,rfl,⟨HM0.out,hW,hW2⟩,hDx ⟨HL2.out,rfl,⟨by rw [HTot0.out]; rfl,by rw [HTot0.out]⟩,.inl (by omega),by simp⟩⟩
 case round =>
  obtain ⟨R1,m,f,sj,pr,L,rfl,⟨hLm,hL2,hL3⟩,HF⟩ := hrel;obtain ⟨oa,oc,rfl,hfit,htop,-⟩ := HF.out.1.o.shape;obtain ⟨kk,hkk⟩ : ∃ kk,R1.length=kk:=⟨_,rfl⟩;rw [hkk] at HF hfit ⊢;have HKk:Hid (kk=R1.length):=hDx hkk.symm;have hkk2:kk≤3000:=by have:=HF.out.2.2.2.2; omega
  clear hkk;by_cases hLp:0<L
  · obtain rfl:L=(m:Int):=by omega
    have hmp:m≠0:=by omega
    by_cases he:sj.2=0
    · have dL:decide ((m:Int) > 0)=true:=decide_eq_true (by omega);have dL2:decide (0<m)=true:=decide_eq_true (by omega);have hEr:=err_any p sj.1 sj.2 wr HF.out.1.i;rw [he] at hEr;have hEr':Calls Tryd.prog 92 #[.pointer (some ⟨p,0,none⟩)] wr fun en w'=>en=.returned (.int .i64 0)∧wr=w':=hEr
      have HEr:=hDx hEr';have hmf:m<f:=HF.out.2.2.2.1.resolve_right (fun h=>h he);obtain ⟨gq,hgq,hgo⟩ := rowS_go (pr:=pr) hmp he hmf;have hR:=readRun_any p sj m (by omega) wr HF.out.1.i;have hq0:(runS sj m).2.1=0→(likeF (runS sj m).1 pr (runS sj m).2.2).2≠0:=fun hz e=>by
       have h1:=(likeF_zero e).2.2;have h2:=(runS_zero h1).2.2.1;omega
      have hnm:(runS sj m).2.1≤m:=by rw [runS_num,r1_def]; exact atS_le _ _
      obtain ⟨⟨sq,n,⟨c1,c2,c3⟩⟩,hq⟩ : ∃ q,runS sj m=q:=⟨_,rfl⟩;rw [hq] at hR hgo hq0 hnm;simp only at hR hgo hq0 hnm;have HR:=hDx hR;have HTot:Hid (R1++(n,⟨c1,c2,c3⟩)::(rowS gq (m - n) (likeF sq pr ⟨c1,c2,c3⟩) (some ⟨c1,c2,c3⟩)).2=tot.2∧(rowS gq (m - n) (likeF sq pr ⟨c1,c2,c3⟩) (some ⟨c1,c2,c3⟩)).1=tot.1):=hDx (by have:=HF.out.2.2.1; rw [hgo] at this; exact this);have HQ0:=hDx hq0;have HNm:=hDx hnm;have HFu:Hid (m<gq+1):=hDx (by omega);have HRf:Hid (R1.length+(gq+1)≤m0+1):=hDx (by have:=HF.out.2.2.2.2; have:=HKk.out; omega);have HRl:Hid ((R1.length:Int)≤1000000):=hDx (by have:=HKk.out; omega);have HPv:=hDx HF.out.2.1;have HL4:=hDx HF.out.1;clear hEr hEr' hmf hgq hgo hR hq0 hnm hq HF he
      go_wp2_with fail
      refine HEr.out.mono ?_;rintro e w4 ⟨rfl,rfl⟩
      go_wp2_with fail
      refine HR.out.mono ?_;rintro e w5 ⟨rfl,h5,hg5⟩;have hL5:LpI p rb (.slice oa kk oc) R1 sq w w5:=HL4.out.took h5 hg5;obtain ⟨nb,hnb⟩ : ∃ nb,w5.heap.size=nb:=⟨_,rfl⟩;obtain ⟨w6,hw6⟩ : ∃ w6,w5.alloc (.cells #[.int .i64 (n:Int),.int .i32 c1,.int .i64 c2,.int .i64 c3] 129)=w6:=⟨_,rfl⟩;have hn6:w6.heap[nb]?=some (.cells #[.int .i64 (n:Int),.int .i32 c1,.int .i64 c2,.int .i64 c3] 129 (0,0)):=by rw [← hw6,← hnb]; exact heap_alloc_new w5 _
      have hb6:Below w5.heap.size w5 w6:=by rw [← hw6]; exact (Below.refl _ _).alloc (Nat.le_refl _) _
      have hL6:=hL5.below hb6;have n0:w6.cell? ⟨nb,0,none⟩=some (.int .i64 (n:Int)):=by rw [cell_block hn6]; rfl
      have n1:w6.cell? ⟨nb,1,none⟩=some (.int .i32 c1):=by rw [cell_block hn6]; rfl
      have n2:w6.cell? ⟨nb,2,none⟩=some (.int .i64 c2):=by rw [cell_block hn6]; rfl
      have n3:w6.cell? ⟨nb,3,none⟩=some (.int .i64 c3):=by rw [cell_block hn6]; rfl
      have HNp:Hid (nb≠p):=hDx (by have:=hL5.pr; have:=hL5.sz; omega);have HNo:Hid ((Value.slice oa kk oc).ownBlock≠some nb):=hDx (fun e=>by have:=(hL5.o.own nb e).2; omega);have HL6:=hDx hL6;have HN6:=hDx hn6;have HW6:=hDx hw6;have HNb:=hDx hnb;clear h5 hg5 hL5 hnb hw6 hn6 hb6 hL6 HR HL4 HEr
      go_upto_region 6 with fail
      rw [HW6.out,HNb.out];rcases List.eq_nil_or_concat R1 with hR0 | ⟨R0,q0,hR0⟩
      · have hk0:kk=0:=by rw [HKk.out,hR0]; rfl
        have HPr:Hid (¬ pr=some ⟨c1,c2,c3⟩):=hDx (by rw [HPv.out,hR0]; simp);have z0:=fun d os=>cell_regrown n0 d os
        clear hR0;subst hk0
        go_wp2_with fail
        refine wp_region_quiet_below (by kernel_rfl) (by kernel_rfl) ?_
        repeat (go_big_quiet_step (fail))
        refine wpQuiet_nil ?_;intro _ hw';obtain ⟨⟨dq,osq⟩,hw''⟩ := hw';have hb9:=below_regrown w6 dq osq;obtain ⟨w9,hw9⟩ : ∃ w9,Go.Sort.grow (redrawn w6 dq) osq=w9:=⟨_,rfl⟩;rw [hw''];simp only;rw [hw9] at hb9 ⊢;have hL9:=HL6.out.below hb9;have hn9:w9.heap[nb]?=some (.cells #[.int .i64 (n:Int),.int .i32 c1,.int .i64 c2,.int .i64 c3] 129 (0,0)):=(hb9.block nb (gSx.1 HN6.out).1).trans HN6.out;clear hw'' hw9 hb9 z0 n0 n1 n2 n3;have hlk:likeF sq pr ⟨c1,c2,c3⟩=sq:=by unfold likeF; rw [if_neg HPr.out]
        have hL10:=hL9;rw [← hlk] at hL10;clear hlk;have hn10:=hn9;obtain ⟨w10,hw10⟩ : ∃ w10,w9=w10:=⟨_,rfl⟩;subst hw10;clear hL9 hn9;have g0:w9.cell? ⟨nb,0,none⟩=some (.int .i64 (n:Int)):=by rw [cell_block hn10]; rfl
        have g1:w9.cell? ⟨nb,1,none⟩=some (.int .i32 c1):=by rw [cell_block hn10]; rfl
        have g2:w9.cell? ⟨nb,2,none⟩=some (.int .i64 c2):=by rw [cell_block hn10]; rfl
        have g3:w9.cell? ⟨nb,3,none⟩=some (.int .i64 c3):=by rw [cell_block hn10]; rfl
        obtain ⟨wA,hwA⟩ : ∃ wA,w9.alloc (.cells #[.int .i64 (n:Int),.int .i32 c1,.int .i64 c2,.int .i64 c3] 129)=wA:=⟨_,rfl⟩;have hbA:Below w9.heap.size w9 wA:=by rw [← hwA]; exact (Below.refl _ _).alloc (Nat.le_refl _) _
        have hqA:wA.heap[w9.heap.size]?=some (.cells (qCells (n,⟨c1,c2,c3⟩)).toArray 129 (0,0)):=by rw [← hwA]; exact heap_alloc_new w9 _
        have hLA:=hL10.below hbA;have HLA:=hDx hLA;have HQA:=hDx hqA;have HWA:=hDx hwA;have HnA:Hid (wA.heap[nb]?=some (.cells #[.int .i64 (n:Int),.int .i32 c1,.int .i64 c2,.int .i64 c3] 129 (0,0))):=hDx ((hbA.block nb (gSx.1 hn10).1).trans hn10);clear hL10 hn10 hwA hbA hqA hLA
        go_wp2_with (at_builtin; (try rw [HWA.out]); refine wpList_append_run rfl _ _ rfl rfl rb _ R1 (n,⟨c1,c2,c3⟩) w9.heap.size rfl rfl HLA.out.o HQA.out HRl.out HLA.out.sz ?_)
        intro v' wB hown hgr;have hLB:=HLA.out.more hown hgr;have hnB:wB.heap[nb]?=some (.cells #[.int .i64 (n:Int),.int .i32 c1,.int .i64 c2,.int .i64 c3] 129 (0,0)):=(hgr.block nb (gSx.1 HnA.out).1 (fun e=>HNo.out e.symm)).trans HnA.out;have u0:wB.cell? ⟨nb,0,none⟩=some (.int .i64 (n:Int)):=by rw [cell_block hnB]; rfl
        have HE:Hid (LpI p rb v' (R1++[(n,⟨c1,c2,c3⟩)]) (likeF sq pr ⟨c1,c2,c3⟩) w wB):=hDx hLB;obtain ⟨va,vc,hv',-⟩ := hown.shape;subst hv';clear hown hgr hLB hnB g0 g1 g2 g3 HLA HQA HWA HnA;have hnmI:(n:Int)≤(m:Int):=by have:=HNm.out; omega
        go_wp2_with fail
        go_roundw
        case rel =>
         refine ⟨R1++[(n,⟨c1,c2,c3⟩)],m - n,gq,likeF sq pr ⟨c1,c2,c3⟩,some ⟨c1,c2,c3⟩,(m:Int) - (n:Int),by first | rfl | go_num,by have:=HNm.out; omega,hDx ⟨HE.out,?_,?_,?_,?_⟩⟩
         · rw [List.getLast?_append]; rfl
         · rw [List.append_assoc]; exact HTot.out
         · have:=HFu.out;have hq:=HQ0.out;rcases Nat.eq_zero_or_pos n with h0 | h0
           · exact .inr (hq h0)
           · exact .inl (by omega)
         · rw [List.length_append]; have:=HRf.out; simp only [List.length_singleton]; omega
        case measure=>simp [lenOf]; have:=HRf.out; have:=HKk.out; omega
      · rw [List.concat_eq_append] at hR0;obtain ⟨⟨k0,⟨d1,d2,d3⟩⟩,hq0⟩ : ∃ q,q0=q:=⟨_,rfl⟩;subst hq0;have hlen:kk=R0.length+1:=by rw [HKk.out,hR0,List.length_append]; rfl
        obtain ⟨j0,hj0⟩ : ∃ j0,R0.length=j0:=⟨_,rfl⟩;rw [hj0] at hlen;obtain ⟨a',c',hsl,hfc,htc,hat⟩ := HL6.out.o.shape;obtain ⟨rfl,-,rfl⟩ : oa=a'∧kk=R1.length∧oc=c':=by injection hsl with e1 e2 e3; exact ⟨e1,e2,e3⟩
        obtain ⟨ob,rfl,hob,hol,hAt⟩ := hat.resolve_left (by rw [hR0]; simp);have hr:=hAt j0 (k0,⟨d1,d2,d3⟩) (by rw [hR0,← hj0]; simp);have HPv2:Hid (pr=some ⟨d1,d2,d3⟩):=hDx (by rw [HPv.out,hR0]; simp);have y1:=fun d os=>cell_regrown hr.c1 d os
        have y2:=fun d os=>cell_regrown hr.c2 d os
        have y3:=fun d os=>cell_regrown hr.c3 d os
        simp only at y1 y2 y3;have z0:=fun d os=>cell_regrown n0 d os
        have z1:=fun d os=>cell_regrown n1 d os
        have z2:=fun d os=>cell_regrown n2 d os
        have z3:=fun d os=>cell_regrown n3 d os
        have hcI:(j0:Int)+1≤oc:=by have:=hfc; have:=HKk.out; omega
        have hcT:(oc:Int)≤9223372036854775807:=htc;have hjI:(j0:Int)≤1000000:=by have:=HRl.out; have:=HKk.out; omega
        clear hR0 hj0 hsl hfc htc hat hob hol hAt hr;subst hlen
        go_wp2_with fail
        by_cases e1:d1=c1
        · have e1':=e1.symm;clear e1;subst e1';by_cases e2:d2=c2
          · have e2':=e2.symm;clear e2;subst e2';by_cases e3:d3=c3
            · have e3':=e3.symm;clear e3;subst e3';have HPr:Hid (pr=some ⟨c1,c2,c3⟩):=HPv2;refine wp_region_quiet_below (by kernel_rfl) (by kernel_rfl) ?_
              repeat (go_big_quiet_step (fail))
              refine wpQuiet_nil ?_;intro _ hw';obtain ⟨⟨dq,osq⟩,hw''⟩ := hw';have hb9:=below_regrown w6 dq osq;obtain ⟨w9,hw9⟩ : ∃ w9,Go.Sort.grow (redrawn w6 dq) osq=w9:=⟨_,rfl⟩;rw [hw''];simp only;rw [hw9] at hb9 ⊢;have hL9:=HL6.out.below hb9;have hn9:w9.heap[nb]?=some (.cells #[.int .i64 (n:Int),.int .i32 c1,.int .i64 c2,.int .i64 c3] 129 (0,0)):=(hb9.block nb (gSx.1 HN6.out).1).trans HN6.out;clear hw'' hw9 hb9 z0 z1 z2 z3 y1 y2 y3 n0 n1 n2 n3;have HF:=hDx (fail_any p sq.1 sq.2 1 w9 hL9.i);have hlk:likeF sq pr ⟨c1,c2,c3⟩=failS sq.1 sq.2 1:=by unfold likeF; rw [if_pos HPr.out]
              have HLk:=hDx hlk;have HL9:=hDx hL9;have HN9:=hDx hn9;clear hL9 hn9 hlk
              go_wp2_with fail
              refine HF.out.mono ?_;rintro e w10 ⟨rfl,h10,hg10⟩;have hL10:=HL9.out.took (st':=failS sq.1 sq.2 1) h10 hg10;rw [← HLk.out] at hL10;have hn10:w10.heap[nb]?=some (.cells #[.int .i64 (n:Int),.int .i32 c1,.int .i64 c2,.int .i64 c3] 129 (0,0)):=(hg10.block nb (gSx.1 HN9.out).1 (fun e=>HNp.out (Option.some.inj e))).trans HN9.out;clear h10 hg10 HF;have g0:w10.cell? ⟨nb,0,none⟩=some (.int .i64 (n:Int)):=by rw [cell_block hn10]; rfl
              have g1:w10.cell? ⟨nb,1,none⟩=some (.int .i32 c1):=by rw [cell_block hn10]; rfl
              have g2:w10.cell? ⟨nb,2,none⟩=some (.int .i64 c2):=by rw [cell_block hn10]; rfl
              have g3:w10.cell? ⟨nb,3,none⟩=some (.int .i64 c3):=by rw [cell_block hn10]; rfl
              obtain ⟨wA,hwA⟩ : ∃ wA,w10.alloc (.cells #[.int .i64 (n:Int),.int .i32 c1,.int .i64 c2,.int .i64 c3] 129)=wA:=⟨_,rfl⟩;have hbA:Below w10.heap.size w10 wA:=by rw [← hwA]; exact (Below.refl _ _).alloc (Nat.le_refl _) _
              have hqA:wA.heap[w10.heap.size]?=some (.cells (qCells (n,⟨c1,c2,c3⟩)).toArray 129 (0,0)):=by rw [← hwA]; exact heap_alloc_new w10 _
              have hLA:=hL10.below hbA;have HLA:=hDx hLA;have HQA:=hDx hqA;have HWA:=hDx hwA;have HnA:Hid (wA.heap[nb]?=some (.cells #[.int .i64 (n:Int),.int .i32 c1,.int .i64 c2,.int .i64 c3] 129 (0,0))):=hDx ((hbA.block nb (gSx.1 hn10).1).trans hn10);clear hL10 hn10 hwA hbA hqA hLA
              go_wp2_with (at_builtin; (try rw [HWA.out]); refine wpList_append_run rfl _ _ rfl rfl rb _ R1 (n,⟨c1,c2,c3⟩) w10.heap.size rfl rfl HLA.out.o HQA.out HRl.out HLA.out.sz ?_)
              intro v' wB hown hgr;have hLB:=HLA.out.more hown hgr;have hnB:wB.heap[nb]?=some (.cells #[.int .i64 (n:Int),.int .i32 c1,.int .i64 c2,.int .i64 c3] 129 (0,0)):=(hgr.block nb (gSx.1 HnA.out).1 (fun e=>HNo.out e.symm)).trans HnA.out;have u0:wB.cell? ⟨nb,0,none⟩=some (.int .i64 (n:Int)):=by rw [cell_block hnB]; rfl
              have HE:Hid (LpI p rb v' (R1++[(n,⟨c1,c2,c3⟩)]) (likeF sq pr ⟨c1,c2,c3⟩) w wB):=hDx hLB;obtain ⟨va,vc,hv',-⟩ := hown.shape;subst hv';clear hown hgr hLB hnB g0 g1 g2 g3 HLA HQA HWA HnA;have hnmI:(n:Int)≤(m:Int):=by have:=HNm.out; omega
              go_wp2_with fail
              go_roundw
              case rel =>
               refine ⟨R1++[(n,⟨c1,c2,c3⟩)],m - n,gq,likeF sq pr ⟨c1,c2,c3⟩,some ⟨c1,c2,c3⟩,(m:Int) - (n:Int),by first | rfl | go_num,by have:=HNm.out; omega,hDx ⟨HE.out,?_,?_,?_,?_⟩⟩
               · rw [List.getLast?_append]; rfl
               · rw [List.append_assoc]; exact HTot.out
               · have:=HFu.out;have hq:=HQ0.out;rcases Nat.eq_zero_or_pos n with h0 | h0
                 · exact .inr (hq h0)
                 · exact .inl (by omega)
               · rw [List.length_append]; have:=HRf.out; simp only [List.length_singleton]; omega
              case measure=>simp [lenOf]; have:=HRf.out; have:=HKk.out; omega
            · have HPr:Hid (¬ pr=some ⟨c1,c2,c3⟩):=hDx (by rw [HPv2.out]; intro h; injection h with h; injection h with h1 h2 h3; exact e3 h3);refine wp_region_quiet_below (by kernel_rfl) (by kernel_rfl) ?_
              repeat (go_big_quiet_step (fail))
              refine wpQuiet_nil ?_;intro _ hw';obtain ⟨⟨dq,osq⟩,hw''⟩ := hw';have hb9:=below_regrown w6 dq osq;obtain ⟨w9,hw9⟩ : ∃ w9,Go.Sort.grow (redrawn w6 dq) osq=w9:=⟨_,rfl⟩;rw [hw''];simp only;rw [hw9] at hb9 ⊢;have hL9:=HL6.out.below hb9;have hn9:w9.heap[nb]?=some (.cells #[.int .i64 (n:Int),.int .i32 c1,.int .i64 c2,.int .i64 c3] 129 (0,0)):=(hb9.block nb (gSx.1 HN6.out).1).trans HN6.out;clear hw'' hw9 hb9 z0 z1 z2 z3 y1 y2 y3 n0 n1 n2 n3;have hlk:likeF sq pr ⟨c1,c2,c3⟩=sq:=by unfold likeF; rw [if_neg HPr.out]
              have hL10:=hL9;rw [← hlk] at hL10;clear hlk;have hn10:=hn9;obtain ⟨w10,hw10⟩ : ∃ w10,w9=w10:=⟨_,rfl⟩;subst hw10;clear hL9 hn9;have g0:w9.cell? ⟨nb,0,none⟩=some (.int .i64 (n:Int)):=by rw [cell_block hn10]; rfl
              have g1:w9.cell? ⟨nb,1,none⟩=some (.int .i32 c1):=by rw [cell_block hn10]; rfl
              have g2:w9.cell? ⟨nb,2,none⟩=some (.int .i64 c2):=by rw [cell_block hn10]; rfl
              have g3:w9.cell? ⟨nb,3,none⟩=some (.int .i64 c3):=by rw [cell_block hn10]; rfl
              obtain ⟨wA,hwA⟩ : ∃ wA,w9.alloc (.cells #[.int .i64 (n:Int),.int .i32 c1,.int .i64 c2,.int .i64 c3] 129)=wA:=⟨_,rfl⟩;have hbA:Below w9.heap.size w9 wA:=by rw [← hwA]; exact (Below.refl _ _).alloc (Nat.le_refl _) _
              have hqA:wA.heap[w9.heap.size]?=some (.cells (qCells (n,⟨c1,c2,c3⟩)).toArray 129 (0,0)):=by rw [← hwA]; exact heap_alloc_new w9 _
              have hLA:=hL10.below hbA;have HLA:=hDx hLA;have HQA:=hDx hqA;have HWA:=hDx hwA;have HnA:Hid (wA.heap[nb]?=some (.cells #[.int .i64 (n:Int),.int .i32 c1,.int .i64 c2,.int .i64 c3] 129 (0,0))):=hDx ((hbA.block nb (gSx.1 hn10).1).trans hn10);clear hL10 hn10 hwA hbA hqA hLA
              go_wp2_with (at_builtin; (try rw [HWA.out]); refine wpList_append_run rfl _ _ rfl rfl rb _ R1 (n,⟨c1,c2,c3⟩) w9.heap.size rfl rfl HLA.out.o HQA.out HRl.out HLA.out.sz ?_)
              intro v' wB hown hgr;have hLB:=HLA.out.more hown hgr;have hnB:wB.heap[nb]?=some (.cells #[.int .i64 (n:Int),.int .i32 c1,.int .i64 c2,.int .i64 c3] 129 (0,0)):=(hgr.block nb (gSx.1 HnA.out).1 (fun e=>HNo.out e.symm)).trans HnA.out;have u0:wB.cell? ⟨nb,0,none⟩=some (.int .i64 (n:Int)):=by rw [cell_block hnB]; rfl
              have HE:Hid (LpI p rb v' (R1++[(n,⟨c1,c2,c3⟩)]) (likeF sq pr ⟨c1,c2,c3⟩) w wB):=hDx hLB;obtain ⟨va,vc,hv',-⟩ := hown.shape;subst hv';clear hown hgr hLB hnB g0 g1 g2 g3 HLA HQA HWA HnA;have hnmI:(n:Int)≤(m:Int):=by have:=HNm.out; omega
              go_wp2_with fail
              go_roundw
              case rel =>
               refine ⟨R1++[(n,⟨c1,c2,c3⟩)],m - n,gq,likeF sq pr ⟨c1,c2,c3⟩,some ⟨c1,c2,c3⟩,(m:Int) - (n:Int),by first | rfl | go_num,by have:=HNm.out; omega,hDx ⟨HE.out,?_,?_,?_,?_⟩⟩
               · rw [List.getLast?_append]; rfl
               · rw [List.append_assoc]; exact HTot.out
               · have:=HFu.out;have hq:=HQ0.out;rcases Nat.eq_zero_or_pos n with h0 | h0
                 · exact .inr (hq h0)
                 · exact .inl (by omega)
               · rw [List.length_append]; have:=HRf.out; simp only [List.length_singleton]; omega
              case measure=>simp [lenOf]; have:=HRf.out; have:=HKk.out; omega
          · have HPr:Hid (¬ pr=some ⟨c1,c2,c3⟩):=hDx (by rw [HPv2.out]; intro h; injection h with h; injection h with h1 h2 h3; exact e2 h2);refine wp_region_quiet_below (by kernel_rfl) (by kernel_rfl) ?_
            repeat (go_big_quiet_step (fail))
            refine wpQuiet_nil ?_;intro _ hw';obtain ⟨⟨dq,osq⟩,hw''⟩ := hw';have hb9:=below_regrown w6 dq osq;obtain ⟨w9,hw9⟩ : ∃ w9,Go.Sort.grow (redrawn w6 dq) osq=w9:=⟨_,rfl⟩;rw [hw''];simp only;rw [hw9] at hb9 ⊢;have hL9:=HL6.out.below hb9;have hn9:w9.heap[nb]?=some (.cells #[.int .i64 (n:Int),.int .i32 c1,.int .i64 c2,.int .i64 c3] 129 (0,0)):=(hb9.block nb (gSx.1 HN6.out).1).trans HN6.out;clear hw'' hw9 hb9 z0 z1 z2 z3 y1 y2 y3 n0 n1 n2 n3;have hlk:likeF sq pr ⟨c1,c2,c3⟩=sq:=by unfold likeF; rw [if_neg HPr.out]
            have hL10:=hL9;rw [← hlk] at hL10;clear hlk;have hn10:=hn9;obtain ⟨w10,hw10⟩ : ∃ w10,w9=w10:=⟨_,rfl⟩;subst hw10;clear hL9 hn9;have g0:w9.cell? ⟨nb,0,none⟩=some (.int .i64 (n:Int)):=by rw [cell_block hn10]; rfl
            have g1:w9.cell? ⟨nb,1,none⟩=some (.int .i32 c1):=by rw [cell_block hn10]; rfl
            have g2:w9.cell? ⟨nb,2,none⟩=some (.int .i64 c2):=by rw [cell_block hn10]; rfl
            have g3:w9.cell? ⟨nb,3,none⟩=some (.int .i64 c3):=by rw [cell_block hn10]; rfl
            obtain ⟨wA,hwA⟩ : ∃ wA,w9.alloc (.cells #[.int .i64 (n:Int),.int .i32 c1,.int .i64 c2,.int .i64 c3] 129)=wA:=⟨_,rfl⟩;have hbA:Below w9.heap.size w9 wA:=by rw [← hwA]; exact (Below.refl _ _).alloc (Nat.le_refl _) _
            have hqA:wA.heap[w9.heap.size]?=some (.cells (qCells (n,⟨c1,c2,c3⟩)).toArray 129 (0,0)):=by rw [← hwA]; exact heap_alloc_new w9 _
            have hLA:=hL10.below hbA;have HLA:=hDx hLA;have HQA:=hDx hqA;have HWA:=hDx hwA;have HnA:Hid (wA.heap[nb]?=some (.cells #[.int .i64 (n:Int),.int .i32 c1,.int .i64 c2,.int .i64 c3] 129 (0,0))):=hDx ((hbA.block nb (gSx.1 hn10).1).trans hn10);clear hL10 hn10 hwA hbA hqA hLA
            go_wp2_with (at_builtin; (try rw [HWA.out]); refine wpList_append_run rfl _ _ rfl rfl rb _ R1 (n,⟨c1,c2,c3⟩) w9.heap.size rfl rfl HLA.out.o HQA.out HRl.out HLA.out.sz ?_)
            intro v' wB hown hgr;have hLB:=HLA.out.more hown hgr;have hnB:wB.heap[nb]?=some (.cells #[.int .i64 (n:Int),.int .i32 c1,.int .i64 c2,.int .i64 c3] 129 (0,0)):=(hgr.block nb (gSx.1 HnA.out).1 (fun e=>HNo.out e.symm)).trans HnA.out;have u0:wB.cell? ⟨nb,0,none⟩=some (.int .i64 (n:Int)):=by rw [cell_block hnB]; rfl
            have HE:Hid (LpI p rb v' (R1++[(n,⟨c1,c2,c3⟩)]) (likeF sq pr ⟨c1,c2,c3⟩) w wB):=hDx hLB;obtain ⟨va,vc,hv',-⟩ := hown.shape;subst hv';clear hown hgr hLB hnB g0 g1 g2 g3 HLA HQA HWA HnA;have hnmI:(n:Int)≤(m:Int):=by have:=HNm.out; omega
            go_wp2_with fail
            go_roundw
            case rel =>
             refine ⟨R1++[(n,⟨c1,c2,c3⟩)],m - n,gq,likeF sq pr ⟨c1,c2,c3⟩,some ⟨c1,c2,c3⟩,(m:Int) - (n:Int),by first | rfl | go_num,by have:=HNm.out; omega,hDx ⟨HE.out,?_,?_,?_,?_⟩⟩
             · rw [List.getLast?_append]; rfl
             · rw [List.append_assoc]; exact HTot.out
             · have:=HFu.out;have hq:=HQ0.out;rcases Nat.eq_zero_or_pos n with h0 | h0
               · exact .inr (hq h0)
               · exact .inl (by omega)
             · rw [List.length_append]; have:=HRf.out; simp only [List.length_singleton]; omega
            case measure=>simp [lenOf]; have:=HRf.out; have:=HKk.out; omega
        · have HPr:Hid (¬ pr=some ⟨c1,c2,c3⟩):=hDx (by rw [HPv2.out]; intro h; injection h with h; injection h with h1 h2 h3; exact e1 h1);refine wp_region_quiet_below (by kernel_rfl) (by kernel_rfl) ?_
          repeat (go_big_quiet_step (fail))
          refine wpQuiet_nil ?_;intro _ hw';obtain ⟨⟨dq,osq⟩,hw''⟩ := hw';have hb9:=below_regrown w6 dq osq;obtain ⟨w9,hw9⟩ : ∃ w9,Go.Sort.grow (redrawn w6 dq) osq=w9:=⟨_,rfl⟩;rw [hw''];simp only;rw [hw9] at hb9 ⊢;have hL9:=HL6.out.below hb9;have hn9:w9.heap[nb]?=some (.cells #[.int .i64 (n:Int),.int .i32 c1,.int .i64 c2,.int .i64 c3] 129 (0,0)):=(hb9.block nb (gSx.1 HN6.out).1).trans HN6.out;clear hw'' hw9 hb9 z0 z1 z2 z3 y1 y2 y3 n0 n1 n2 n3;have hlk:likeF sq pr ⟨c1,c2,c3⟩=sq:=by unfold likeF; rw [if_neg HPr.out]
          have hL10:=hL9;rw [← hlk] at hL10;clear hlk;have hn10:=hn9;obtain ⟨w10,hw10⟩ : ∃ w10,w9=w10:=⟨_,rfl⟩;subst hw10;clear hL9 hn9;have g0:w9.cell? ⟨nb,0,none⟩=some (.int .i64 (n:Int)):=by rw [cell_block hn10]; rfl
          have g1:w9.cell? ⟨nb,1,none⟩=some (.int .i32 c1):=by rw [cell_block hn10]; rfl
          have g2:w9.cell? ⟨nb,2,none⟩=some (.int .i64 c2):=by rw [cell_block hn10]; rfl
          have g3:w9.cell? ⟨nb,3,none⟩=some (.int .i64 c3):=by rw [cell_block hn10]; rfl
          obtain ⟨wA,hwA⟩ : ∃ wA,w9.alloc (.cells #[.int .i64 (n:Int),.int .i32 c1,.int .i64 c2,.int .i64 c3] 129)=wA:=⟨_,rfl⟩;have hbA:Below w9.heap.size w9 wA:=by rw [← hwA]; exact (Below.refl _ _).alloc (Nat.le_refl _) _
          have hqA:wA.heap[w9.heap.size]?=some (.cells (qCells (n,⟨c1,c2,c3⟩)).toArray 129 (0,0)):=by rw [← hwA]; exact heap_alloc_new w9 _
          have hLA:=hL10.below hbA;have HLA:=hDx hLA;have HQA:=hDx hqA;have HWA:=hDx hwA;have HnA:Hid (wA.heap[nb]?=some (.cells #[.int .i64 (n:Int),.int .i32 c1,.int .i64 c2,.int .i64 c3] 129 (0,0))):=hDx ((hbA.block nb (gSx.1 hn10).1).trans hn10);clear hL10 hn10 hwA hbA hqA hLA
          go_wp2_with (at_builtin; (try rw [HWA.out]); refine wpList_append_run rfl _ _ rfl rfl rb _ R1 (n,⟨c1,c2,c3⟩) w9.heap.size rfl rfl HLA.out.o HQA.out HRl.out HLA.out.sz ?_)
          intro v' wB hown hgr;have hLB:=HLA.out.more hown hgr;have hnB:wB.heap[nb]?=some (.cells #[.int .i64 (n:Int),.int .i32 c1,.int .i64 c2,.int .i64 c3] 129 (0,0)):=(hgr.block nb (gSx.1 HnA.out).1 (fun e=>HNo.out e.symm)).trans HnA.out;have u0:wB.cell? ⟨nb,0,none⟩=some (.int .i64 (n:Int)):=by rw [cell_block hnB]; rfl
          have HE:Hid (LpI p rb v' (R1++[(n,⟨c1,c2,c3⟩)]) (likeF sq pr ⟨c1,c2,c3⟩) w wB):=hDx hLB;obtain ⟨va,vc,hv',-⟩ := hown.shape;subst hv';clear hown hgr hLB hnB g0 g1 g2 g3 HLA HQA HWA HnA;have hnmI:(n:Int)≤(m:Int):=by have:=HNm.out; omega
          go_wp2_with fail
          go_roundw
          case rel =>
           refine ⟨R1++[(n,⟨c1,c2,c3⟩)],m - n,gq,likeF sq pr ⟨c1,c2,c3⟩,some ⟨c1,c2,c3⟩,(m:Int) - (n:Int),by first | rfl | go_num,by have:=HNm.out; omega,hDx ⟨HE.out,?_,?_,?_,?_⟩⟩
           · rw [List.getLast?_append]; rfl
           · rw [List.append_assoc]; exact HTot.out
           · have:=HFu.out;have hq:=HQ0.out;rcases Nat.eq_zero_or_pos n with h0 | h0
             · exact .inr (hq h0)
             · exact .inl (by omega)
           · rw [List.length_append]; have:=HRf.out; simp only [List.length_singleton]; omega
          case measure=>simp [lenOf]; have:=HRf.out; have:=HKk.out; omega
    · have dL:decide ((m:Int) > 0)=true:=decide_eq_true (by omega);have dL2:decide (0<m)=true:=decide_eq_true (by omega);have HEr:=hDx (err_any p sj.1 sj.2 wr HF.out.1.i);have HEr2:=hDx (err_any p sj.1 sj.2 wr HF.out.1.i);have hrk:=HF.out.1.rk;have k0:wr.cell? ⟨rb,0,none⟩=some (.slice none 0 0):=by rw [cell_block hrk]; rfl
      have k1:wr.cell? ⟨rb,1,none⟩=some (.bool false):=by rw [cell_block hrk]; rfl
      have f0:=frozen_block hrk 0;have f1:=frozen_block hrk 1;have q2:((sj.2:Int) != 0)=true:=by rw [bne_iff_ne]; omega
      have q3:((sj.2:Int) == 0)=false:=by rw [beq_eq_false_iff_ne]; omega
      have hend:Hid (P (.returned (.agg #[.slice none 0 0,.bool false])) ((wr.setCell ⟨rb,0,none⟩ (.slice none 0 0)).setCell ⟨rb,1,none⟩ (.bool false))):=hDx (by
       have hs:=rowS_stop (f:=f) (m:=m) (pr:=pr) (.inr he) (.inr he);have ht:=HF.out.2.2.1.2;rw [hs] at ht;have ht2:sj=tot.1:=ht;rw [← HP.out,HRd.out,← ht2,if_neg he];have hne:p≠rb:=by have:=HF.out.1.pr; omega
       have h0:=HF.out.1.h0;exact ⟨_,rfl,OwnC.nil _ _ _ _,inst_setOther (inst_setOther HF.out.1.i hne _ _) hne _ _,grown_setNew (grown_setNew HF.out.1.g (by omega) _ _) (by omega) _ _⟩)
      clear he HF hrk
      go_wp2_with fail
      refine HEr.out.mono ?_;rintro e w4 ⟨rfl,rfl⟩
      go_wp2_with fail
      refine HEr2.out.mono ?_;rintro e w4 ⟨rfl,rfl⟩
      go_wp2_with fail
      refine bodyPost_ret (v:=.agg #[.slice none 0 0,.bool false]) (by rw [results_cell rfl]; go_simp) rfl ?_;exact hend.out
  · by_cases he:sj.2=0
    · have dL:decide (L > 0)=false:=decide_eq_false (by omega);have dL2:decide (0<L)=false:=decide_eq_false (by omega);have hm:m=0:=by omega
      have hEr:=err_any p sj.1 sj.2 wr HF.out.1.i;rw [he] at hEr;have hEr':Calls Tryd.prog 92 #[.pointer (some ⟨p,0,none⟩)] wr fun en w'=>en=.returned (.int .i64 0)∧wr=w':=hEr
      have HEr:=hDx hEr';have hs:=rowS_stop (f:=f) (m:=m) (pr:=pr) (.inl hm) (HF.out.2.2.2.1);have ht:=HF.out.2.2.1;rw [hs] at ht;have ht1:R1=tot.2:=by have:=ht.1; rwa [List.append_nil] at this
      have ht2:sj=tot.1:=ht.2;obtain ⟨-,-,hgood,hlen⟩ := rowS_zero (m0+1) m0 s0 none (by omega) (by rw [HTot0.out,← ht2]; exact he);rw [HTot0.out,← ht1] at hgood hlen;have HGd:=hDx hgood;have HLen:Hid ((expR R1).length≤2000):=hDx (by omega);have HRo:Hid (readR st W.toNat=(sj,⟨expR R1,bw⟩)):=hDx (by rw [HRd.out,← ht2,if_pos he,← ht1]);have HLp:=hDx HF.out.1;obtain ⟨w9,hw9⟩ : ∃ w9,wr=w9:=⟨_,rfl⟩;rw [hw9] at HLp HEr ⊢;obtain ⟨B2,hB2⟩ : ∃ B2,w9.heap.size=B2:=⟨_,rfl⟩;obtain ⟨w10,hw10⟩ : ∃ w10,w9.alloc (.cells #[.slice none 0 0,.bool bw] 57)=w10:=⟨_,rfl⟩;have hR10:Rr17 B2 B2 (.slice none 0 0) [] bw w9 w10:=by
       have hb:Below w9.heap.size w9 w10:=by rw [← hw10]; exact (Below.refl _ _).alloc (Nat.le_refl _) _
       rw [hB2] at hb;refine ⟨OwnC.nil _ _ _ _,?_,hb,rfl,?_⟩
       · rw [← hw10,← hB2]; exact heap_alloc_new w9 _
       · rw [← hw10,World.size_alloc,hB2]; omega
      have HR10:=hDx hR10;have HW10:=hDx hw10;have HB2:=hDx hB2;have hkI:(kk:Int)≤3000:=by omega
      clear dL dL2 hEr hEr' hs ht ht1 ht2 hgood hlen HF hw9 hw10 hB2 hR10 he hm hLm
      go_upto_region 4 with fail
      have dL:decide (L > 0)=false:=decide_eq_false (by omega);have dL2:decide (0<L)=false:=decide_eq_false (by omega)
      go_wp2_with fail
      refine HEr.out.mono ?_;rintro e w4 ⟨rfl,rfl⟩
      go_upto_region 14 with fail
      rw [HW10.out,HB2.out]
      go_wp2_with fail
      go_loopw [60] (fun i wz=>∃ j:Nat,i=.int .i64 (j:Int)∧j≤kk∧Hid (∃ v,Rr17 B2 B2 v (expR (R1.take j)) bw w9 wz)) (fun i _=>kk - (intOf i).toNat)
      case atStart=>exact ⟨0,rfl,Nat.zero_le _,hDx ⟨_,HR10.out⟩⟩
      case round =>
       obtain ⟨j,rfl,hj,HJ⟩ := hrel;obtain ⟨v,hv⟩ := HJ.out;by_cases hlt:j<kk
       · have hd:decide (j<kk)=true:=decide_eq_true hlt;have hjI:(j:Int)<kk:=by omega
         have hjl:j<R1.length:=by rw [← HKk.out]; exact hlt
         obtain ⟨a',c',hsl,hfc,htc,hat⟩ := HLp.out.o.shape;obtain ⟨rfl,-,rfl⟩ : oa=a'∧kk=R1.length∧oc=c':=by injection hsl with e1 e2 e3; exact ⟨e1,e2,e3⟩
         obtain ⟨ob,rfl,hob,hol,hAt⟩ := hat.resolve_left (by intro e; rw [e] at hjl; simp at hjl);have hr:=(hAt j R1[j] (List.getElem?_eq_getElem hjl)).below hv.b (by rw [← HB2.out]; exact hol);have hnx:expR (R1.take (j+1))=expR (R1.take j)++List.replicate R1[j].1 R1[j].2:=by
          rw [List.take_succ_eq_append_getElem hjl,expR_append];unfold expR;simp
         have hlj:(expR (R1.take (j+1))).length≤(expR R1).length:=by
          have e:expR R1=expR (R1.take (j+1))++expR (R1.drop (j+1)):=by rw [← expR_append,List.take_append_drop]
          rw [e,List.length_append];omega
         obtain ⟨⟨n,⟨x1,x2,x3⟩⟩,hq⟩ : ∃ q,R1[j]=q:=⟨_,rfl⟩;rw [hq] at hr hnx;simp only at hnx;have HNx:=hDx hnx;rw [hnx,List.length_append,List.length_replicate] at hlj;obtain ⟨l,hl⟩ : ∃ l,expR (R1.take j)=l:=⟨_,rfl⟩;rw [hl] at HNx hlj hv;obtain ⟨va,vc,rfl,-⟩ := hv.o.shape;have HNI:Hid ((n:Int)≤1000000):=hDx (by have:=HLen.out; omega);have HLl:Hid ((l.length:Int)≤1000000):=hDx (by have:=HLen.out; omega);have k0:=hr.c0;have k1:=hr.c1;have k2:=hr.c2;have k3:=hr.c3;simp only [Nat.add_assoc,Nat.reduceAdd] at k0 k1 k2 k3;obtain ⟨qb,hqb⟩ : ∃ qb,wr.heap.size=qb:=⟨_,rfl⟩;obtain ⟨w5,hw5⟩ : ∃ w5,wr.alloc (.cells #[.int .i64 (n:Int),.int .i32 x1,.int .i64 x2,.int .i64 x3] 129)=w5:=⟨_,rfl⟩;have hn5:w5.heap[qb]?=some (.cells #[.int .i64 (n:Int),.int .i32 x1,.int .i64 x2,.int .i64 x3] 129 (0,0)):=by rw [← hw5,← hqb]; exact heap_alloc_new wr _
         have hb5:Below wr.heap.size wr w5:=by rw [← hw5]; exact (Below.refl _ _).alloc (Nat.le_refl _) _
         have hv5:=hv.below hb5;have hs5:qb<w5.heap.size:=(gSx.1 hn5).1;have HV5:=hDx hv5;have HW5:=hDx hw5;have HQb:=hDx hqb;have HN5:=hDx hn5;have HS5:=hDx hs5;have HQr:Hid (qb≠B2):=hDx (by have:=hv.sz; omega);clear hjl hsl hfc htc hat hob hol hAt hr hnx hlj hq hl hqb hw5 hn5 hb5 hv5 hs5 HJ hv
         go_upto_region 17 with fail
         rw [HW5.out,HQb.out];clear k0 k1 k2 k3;refine wp_region_kept [4,7,8,10] [2,2,0,0,1,1,1,2,3,3,4] (by kernel_rfl) (fun k f u=>St17 B2 B2 n (.slice va l.length vc) l bw x1 x2 x3 w9 k f u∧u.heap[qb]?=some (.cells #[.int .i64 (n:Int),.int .i32 x1,.int .i64 x2,.int .i64 x3] 129 (0,0))) (fun _ _=>True) (RrOk17 B2 qb n va vc l x1 x2 x3) (by rfl) (by kernel_rfl) (by kernel_rfl) (by kernel_rfl) (by kernel_rfl) ?hcong ?hOk ?hop ?hdone ?h0
         case hcong=>exact fun k f f2 u hs hst=>⟨St17.cong (fun hk=>hs 68 (mem_slots (by subst hk; kernel_rfl))) (fun hk=>hs 71 (mem_slots (by subst hk; kernel_rfl))) (fun hk=>hs 72 (mem_slots (by subst hk; kernel_rfl))) hst.1,hst.2⟩
         case hOk=>intro i u w1 w2 h hr; unfold RrOk17 at h ⊢; split <;> first | exact True.intro | exact h
         case h0=>exact ⟨HV5.out.below ((Below.refl _ _).drew),HN5.out⟩
         case hop =>
          refine ⟨?_,?_,?_,?_,?_,?_,?_,?_,?_,?_,?_,trivial⟩
          · intro k z v hk hst hag hdep hfr;refine .inl ⟨rfl,fun K hK=>?_⟩;have d10:z.tmps.getD 10 undef=.pointer (some ⟨B2,0,none⟩):=hag.2.2 10 (by kernel_rfl);have e10:=gEx d10;have HSt:=hDx hst;clear hdep hfr hag hst;go_simp;exact hK _ _ trivial rfl HSt.out
          · intro k z v hk hst hag hdep hfr;refine .inl ⟨rfl,fun K hK=>?_⟩;have d64:z.tmps.getD 64 undef=.pointer (some ⟨B2,0,none⟩):=hdep ⟨0,.data⟩ (by simp) rfl _ _ rfl rfl;have e64:=gEx d64;have h0:=St17.base3 (Nat.le_trans hk (by decide)) hst.1;have l0:=h0.2;have HSt:=hDx hst;clear hdep hfr hag hst;go_simp;exact hK _ _ trivial rfl HSt.out
          · intro k z v hk hst hag hdep hfr;refine .inl ⟨rfl,fun K hK=>?_⟩;have d12:z.tmps.getD 12 undef=.pointer (some ⟨qb,0,none⟩):=hag.2.2 12 (by kernel_rfl);have e12:=gEx d12;have HSt:=hDx hst;clear hdep hfr hag hst;go_simp;exact hK _ _ trivial rfl HSt.out
          · intro k z v hk hst hag hdep hfr;refine .inl ⟨rfl,fun K hK=>?_⟩;have d66:z.tmps.getD 66 undef=.pointer (some ⟨qb,1,none⟩):=hdep ⟨2,.data⟩ (by simp) rfl _ _ rfl rfl;have e66:=gEx d66;have l1:v.cell? ⟨qb,1,none⟩=some (.int .i32 x1):=by rw [cell_block hst.2]; rfl
            have l2:v.cell? ⟨qb,2,none⟩=some (.int .i64 x2):=by rw [cell_block hst.2]; rfl
            have l3:v.cell? ⟨qb,3,none⟩=some (.int .i64 x3):=by rw [cell_block hst.2]; rfl
            have HSt:=hDx hst;clear hdep hfr hag hst;go_simp;exact hK _ _ trivial rfl HSt.out
          · intro z v hst hag hdep hfr;refine ⟨rfl,fun K hK=>?_⟩;have d67:z.tmps.getD 67 undef=.agg #[.int .i32 x1,.int .i64 x2,.int .i64 x3]:=hdep ⟨3,.data⟩ (by simp) rfl _ _ rfl rfl;have e67:=gEx d67;have h0:Rr17 B2 B2 (.slice va l.length vc) l bw w9 v:=hst.1;have HQk:=hDx hst.2;have hsz:68<z.tmps.size:=by rw [hag.2.1]; show 68<76; decide
            have HSt:=hDx h0;clear hdep hfr hag hst h0;go_simp;have hb:Below v.heap.size v (v.alloc (.cells #[.int .i32 x1,.int .i64 x2,.int .i64 x3] 118)):=(Below.refl _ _).alloc (Nat.le_refl _) _;exact hK _ _ trivial True.intro ⟨⟨HSt.out.below hb,v.heap.size,slot_same hsz,by have:=HSt.out.sz; omega,heap_alloc_new v _⟩,(hb.block qb (gSx.1 HQk.out).1).trans HQk.out⟩
          · intro k z v hk hst hag hdep hfr;refine .inl ⟨rfl,fun K hK=>?_⟩;have d12:z.tmps.getD 12 undef=.pointer (some ⟨qb,0,none⟩):=hag.2.2 12 (by kernel_rfl);have e12:=gEx d12;have HSt:=hDx hst;clear hdep hfr hag hst;go_simp;exact hK _ _ trivial rfl HSt.out
          · intro k z v hk hst hag hdep hfr;refine .inl ⟨rfl,fun K hK=>?_⟩;have d69:z.tmps.getD 69 undef=.pointer (some ⟨qb,0,none⟩):=hdep ⟨5,.data⟩ (by simp) rfl _ _ rfl rfl;have e69:=gEx d69;have l0:v.cell? ⟨qb,0,none⟩=some (.int .i64 (n:Int)):=by rw [cell_block hst.2]; rfl
            have HSt:=hDx hst;clear hdep hfr hag hst;go_simp;exact hK _ _ trivial rfl HSt.out
          · intro z v hst hag hdep hfr;refine ⟨rfl,fun K hK=>?_⟩;have d70:z.tmps.getD 70 undef=.int .i64 (n:Int):=hdep ⟨6,.data⟩ (by simp) rfl _ _ rfl rfl;have e70:=gEx d70;obtain ⟨⟨h0,q,f68,hq1,hq2⟩,hqk⟩ := hst;have HQk:=hDx hqk;have d68:z.tmps.getD 68 undef=.slice (some ⟨q,0,none⟩) 1 1:=f68;have e68:=gEx d68;have hsz:71<z.tmps.size:=by rw [hag.2.1]; show 71<76; decide
            have HC:=hDx (repeat_cells q 0 1 n (cCells .i32 ⟨x1,x2,x3⟩) v rfl (fun i u hi=>by
             rw [addN,Nat.zero_add,cell_block hq2]
             simpa [cCells] using hi) (gSx.1 hq2).1 (fun u hu=>flatC_one .i32 [⟨x1,x2,x3⟩] u (by simpa [flatC] using hu)) HNI.out)
            have HSt:=hDx h0;clear hdep hfr hag h0 f68 hq1 hq2 hqk;go_simp;refine HC.out.mono ?_;rintro e w' ⟨rfl,hO,hb⟩;exact hK _ _ trivial True.intro ⟨⟨HSt.out.below hb,v.heap.size,slot_same hsz,hDx (by rw [rep_cells] at hO; unfold OwnC; rw [List.length_replicate]; exact hO)⟩,(hb.block qb (gSx.1 HQk.out).1).trans HQk.out⟩
          · intro z v hst hag hdep hfr;refine ⟨rfl,fun K hK=>?_⟩;have d65:z.tmps.getD 65 undef=.slice va l.length vc:=hdep ⟨1,.data⟩ (by simp) rfl _ _ rfl rfl;have e65:=gEx d65;obtain ⟨⟨h0,y,f71,hO⟩,hqk⟩ := hst;have HQk:=hDx hqk;have d71:z.tmps.getD 71 undef=.slice (some ⟨y,0,none⟩) n n:=f71;have hsz:72<z.tmps.size:=by rw [hag.2.1]; show 72<76; decide
            have HSt:=hDx h0;have hsh:=hO.out;obtain ⟨a4,c4,e4,hi4,hlo4,hn4,hf4,hx4⟩ := OwnC.shape hsh;rw [List.length_replicate] at e4 hi4;injection e4 with e41 e42 e43
            subst e41;refine wp_append_cells rowT _ _ rfl rfl (B2+1) (.slice va l.length vc) l _ n n (List.replicate n ⟨x1,x2,x3⟩) d65 d71 HSt.out.o hi4 (fun e=>by cases e) HLl.out (by rw [List.length_replicate]; exact HNI.out) HSt.out.sz1 ?_;intro v' w' k1 k2;exact hK _ _ trivial True.intro ⟨⟨v',slot_same hsz,HSt.out.more k1 k2⟩,(k2.block qb (gSx.1 HQk.out).1 (fun e=>by
             obtain ⟨cs,h1,-⟩ := U.own_type HSt.out.o e.symm;rw [HQk.out] at h1;injection h1 with h1
             injection h1 with _ h1
             revert h1
             decide)).trans HQk.out⟩
          · intro k z v hk hst hag hdep hfr;refine .inl ⟨rfl,fun K hK=>?_⟩;have d10:z.tmps.getD 10 undef=.pointer (some ⟨B2,0,none⟩):=hag.2.2 10 (by kernel_rfl);have e10:=gEx d10;have HSt:=hDx hst;clear hdep hfr hag hst;go_simp;exact hK _ _ trivial rfl HSt.out
          · intro z v hst hag hdep hfr;refine ⟨rfl,fun K hK=>?_⟩;have d73:z.tmps.getD 73 undef=.pointer (some ⟨B2,0,none⟩):=hdep ⟨9,.data⟩ (by simp) rfl _ _ rfl rfl;have e73:=gEx d73;obtain ⟨⟨v',f72,h7⟩,hqk⟩ := hst;have HQk:=hDx hqk;obtain ⟨wa,wc,hsl,-⟩ := h7.o.shape;subst hsl;obtain ⟨ln,hln⟩ : ∃ ln,(l++List.replicate n (⟨x1,x2,x3⟩ : Cel)).length=ln:=⟨_,rfl⟩;rw [hln] at f72 h7;have d72:z.tmps.getD 72 undef=.slice wa ln wc:=f72;have e72:=gEx d72;have l0:=h7.c0;have l1:=h7.fr;have HSt:=hDx h7;clear hdep hfr hag h7 f72 hqk hln;go_simp;exact hK undef _ trivial True.intro ⟨⟨_,HSt.out.store⟩,(Below.heap_setCell _ _ _ qb (HQr.out)).trans HQk.out⟩
         case hdone =>
          intro z v hst hag hok;obtain ⟨v',hv'⟩ : ∃ v',Rr17 B2 B2 v' (l++List.replicate n (⟨x1,x2,x3⟩ : Cel)) bw w9 v:=hst.1;have HE:Hid (∃ v',Rr17 B2 B2 v' (expR (R1.take (j+1))) bw w9 v):=hDx ⟨v',by rw [HNx.out]; exact hv'⟩;clear hst hv';obtain ⟨uu,hu,hzz⟩ := agree_frame [64,65,66,67,68,69,70,71,72,73] rfl hag;subst hzz;simp only [List.foldl_cons,List.foldl_nil];clear hu hag hok
          try dsimp only [Exit.then]
          simp only [List.setIfInBounds_toArray,List.set_cons_succ,List.set_cons_zero];generalize uu 64=u64',uu 65=u65',uu 66=u66',uu 67=u67',uu 68=u68',uu 69=u69',uu 70=u70',uu 71=u71',uu 72=u72',uu 73=u73';clear uu;rename_i K hK;refine hK _ _ ?_
          go_wp2_with fail
          go_roundw
          case rel=>exact ⟨j+1,by go_num,by omega,HE⟩
          case measure=>simp [intOf]; omega
       · obtain rfl:j=kk:=by omega
         have hd:decide (j<j)=false:=by simp
         have hall:expR (R1.take j)=expR R1:=by rw [HKk.out,List.take_length]
         rw [hall] at hv;obtain ⟨va,vc,rfl,-⟩ := hv.o.shape;have k0:wr.cell? ⟨B2,0,none⟩=some (.slice va (expR R1).length vc):=by rw [cell_block hv.bk]; rfl
         have k1:wr.cell? ⟨B2,1,none⟩=some (.bool bw):=by rw [cell_block hv.bk]; rfl
         have hrl:rb<B2:=by have:=(gSx.1 HLp.out.rk).1; have:=HB2.out; omega
         have hrk:wr.heap[rb]?=some (.cells #[.slice none 0 0,.bool false] 57 (0,0)):=(hv.b.block rb hrl).trans HLp.out.rk;have q0:wr.cell? ⟨rb,0,none⟩=some (.slice none 0 0):=by rw [cell_block hrk]; rfl
         have q1:wr.cell? ⟨rb,1,none⟩=some (.bool false):=by rw [cell_block hrk]; rfl
         have f0:=frozen_block hrk 0;have f1:=frozen_block hrk 1;have hend:Hid (P (.returned (.agg #[.slice va (expR R1).length vc,.bool bw])) ((wr.setCell ⟨rb,0,none⟩ (.slice va (expR R1).length vc)).setCell ⟨rb,1,none⟩ (.bool bw))):=hDx (by
          rw [← HP.out,HRo.out];have hne:p≠rb:=by have:=HLp.out.pr; omega
          have h0:=HLp.out.h0;have hi:InSt p sj.1 sj.2 wr:=by
           obtain ⟨s,h1,h2,h3⟩ := HLp.out.i;exact ⟨s,(hv.b.block p (by have:=HLp.out.pr; omega)).trans h1,h2,h3⟩
          have hg:w.grownBy wr (some p):=⟨hv.b.os.trans HLp.out.g.os,hv.b.tape.trans HLp.out.g.tape,hv.b.output.trans HLp.out.g.output,Nat.le_trans HLp.out.g.size hv.b.size,fun k hk hkp=>(hv.b.block k (by have:=HLp.out.g.size; have:=HB2.out; omega)).trans (HLp.out.g.block k hk hkp)⟩;exact ⟨_,rfl,(hv.o.set2 (by omega) _ _).weaken (by omega),inst_setOther (inst_setOther hi hne _ _) hne _ _,grown_setNew (grown_setNew hg (by omega) _ _) (by omega) _ _⟩)
         clear hall hv hrl hrk HJ
         go_wp2_with fail
         refine bodyPost_ret (v:=.agg #[.slice va (expR R1).length vc,.bool bw]) (by rw [results_cell rfl]; go_simp) rfl ?_;exact hend.out
    · have dL:decide (L > 0)=false:=decide_eq_false (by omega);have dL2:decide (0<L)=false:=decide_eq_false (by omega);have HEr2:=hDx (err_any p sj.1 sj.2 wr HF.out.1.i);have hrk:=HF.out.1.rk;have k0:wr.cell? ⟨rb,0,none⟩=some (.slice none 0 0):=by rw [cell_block hrk]; rfl
      have k1:wr.cell? ⟨rb,1,none⟩=some (.bool false):=by rw [cell_block hrk]; rfl
      have f0:=frozen_block hrk 0;have f1:=frozen_block hrk 1;have q2:((sj.2:Int) != 0)=true:=by rw [bne_iff_ne]; omega
      have q3:((sj.2:Int) == 0)=false:=by rw [beq_eq_false_iff_ne]; omega
      have hend:Hid (P (.returned (.agg #[.slice none 0 0,.bool false])) ((wr.setCell ⟨rb,0,none⟩ (.slice none 0 0)).setCell ⟨rb,1,none⟩ (.bool false))):=hDx (by
       have hs:=rowS_stop (f:=f) (m:=m) (pr:=pr) (.inr he) (.inr he);have ht:=HF.out.2.2.1.2;rw [hs] at ht;have ht2:sj=tot.1:=ht;rw [← HP.out,HRd.out,← ht2,if_neg he];have hne:p≠rb:=by have:=HF.out.1.pr; omega
       have h0:=HF.out.1.h0;exact ⟨_,rfl,OwnC.nil _ _ _ _,inst_setOther (inst_setOther HF.out.1.i hne _ _) hne _ _,grown_setNew (grown_setNew HF.out.1.g (by omega) _ _) (by omega) _ _⟩)
      clear he HF hrk
      go_wp2_with fail
      refine HEr2.out.mono ?_;rintro e w4 ⟨rfl,rfl⟩
      go_wp2_with fail
      refine bodyPost_ret (v:=.agg #[.slice none 0 0,.bool false]) (by rw [results_cell rfl]; go_simp) rfl ?_;exact hend.out
end Go.Proofs.YtagolklnjhpbdaaDoor.K
