import Derived.Test.YtagolklnjhpbdaaDoorMerged0
import Derived.Test.YtagolklnjhpbdaaDoorDtRead
import Derived.Test.YtagolklnjhpbdaaDoorDtDff
import Derived.Test.YtagolklnjhpbdaaDoorMerged13
import Derived.Test.YtagolklnjhpbdaaDoorMerged8
import Derived.Test.YtagolklnjhpbdaaDoorMerged5
namespace Go.Proofs.YtagolklnjhpbdaaDoor.K
open Go.RowKit Go.Proofs.YtagolklnjhpbdaaDoor.I
def pickN (l:List (Nat × Ro)) (a:Sn) (y:Nat):Option Ro:=match l.find? (fun x=>x.1 == y) with
  | some x=>if hasN a y x.2=true then none else some x.2
  | none=>a.R[y]?
def uponS (l:List (Nat × Ro)) (a:Sn):Nat→Option (List Ro)
  | 0=>some []
  | n+1=>match uponS l a n with
    | none=>none
    | some rs=>match pickN l a n with
      | none=>none
      | some r=>some (rs++[r])
def withR (s:Sn) (R:List Ro):Sn:={ s with R:=R }
def uponN (s:Sn) (l:List (Nat × Ro)) (a:Sn):Sn × Nat:=match uponS l a s.h.toNat with
  | none=>(emptyN,1)
  | some R=>if FullN (withR s R) then (withR s R,0) else (emptyN,1)
def applyN (a:Sn) (t:List UInt8):Sn × Nat :=
 if ¬ MayN a then (emptyN,1)
 else if endS (readD (t,0)).1.st.1 (readD (t,0)).1.st.2≠0 then (emptyN,endS (readD (t,0)).1.st.1 (readD (t,0)).1.st.2)
 else if (readD (t,0)).2.1≠Go.Proofs.YtagolklnjhpbdaaDoor.S.sumOf (packN a) then (emptyN,7)
 else uponN (readD (t,0)).2.2 (readD (t,0)).1.l a
theorem difL_places (a:Sn):∀ (R:List Ro) (o:Nat),((difL a o R).map Prod.fst).Pairwise (·<·)∧∀ x ∈ difL a o R,o≤x.1∧x.1<o+R.length
  | [],o=>⟨List.Pairwise.nil,fun x hx=>by cases hx⟩
  | r::R,o=>by
   obtain ⟨h1,h2⟩ := difL_places a R (o+1);unfold difL
   split
   · exact ⟨h1,fun x hx=>by have:=h2 x hx; rw [List.length_cons]; omega⟩
   · refine ⟨?_,fun x hx=>?_⟩
     · rw [List.map_cons];refine List.pairwise_cons.2 ⟨fun y hy=>?_,h1⟩;obtain ⟨x,hx,rfl⟩ := List.mem_map.1 hy;have:=(h2 x hx).1;show o<x.1;omega
     · rw [List.length_cons];rcases List.mem_cons.1 hx with rfl | hx
       · show o≤o∧o<o+(R.length+1);omega
       · have:=h2 x hx;omega
theorem difL_cons (a:Sn) (y:Nat) (r:Ro) (R:List Ro):difL a y (r::R)=if hasN a y r=true then difL a (y+1) R else (y,r)::difL a (y+1) R:=rfl
theorem difL_find (a:Sn):∀ (R:List Ro) (o y:Nat),o≤y→(difL a o R).find? (fun x=>x.1 == y)=match R[y - o]? with
    | some r=>if hasN a y r=true then none else some (y,r)
    | none=>none
  | [],o,y,_=>by simp [difL]
  | r::R,o,y,hy=>by
   by_cases he:y=o
   · subst he;have hn:(difL a (y+1) R).find? (fun x=>x.1 == y)=none:=by
      rw [List.find?_eq_none];intro x hx;have:=((difL_places a R (y+1)).2 x hx).1;simp;omega
     rw [Nat.sub_self];simp only [List.getElem?_cons_zero];rw [difL_cons];by_cases hh:hasN a y r=true
     · rw [if_pos hh,if_pos hh];exact hn
     · rw [if_neg hh,if_neg hh,List.find?_cons];simp
   · have ih:=difL_find a R (o+1) y (by omega);have e:y - o=(y - (o+1))+1:=by omega
     rw [e,List.getElem?_cons_succ,← ih];rw [difL_cons]
     split
     · rfl
     · rw [List.find?_cons];have e2:(o == y)=false:=by simpa using fun h=>he h.symm
       simp only [e2]
theorem pick_back (a:Sn) (R:List Ro) (y:Nat) (h:y<R.length):pickN (difL a 0 R) a y=some R[y]:=by
 unfold pickN;rw [difL_find a R 0 y (Nat.zero_le _),Nat.sub_zero,List.getElem?_eq_getElem h];simp only;by_cases hh:hasN a y R[y]=true
 · rw [if_pos hh];unfold hasN at hh
   simpa using hh
 · rw [if_neg hh];simp only;rw [if_neg hh]
theorem upon_back (a:Sn) (R:List Ro):∀ n,n≤R.length→uponS (difL a 0 R) a n=some (R.take n)
  | 0,_=>rfl
  | n+1,h=>by
   have ih:=upon_back a R n (by omega);unfold uponS;rw [ih];simp only;rw [pick_back a R n (by omega)];simp only;rw [List.take_succ_eq_append_getElem (by omega)]
theorem roundsM_front (w h:Nat):∀ (n:Nat) (m:Ms),roundsM w h (n+1) m=roundsM w h n (roundM w h m)
  | 0,_=>rfl
  | n+1,m=>by
   show roundM w h (roundsM w h (n+1) m)=roundM w h (roundsM w h n (roundM w h m));rw [roundsM_front w h n m]
theorem rounds_back {w h:Nat} (hw:w≤2000) (hh:h≤1000):∀ (l:List (Nat × Ro)) (m:Ms) (r:List UInt8),m.st=(rowsD l++r,0)→(l.map Prod.fst).Pairwise (·<·)→(∀ x ∈ l,m.least≤x.1∧x.1<h)→(∀ x ∈ l,AllC okC x.2.l∧x.2.l.length=w) →
    (roundsM w h l.length m).st=(r,0)∧(roundsM w h l.length m).l=m.l++l
  | [],m,r,hm,_,_,_=>⟨by show m.st=_; rw [hm]; rfl,by show m.l=_; simp⟩
  | x::l,m,r,hm,hp,hb,hr=>by
   obtain ⟨hx1,hx2⟩ := hb x List.mem_cons_self;obtain ⟨hr1,hr2⟩ := hr x List.mem_cons_self;rw [List.map_cons] at hp;obtain ⟨hp1,hp2⟩ := List.pairwise_cons.1 hp;have e:rowsD (x::l)=(numB (x.1:Int)++packR x.2)++rowsD l:=by simp [rowsD]
   have hn:msNum m=((packR x.2++(rowsD l++r),0),x.1):=by
    unfold msNum;rw [hm];simp only;rw [e,List.append_assoc,List.append_assoc,numS_nat (by omega) (by omega) _];simp
   have hk:msOk h m:=by unfold msOk; rw [hn]; exact ⟨hx1,hx2⟩
   have hs:msSt h m=(packR x.2++(rowsD l++r),0):=by unfold msSt; rw [if_pos hk,hn]
   have hR:=readR_back hr1 (by omega) (rowsD l++r);rw [hr2] at hR;have hro:roundM w h m=⟨(rowsD l++r,0),x.1+1,m.l++[x]⟩ := by
    unfold roundM;rw [if_neg (by rw [hm]; simp)];unfold msNext;rw [hs,hR,hn]
   rw [List.length_cons,roundsM_front,hro];obtain ⟨h1,h2⟩ := rounds_back hw hh l ⟨(rowsD l++r,0),x.1+1,m.l++[x]⟩ r rfl hp2 (fun y hy=>⟨hp1 y.1 (List.mem_map_of_mem hy),(hb y (List.mem_cons_of_mem _ hy)).2⟩) (fun y hy=>hr y (List.mem_cons_of_mem _ hy));exact ⟨h1,by rw [h2]; simp⟩
theorem readM_back {w h:Nat} (hw:w≤2000) (hh:h≤1000) (l:List (Nat × Ro)) (r:List UInt8) (hp:(l.map Prod.fst).Pairwise (·<·)) (hb:∀ x ∈ l,x.1<h) (hr:∀ x ∈ l,AllC okC x.2.l∧x.2.l.length=w) (hl:l.length≤1000) :
    (readM w h (numB (l.length:Int)++(rowsD l++r),0)).st=(r,0)∧(readM w h (numB (l.length:Int)++(rowsD l++r),0)).l=l:=by
 have hn:numS (numB (l.length:Int)++(rowsD l++r)) 0=((rowsD l++r,0),l.length):=by
  rw [numS_nat (by omega) (by omega)];simp
 unfold readM ms0;simp only;rw [hn];obtain ⟨h1,h2⟩ := rounds_back hw hh l ⟨(rowsD l++r,0),0,[]⟩ r rfl hp (fun x hx=>⟨Nat.zero_le _,hb x hx⟩) hr;exact ⟨h1,by rw [h2]; rfl⟩
theorem readD_back {b:Sn} (hb:FullN b) (a:Sn) (Sm:Nat) (hS:(Sm:Int)≤1152921504606846976):(readD (rawD (Sm:Int) b (difL a 0 b.R),0)).1.st=([],0)∧(readD (rawD (Sm:Int) b (difL a 0 b.R),0)).1.l=difL a 0 b.R∧(readD (rawD (Sm:Int) b (difL a 0 b.R),0)).2=(Sm,withR b []):=by
 obtain ⟨h1,h2,h3,h4⟩ := hb.1.resolve_left hb.2;have hpl:=difL_places a b.R 0;have hmem:=difL_mem a b.R 0;obtain ⟨l,hl⟩ : ∃ l,difL a 0 b.R=l:=⟨_,rfl⟩;have hll:l.length≤b.R.length:=by
  rw [← hl];have:∀ (R:List Ro) (o:Nat),(difL a o R).length≤R.length:=by
   intro R
   induction R with
   | nil=>intro o; simp [difL]
   | cons r R ih =>
    intro o;have:=ih (o+1);unfold difL
    split
    · rw [List.length_cons]; omega
    · rw [List.length_cons,List.length_cons]; omega
  exact this _ _
 rw [hl] at hpl hmem ⊢;obtain ⟨k,w,h,x,y,t,R,n,c,B⟩ := b;obtain ⟨⟨w1,w2⟩,⟨g1,g2⟩,⟨x1,x2⟩,y1,y2⟩ := h1;obtain ⟨⟨k1,k2⟩,⟨n1,n2⟩,⟨c1,c2⟩,t1⟩ := h2;obtain ⟨r1,r2⟩ := h3;have h5:=h4.may;obtain ⟨-,b2⟩ := h4;simp only at w1 w2 g1 g2 x1 x2 y1 y2 k1 k2 n1 n2 c1 c2 t1 r1 r2 b2 h5 hpl hmem hll;obtain ⟨z,hz⟩ : ∃ z,numB (l.length:Int)++rowsD l=z:=⟨_,rfl⟩;obtain ⟨s0,hs0⟩ : ∃ s0:Sta,(rawD (Sm:Int) ⟨k,w,h,x,y,t,R,n,c,B⟩ l,0)=s0:=⟨_,rfl⟩;have eU:pU s0=((numB k++(numB w++(numB h++(numB x++(numB y++(textB t++(numB n++(numB c++(packG B++z)))))))),0),Sm):=by
  rw [← hs0,pU_def];unfold rawD headB;rw [hz];simp only [List.append_assoc];rw [numS_nat (by omega) hS];simp
 obtain ⟨st,hst⟩ : ∃ st:Sta,(pU s0).1=st:=⟨_,rfl⟩;have hst2:st=(numB k++(numB w++(numB h++(numB x++(numB y++(textB t++(numB n++(numB c++(packG B++z)))))))),0):=by rw [← hst,eU]
 have eK:pK st=((numB w++(numB h++(numB x++(numB y++(textB t++(numB n++(numB c++(packG B++z))))))),0),k.toNat):=by
  rw [hst2,pK_def];exact numS_nat (by omega) k2 _
 have eW:pW st=((numB h++(numB x++(numB y++(textB t++(numB n++(numB c++(packG B++z)))))),0),w.toNat):=by
  rw [pW_def,eK]; exact atS_nat (by omega) w2 _
 have eH:pH st=((numB x++(numB y++(textB t++(numB n++(numB c++(packG B++z))))),0),h.toNat):=by
  rw [pH_def,eW]; exact atS_nat (by omega) g2 _
 have eX:pX st=((numB y++(textB t++(numB n++(numB c++(packG B++z)))),0),x.toNat):=by
  rw [pX_def,eH]; exact numS_nat x1 (by omega) _
 have eY:pY st=((textB t++(numB n++(numB c++(packG B++z))),0),y.toNat):=by
  rw [pY_def,eX]; exact numS_nat y1 (by omega) _
 have eT:pT st=((numB n++(numB c++(packG B++z)),0),t.data.toList):=by
  rw [pT_def,eY]; exact textS_back t _ (by omega)
 have eN:pN st=((numB c++(packG B++z),0),n.toNat):=by
  rw [pN_def,eT]; exact numS_nat n1 n2 _
 have eC:pC st=((packG B++z,0),c.toNat):=by
  rw [pC_def,eN]; exact numS_nat c1 (by omega) _
 have eB:pB st=((z,0),B):=by
  rw [pB_def,eC]; exact readS_back h5 b2 _
 have hM:=readM_back (w:=w.toNat) (h:=h.toNat) (by omega) (by omega) l [] hpl.1 (fun q hq=>by have:=(hpl.2 q hq).2; omega) (fun q hq=>⟨(r2 q.2 (hmem q hq)).2,by have:=(r2 q.2 (hmem q hq)).1; omega⟩) (by omega);rw [List.append_nil,hz] at hM;rw [hs0];unfold readD;rw [hst,eU,eK,eW,eH,eX,eY,eT,eN,eC,eB];refine ⟨hM.1,hM.2,?_⟩;simp only;rw [bytes_list,Int.toNat_of_nonneg (by omega),Int.toNat_of_nonneg (by omega),Int.toNat_of_nonneg (by omega),Int.toNat_of_nonneg x1,Int.toNat_of_nonneg y1,Int.toNat_of_nonneg n1,Int.toNat_of_nonneg c1]
 rfl
end Go.Proofs.YtagolklnjhpbdaaDoor.K

namespace Go.Proofs.YtagolklnjhpbdaaDoor.K
open Go.RowKit Go.Proofs.YtagolklnjhpbdaaDoor.I
theorem rawD_pos (Sm:Int) (b:Sn) (l:List (Nat × Ro)):rawD Sm b l≠[]:=fun e=>by
 have h1:=numB_pos Sm;have h2:=congrArg List.length e;unfold rawD at h2;rw [List.length_append,List.length_append,List.length_nil] at h2;omega
theorem diffN_nil (a b:Sn):diffN a b=[]↔¬ (MayN a∧FullN b):=by
 unfold diffN;by_cases h:MayN a∧FullN b
 · rw [if_pos h];exact ⟨fun e=>absurd e (rawD_pos _ _ _),fun e=>absurd h e⟩
 · rw [if_neg h];exact ⟨fun _=>h,fun _=>rfl⟩
theorem sum_le (a:Sn):((Go.Proofs.YtagolklnjhpbdaaDoor.S.sumOf (packN a):Nat):Int)≤1152921504606846976:=by
 have:=Go.Proofs.YtagolklnjhpbdaaDoor.S.sumOf_lt (packN a);omega
theorem withR_self (b:Sn):withR (withR b []) b.R=b:=by cases b; rfl
theorem upon_diff {b:Sn} (hb:FullN b) (a:Sn):uponN (withR b []) (difL a 0 b.R) a=(b,0):=by
 obtain ⟨h1,h2,h3,h4⟩ := hb.1.resolve_left hb.2;have hh:(withR b []).h.toNat=b.R.length:=by have:=h3.1; show b.h.toNat=_; omega
 unfold uponN;rw [hh,upon_back a b.R b.R.length (Nat.le_refl _),List.take_length];simp only;rw [withR_self,if_pos hb]
theorem apply_of {a b c:Sn} (ha:MayN a) (hb:FullN b) (hc:MayN c):applyN c (diffN a b)=if Go.Proofs.YtagolklnjhpbdaaDoor.S.sumOf (packN a)≠Go.Proofs.YtagolklnjhpbdaaDoor.S.sumOf (packN c) then (emptyN,7) else uponN (withR b []) (difL a 0 b.R) c:=by
 have hd:diffN a b=rawD ((Go.Proofs.YtagolklnjhpbdaaDoor.S.sumOf (packN a):Nat):Int) b (difL a 0 b.R):=by unfold diffN; rw [if_pos ⟨ha,hb⟩]
 obtain ⟨h1,h2,h3⟩ := readD_back hb a (Go.Proofs.YtagolklnjhpbdaaDoor.S.sumOf (packN a)) (sum_le a);unfold applyN;rw [if_neg (by simpa using hc),hd,h1,h2,h3];rw [if_neg (by decide)]
theorem apply_back {a b:Sn} (ha:MayN a) (hb:FullN b):applyN a (diffN a b)=(b,0):=by
 rw [apply_of ha hb ha,if_neg (by simp)];exact upon_diff hb a
theorem difL_self (b:Sn):difL b 0 b.R=[]:=by
 have h:∀ (R:List Ro) (o:Nat),(∀ i,i<R.length→b.R[o+i]?=R[i]?)→difL b o R=[]:=by
  intro R
  induction R with
  | nil=>intro o _; rfl
  | cons r R ih =>
   intro o ho;have h0:=ho 0 (by simp);simp only [Nat.add_zero,List.getElem?_cons_zero] at h0;rw [difL_cons,if_pos (by unfold hasN; simpa using h0)];refine ih (o+1) (fun i hi=>?_);have:=ho (i+1) (by rw [List.length_cons]; omega);rw [List.getElem?_cons_succ] at this;rw [← this]
   congr 1
   omega
 exact h b.R 0 (fun i _=>by rw [Nat.zero_add])
end Go.Proofs.YtagolklnjhpbdaaDoor.K

namespace Go.Proofs.YtagolklnjhpbdaaDoor.K
open Go.RowKit
theorem OwnC.from_ {rk:IntKind} {T:TypeId} {base:Nat} {x:Option Addr} {n y:Nat} {l:List Cel} {w:World} (h:OwnC rk T base (.slice x n y) l w):∀ b off,x=some ⟨b,off,none⟩→base≤b:=fun b off e=>by
 obtain ⟨a',c',e1,-,h2,-⟩ := h.shape;have e2:x=a':=by injection e1
 exact (h2 b off (by rw [← e2]; exact e)).1
def Apart (v:Value) (u:Rv):Prop:=u.n≠0→∀ b off,u.a=some ⟨b,off,none⟩→v.ownBlock≠some b
theorem Apart.fresh {T:TypeId} {base m:Nat} {v:Value} {us:List Rv} {u:Rv} {w:World} (h:OwnV T base v us w) (hm:w.heap.size≤m) (hu:∀ b off,u.a=some ⟨b,off,none⟩→m≤b):Apart v u:=fun _ b off e e'=>by
 have h1:=(h.ownBlock b e').2;have h2:=hu b off e;omega
theorem RowV.apart {rk:IntKind} {u:Rv} {r:Ro} {w w':World} {row:Option Nat} (h:RowV rk u.val r w) (hg:w.grownBy w' row) (hne:u.n≠0→∀ b off,u.a=some ⟨b,off,none⟩→row≠some b):RowV rk u.val r w':=by
 by_cases hn:u.n=0
 · obtain ⟨a,c,e,hi,h3⟩ := h;have e2:=Rv.val_inj (v:=⟨a,r.l.length,c,r.wrapped⟩) e;subst e2;exact ⟨a,c,rfl,⟨rfl,.inl (List.eq_nil_of_length_eq_zero hn)⟩,h3⟩
 · exact h.moved hg.size (fun b off e hl=>hg.block b hl (fun e'=>hne hn b off e e'.symm))
structure Gath (T:TypeId) (L:List Nat) (base:Nat) (v:Value) (rs:List Ro) (w:World):Prop where
 ex:∃ us,OwnV T base v us w∧RowsV .i64 us rs w∧(∀ u ∈ us,Off L u)∧∀ u ∈ us,Apart v u
theorem Gath.nil (T:TypeId) (L:List Nat) (base:Nat) (w:World):Gath T L base (.slice none 0 0) [] w:=⟨[],OwnV.nil _ _ _,RowsV.nil _ _,(fun u hu=>by cases hu),(fun u hu=>by cases hu)⟩
theorem Gath.belowAll {T:TypeId} {L:List Nat} {base:Nat} {v:Value} {rs:List Ro} {w w':World} (h:Gath T L base v rs w) (hb:Below w.heap.size w w'):Gath T L base v rs w':=by
 obtain ⟨us,h1,h2,h3,h4⟩ := h;exact ⟨us,h1.belowAll hb,h2.belowAll hb,h3,h4⟩
theorem Gath.keptB {T:TypeId} {L:List Nat} {base:Nat} {v:Value} {rs:List Ro} {w w':World} (h:Gath T L base v rs w) (hk:KeepB L w w') (hv:∀ q,v.ownBlock=some q→q ∉ L):Gath T L base v rs w':=by
 obtain ⟨us,h1,h2,h3,h4⟩ := h;refine ⟨us,?_,⟨h2.1,fun i u r hu hr=>(h2.2 i u r hu hr).keptB (h3 u (List.mem_of_getElem? hu)) hk⟩,h3,h4⟩;refine ⟨h1.1,?_⟩;rcases h1.2 with h0 | ⟨g',c',cur,he,hbase,hgb,hc,hmx,hsz,ht⟩
 · exact .inl h0
 · exact .inr ⟨g',c',cur,he,hbase,(hk.block g' (gSx.1 hgb).1 (hv g' (by rw [he]; rfl))).trans hgb,hc,hmx,hsz,ht⟩
theorem Gath.own {T:TypeId} {L:List Nat} {base:Nat} {v:Value} {rs:List Ro} {w:World} (h:Gath T L base v rs w):∀ q,v.ownBlock=some q→base≤q∧q<w.heap.size∧∃ cs,w.heap[q]?=some (.cells cs T (0,0)):=fun q hq=>by
 obtain ⟨us,h1,-⟩ := h.ex;obtain ⟨cs,h2,h3,h4⟩ := U.own_type h1 hq;exact ⟨h3,h4,cs,h2⟩
theorem Gath.shape {T:TypeId} {L:List Nat} {base:Nat} {v:Value} {rs:List Ro} {w:World} (h:Gath T L base v rs w):∃ a c,v=.slice a rs.length c∧(a=none→c=0)∧∀ b off,a=some ⟨b,off,none⟩→v.ownBlock=some b∧off=0:=by
 obtain ⟨us,h1,h2,-⟩ := h.ex;rcases h1.2 with ⟨rfl,h0⟩ | ⟨g,cap,cur,rfl,_⟩
 · exact ⟨none,0,by rw [← h2.1,h0],(fun _=>rfl),(fun _ _ e=>by cases e)⟩
 · exact ⟨some ⟨g,0,none⟩,cap,by rw [h2.1],(fun e=>by cases e),(fun b off e=>by cases e; exact ⟨rfl,rfl⟩)⟩
theorem Gath.rowsL {T:TypeId} {L L':List Nat} {base:Nat} {a:Option Addr} {n c:Nat} {rs:List Ro} {w:World} (h:Gath T L base (.slice a n c) rs w) (hs:∀ p ∈ L',p ∈ L) (hL:∀ p ∈ L',p<base):RowsL .i64 L' a n c rs w:=by
 obtain ⟨us,h1,h2,h3,-⟩ := h.ex;obtain ⟨a',c',e,-⟩ := h1.shape;cases e;exact h1.rowsL h2 (fun u hu hn b off e hb=>h3 u hu hn b off e (hs b hb)) hL
theorem Gath.weaken {T:TypeId} {L:List Nat} {base base':Nat} {v:Value} {rs:List Ro} {w:World} (h:Gath T L base v rs w) (hb:base'≤base):Gath T L base' v rs w:=by
 obtain ⟨us,h1,h2,h3,h4⟩ := h;exact ⟨us,h1.weaken hb,h2,h3,h4⟩
end Go.Proofs.YtagolklnjhpbdaaDoor.K

namespace Go.Proofs.YtagolklnjhpbdaaDoor.K
open Go.RowKit
end Go.Proofs.YtagolklnjhpbdaaDoor.K

namespace Go.Proofs.YtagolklnjhpbdaaDoor.K
open Go.RowKit
theorem RowsL.firstN {rk:IntKind} {L:List Nat} {a:Option Addr} {n c:Nat} {rs:List Ro} {w:World} (h:RowsL rk L a n c rs w) (k:Nat) (hk:k≤n):RowsL rk L a k c (rs.take k) w:=by
 obtain ⟨vs,h1,h2,h3⟩ := h.ex;refine ⟨⟨vs.take k,⟨by rw [List.length_take,← h1.len]; omega,Nat.le_trans hk h1.fit,h1.top,?_⟩,h2.take k,fun u hu=>h3 u (List.mem_of_mem_take hu)⟩,h.nil,fun hn=>h.off (by omega)⟩;rcases h1.at_ with h4 | ⟨b,off,ha,hb,hi⟩
 · left; rw [h4]; simp
 · refine .inr ⟨b,off,ha,hb,fun i u hu=>?_⟩;rw [List.getElem?_take] at hu
   split at hu
   · exact hi i u hu
   · cases hu
end Go.Proofs.YtagolklnjhpbdaaDoor.K

namespace Go.Proofs.YtagolklnjhpbdaaDoor.K
open Go.RowKit
end Go.Proofs.YtagolklnjhpbdaaDoor.K

namespace Go.Proofs.YtagolklnjhpbdaaDoor.K
open Go.RowKit
theorem wpList_append_one {t T:TypeId} {bytes:Nat} (hI:RvT t T bytes) {ops:Array Oper} {rest:List Oper} {o:Oper} {z:Act} {w:World} {Q:Exit→Act→World→Prop} (hgd:o.guard=none) (s x:Operand)
    (ho:o.op=.call { callee:=.builtin .append,args:=#[s,x],argTypes:=#[t,t] }) (hty:o.type=t)
    (base:Nat) (v:Value) (us:List Rv) (p:Nat) (u:Rv) (hs:z.eval s=v) (hxv:z.eval x=.slice (some ⟨p,0,none⟩) 1 1) (hown:OwnV T base v us w) (hp:RoB T p (.slice u.a u.n u.c) u.b w) (h1:us.length≤1000) (hbase:base≤w.heap.size)
    (hK:∀ v' w',OwnV T base v' (us++[u]) w'→w.grownBy w' v.ownBlock→(∀ q,v'.ownBlock=some q→v.ownBlock=some q∨w.heap.size≤q)→wpList Tryd.prog ops Q rest (z.put o.dst v') w'):wpList Tryd.prog ops Q (o::rest) z w :=
 wpList_plain hgd fun _ hK'=>by
  have hin:RvsIn (some ⟨p,0,none⟩) 1 1 [u] w:=⟨rfl,Nat.le_refl _,by decide,.inr ⟨p,0,rfl,hp.lt,fun i d hi=>by
   have h0:i=0:=by have:=(List.getElem?_eq_some_iff.1 hi).1; simp at this; omega
   subst h0;obtain rfl:u=d:=by simpa using hi
   exact ⟨hp.c0,hp.c1⟩⟩⟩
  obtain ⟨v',w',hr,k1,k2⟩ := run_append_rows hI base v us (some ⟨p,0,none⟩) 1 1 [u] w hown hin (fun e=>by cases e) (by omega) (by simp) hbase;unfold Oper.wp execOp;simp only [ho,hty,resolve,invoke,builtin,Sem.run_bind,Sem.run_pure,Result.andThen_ok,List.map_toArray,List.map_cons,List.map_nil,hs,hxv,hr];exact hK' _ _ (hK v' w' k1 k2.grown k2.block)
theorem RowsV.reverse {rk:IntKind} {us:List Rv} {rs:List Ro} {w:World} (h:RowsV rk us rs w):RowsV rk us.reverse rs.reverse w:=by
 refine ⟨by rw [List.length_reverse,List.length_reverse,h.1],fun i u r hu hr=>?_⟩;have hi:=(List.getElem?_eq_some_iff.1 hu).1;rw [List.length_reverse] at hi;rw [List.getElem?_reverse hi] at hu;rw [List.getElem?_reverse (by rw [← h.1]; exact hi),← h.1] at hr;exact h.2 _ u r hu hr
theorem OwnV.at {T:TypeId} {base q n c5:Nat} {us:List Rv} {w:World} (h:OwnV T base (.slice (some ⟨q,0,none⟩) n c5) us w) (hn:n=us.length) {i:Nat} {u:Rv} (hu:us[i]?=some u):w.cell? ⟨q,i*2,none⟩=some (.slice u.a u.n u.c)∧w.cell? ⟨q,i*2+1,none⟩=some (.bool u.b):=by
 subst hn;have hi:=(List.getElem?_eq_some_iff.1 hu).1;have hc:∀ j,j<2→w.cell? ⟨q,i*2+j,none⟩=(vCells u)[j]?:=fun j hj=>by
  rw [World.ownsRow.cellAt h (i*2+j) (by omega),flatV_get us i j u hu hj]
 exact ⟨hc 0 (by decide),hc 1 (by decide)⟩
end Go.Proofs.YtagolklnjhpbdaaDoor.K
