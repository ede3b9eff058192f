import Derived.Test.YtagolklnjhpbdaaDoorMerged0
import Derived.Test.YtagolklnjhpbdaaDoorMerged9
import Derived.Test.YtagolklnjhpbdaaDoorMerged10
import Derived.Deep.AppendSrc
import Derived.Deep.Upon
import Derived.Test.YtagolklnjhpbdaaDoorMerged3
import Derived.BigQuiet
import Derived.Lib.QuietBelow
namespace Go.Proofs.YtagolklnjhpbdaaDoor.K
open Go.RowKit
def OwnQ (rk:IntKind) (T:TypeId) (base:Nat) (v:Value) (l:List (Int × Int)) (w:World):Prop :=
 (v=.slice none 0 0∧l=[])∨∃ g off cap cs,v=.slice (some ⟨g,off,none⟩) l.length cap∧base≤g∧w.heap[g]?=some (.cells cs T (0,0))∧l.length≤cap∧cap≤maxLen∧off+cap*2≤cs.size ∧
   ∀ j u,(flatP rk l)[j]?=some u→w.cell? ⟨g,off+j,none⟩=some u
theorem OwnQ.nil (rk:IntKind) (T:TypeId) (base:Nat) (w:World):OwnQ rk T base (.slice none 0 0) [] w:=.inl ⟨rfl,rfl⟩
theorem OwnQ.own {rk:IntKind} {T:TypeId} {base:Nat} {v:Value} {l:List (Int × Int)} {w:World} (h:OwnQ rk T base v l w):∀ q,v.ownBlock=some q→base≤q∧q<w.heap.size∧∃ cs,w.heap[q]?=some (.cells cs T (0,0)):=fun q hq=>by
 rcases h with ⟨rfl,-⟩ | ⟨g,off,cap,cs,rfl,h1,h2,-⟩
 · cases hq
 · obtain rfl:g=q:=by simpa [Value.ownBlock] using hq
   exact ⟨h1,(gSx.1 h2).1,cs,h2⟩
theorem OwnQ.moved {rk:IntKind} {T:TypeId} {base:Nat} {v:Value} {l:List (Int × Int)} {w w':World} (h:OwnQ rk T base v l w) (hv:∀ q,v.ownBlock=some q→w'.heap[q]?=w.heap[q]?):OwnQ rk T base v l w':=by
 rcases h with h | ⟨g,off,cap,cs,rfl,h1,h2,h3,h4,h5,h6⟩
 · exact .inl h
 · have e:=hv g rfl;exact .inr ⟨g,off,cap,cs,rfl,h1,e.trans h2,h3,h4,h5,fun j u hj=>(World.cell?_of_block (a:=⟨g,off+j,none⟩) e).trans (h6 j u hj)⟩
theorem OwnQ.keptB {rk:IntKind} {T:TypeId} {base:Nat} {v:Value} {l:List (Int × Int)} {M:List Nat} {w w':World} (h:OwnQ rk T base v l w) (hk:KeepB M w w') (hv:∀ q,v.ownBlock=some q→q ∉ M):OwnQ rk T base v l w' :=
 h.moved (fun q hq=>hk.block q (h.own q hq).2.1 (hv q hq))
theorem OwnQ.below {rk:IntKind} {T:TypeId} {base:Nat} {v:Value} {l:List (Int × Int)} {w w':World} (h:OwnQ rk T base v l w) (hb:Below w.heap.size w w'):OwnQ rk T base v l w' :=
 h.moved (fun q hq=>hb.block q (h.own q hq).2.1)
theorem OwnQ.weaken {rk:IntKind} {T:TypeId} {base base':Nat} {v:Value} {l:List (Int × Int)} {w:World} (h:OwnQ rk T base v l w) (hb:base'≤base):OwnQ rk T base' v l w:=by
 rcases h with h | ⟨g,off,cap,cs,rfl,h1,h2⟩
 · exact .inl h
 · exact .inr ⟨g,off,cap,cs,rfl,Nat.le_trans hb h1,h2⟩
theorem OwnQ.shape {rk:IntKind} {T:TypeId} {base:Nat} {v:Value} {l:List (Int × Int)} {w:World} (h:OwnQ rk T base v l w):∃ a c,v=.slice a l.length c∧PairsIn rk a l.length c l w∧(a=none→c=0)∧(∀ b off,a=some ⟨b,off,none⟩→v.ownBlock=some b):=by
 rcases h with ⟨rfl,rfl⟩ | ⟨g,off,cap,cs,rfl,h1,h2,h3,h4,h5,h6⟩
 · exact ⟨none,0,rfl,⟨rfl,Nat.le_refl _,by decide,.inl rfl⟩,fun _=>rfl,fun b off e=>by cases e⟩
 · refine ⟨_,cap,rfl,⟨rfl,h3,by unfold maxLen at h4; omega,.inr ⟨g,off,rfl,(gSx.1 h2).1,fun i c hi=>?_⟩⟩,(fun e=>by cases e),(fun b o e=>by cases e; rfl)⟩;have hc:∀ j,j<2→w.cell? ⟨g,off+i*2+j,none⟩=(pCells rk c)[j]?:=fun j hj=>by
    obtain ⟨u,hu⟩ : ∃ u,(pCells rk c)[j]?=some u:=⟨_,List.getElem?_eq_getElem (by simp [pCells]; omega)⟩;rw [hu,Nat.add_assoc,h6 (i*2+j) u (by rw [flatP_get rk l i j c hi hj,hu])]
   exact ⟨hc 0 (by decide),hc 1 (by decide)⟩
theorem OwnP.toQ {rk:IntKind} {T:TypeId} {base:Nat} {v:Value} {l:List (Int × Int)} {w:World} (h:OwnP rk T base v l w):OwnQ rk T base v l w:=by
 rcases h.2 with ⟨rfl,h0⟩ | ⟨g,cap,cur,rfl,hbase,hg,hc,hm,hs,ht⟩
 · exact .inl ⟨rfl,List.length_eq_zero_iff.1 h0⟩
 · refine .inr ⟨g,0,cap,cur,rfl,hbase,hg,hc,hm,by omega,fun j u hj=>?_⟩;have hjl:j<(flatP rk l).length:=(List.getElem?_eq_some_iff.1 hj).1;rw [Nat.zero_add,World.ownsRow.cellAt h j (by rw [flatP_len] at hjl; exact hjl),hj]
theorem grown_setCells (g:Nat):∀ (vs:List Value) (o:Nat) (w:World),w.grownBy (w.setCells g o vs) (some g)
  | [],_,w=>⟨rfl,rfl,rfl,Nat.le_refl _,fun _ _ _=>rfl⟩
  | v::r,o,w=>by
   have h:w.grownBy (w.setCell ⟨g,o,none⟩ v) (some g):=⟨rfl,rfl,rfl,(KeepsWalks.setCell w _ v).size,fun k _ hk=>Below.heap_setCell w ⟨g,o,none⟩ v k (fun e=>hk (by rw [e]))⟩;have k:=grown_setCells g r (o+1) (w.setCell ⟨g,o,none⟩ v);exact ⟨k.os.trans h.os,k.tape.trans h.tape,k.output.trans h.output,Nat.le_trans h.size k.size,fun i hi hn=>(k.block i (Nat.lt_of_lt_of_le hi h.size) hn).trans (h.block i hi hn)⟩
theorem heap_setCells (g:Nat):∀ (vs:List Value) (o:Nat) (w:World) (cs:Array Value) (T:TypeId) (fr:Nat × Nat),w.heap[g]?=some (.cells cs T fr)→∃ cs',(w.setCells g o vs).heap[g]?=some (.cells cs' T fr)∧cs'.size=cs.size
  | [],_,_,cs,_,_,h=>⟨cs,h,rfl⟩
  | v::r,o,w,cs,T,fr,h=>by
   have h1:(w.setCell ⟨g,o,none⟩ v).heap[g]?=some (.cells (cs.setIfInBounds o v) T fr):=by simp [World.setCell,Array.getElem?_modify,h]
   obtain ⟨cs',h2,h3⟩ := heap_setCells g r (o+1) _ _ _ _ h1;exact ⟨cs',h2,by simpa using h3⟩
theorem cell_block {w:World} {g:Nat} {cs:Array Value} {T:TypeId} {fr:Nat × Nat} (h:w.heap[g]?=some (.cells cs T fr)) (j:Nat):w.cell? ⟨g,j,none⟩=cs[j]?:=by simp [World.cell?,h]
theorem frozen_block {w:World} {g:Nat} {cs:Array Value} {T:TypeId} (h:w.heap[g]?=some (.cells cs T (0,0))) (j:Nat):w.frozen? ⟨g,j,none⟩=false:=by simp [World.frozen?,h]
theorem PairsIn.news {rk:IntKind} {b off n c:Nat} {gs:List (Int × Int)} {w:World} (h:PairsIn rk (some ⟨b,off,none⟩) n c gs w):∀ j u,(flatP rk gs)[j]?=some u→w.cell? ((⟨b,off,none⟩ : Addr).add j)=some u:=fun j u hj=>by
 have hadd:((⟨b,off,none⟩ : Addr).add j)=⟨b,off+j,none⟩ := by unfold Addr.add; split <;> simp_all
 rw [hadd];have hjl:j<(flatP rk gs).length:=(List.getElem?_eq_some_iff.1 hj).1;rw [flatP_len] at hjl;rcases h.at_ with rfl | ⟨b',off',e,-,hi⟩
 · simp at hjl
 · obtain ⟨rfl,rfl⟩ : b=b'∧off=off':=by injection e with e; injection e with e1 e2; exact ⟨e1,e2⟩
   obtain ⟨i,k,rfl,hk⟩ : ∃ i k,j=i*2+k∧k<2:=⟨j / 2,j % 2,by omega,by omega⟩;have hil:i<gs.length:=by omega
   have hg:=flatP_get rk gs i k gs[i] (List.getElem?_eq_getElem hil) hk;rw [hj] at hg;have h2:=hi i gs[i] (List.getElem?_eq_getElem hil)
   match k,hk with
   | 0,_=>rw [show u=.int rk gs[i].1 by simpa [pCells] using hg]; exact h2.1
   | 1,_=>rw [show u=.int .i64 gs[i].2 by simpa [pCells] using hg]; exact h2.2
   | k+2,hk=>omega
theorem PairsIn.src {rk:IntKind} {t T:TypeId} (hs:Tryd.prog.underlying t=some (.slice T)) {a:Option Addr} {n c:Nat} {gs:List (Int × Int)} {w:World} (h:PairsIn rk a n c gs w):Src Tryd.prog 2 t (.slice a n c) n (flatP rk gs) w:=by
 cases a with
 | none =>
  have h0:gs=[]:=h.at_.resolve_right (by rintro ⟨b,off,e,-⟩; cases e);subst h0;obtain rfl:n=0:=h.len;exact Src.ofNil w hs c
 | some ad =>
  obtain ⟨b,off,sp⟩ := ad;rcases h.at_ with rfl | ⟨b',off',e,h2⟩
  · exact Src.ofSlice w hs _ n c _ (by rw [flatP_len,h.len]) (fun j u hj=>by simp [flatP] at hj) (flatP_one rk _)
  · obtain ⟨rfl,rfl,rfl⟩ : b=b'∧off=off'∧sp=none:=by injection e with e; injection e with e1 e2 e3; exact ⟨e1,e2,e3⟩
    exact Src.ofSlice w hs _ n c _ (by rw [flatP_len,h.len]) h.news (flatP_one rk _)
structure GrewQ (rk:IntKind) (T:TypeId) (base:Nat) (v:Value) (l:List (Int × Int)) (w:World) (v':Value) (w':World):Prop where
 own:OwnQ rk T base v' l w'
 grown:w.grownBy w' v.ownBlock
 block:∀ q,v'.ownBlock=some q→v.ownBlock=some q∨w.heap.size≤q
 ty:∀ q,v.ownBlock=some q→∃ cs,w'.heap[q]?=some (.cells cs T (0,0))
theorem run_append_q {rk:IntKind} {t T:TypeId} {bytes:Nat} (hI:PairT rk t T bytes) (base:Nat) (v:Value) (l:List (Int × Int)) (a:Option Addr) (m c:Nat) (l2:List (Int × Int)) (w:World) (hown:OwnQ rk T base v l w) (h:PairsIn rk a m c l2 w) (h1:(l.length:Int)≤1000000) (h2:(l2.length:Int)≤1000000) (hbase:base≤w.heap.size) :
    ∃ v' w',(Builtin.append_ #[t,t] t #[v,.slice a m c]).run Tryd.prog w=.ok v' w'∧GrewQ rk T base v (l++l2) w v' w':=by
 obtain ⟨i0,hi,hz0,hz1,hz2⟩ := info_parts hI.info;have hown0:=hown;have hl:=h.len;have hb:=hI.small;have hsrc:=h.src hI.slice;have hsrc':Src Tryd.prog i0.size t (.slice a m c) m (flatP rk l2) w:=by rw [hz1]; exact hsrc
 have hmul:(l.length+m)*i0.bytes≤140737488355328:=by rw [hz2]; exact Nat.le_trans (Nat.mul_le_mul (show l.length+m≤2000000 by omega) hb) (by decide)
 have hmx:l.length+m≤maxLen:=by unfold maxLen; omega
 have grow:∀ (bs:Option Addr) (sc:Nat),v=.slice bs l.length sc→sc<l.length+m→(Builtin.firstCells i0.size l.length (.slice bs l.length sc)).run Tryd.prog w.drew=.ok (flatP rk l).toArray w.drew →
     ∃ v' w',(Builtin.append_ #[t,t] t #[v,.slice a m c]).run Tryd.prog w=.ok v' w'∧GrewQ rk T base v (l++l2) w v' w':=by
  rintro bs sc rfl hg hold;have hrun:=run_append_grow_src (P:=Tryd.prog) w t t t T i0 _ hI.slice hi hz0 bs l.length sc (flatP rk l) hold (.slice a m c) m (flatP rk l2) hsrc' hg (by unfold maxLen at hmx; omega) (growslice_fits hg hmul);have hge:=grownCap_ge w (l.length+m) sc T;have hcm:=grownCap_le_maxLen w (l.length+m) sc T hmx;refine ⟨_,_,hrun,.inr ⟨w.heap.size,0,_,_,by rw [List.length_append,← hl],hbase,heap_alloc_new w.drew _,by rw [List.length_append,← hl]; omega,hcm,?_,fun j u hj=>?_⟩,⟨rfl,rfl,rfl,by simp,fun k hk _=>Below.heap_alloc w.drew _ k hk⟩,fun q hq=>.inr ?_,fun q hq=>by
   obtain ⟨-,h8,cs,h9⟩ := hown0.own q hq;exact ⟨cs,(Below.heap_alloc w.drew _ q h8).trans h9⟩⟩
  · simp only [Array.size_append,List.size_toArray,List.length_append,size_zeroCells,flatP_len,show (Value.agg #[.int rk 0,.int .i64 0]).cells.size=2 from rfl];omega
  · have e1:(w.drew.alloc (.cells ((flatP rk l++flatP rk l2).toArray++Builtin.zeroCells (Value.agg #[.int rk 0,.int .i64 0]).cells (grownCap w (l.length+m) sc T - (l.length+m))) T)).cell? ⟨w.heap.size,0+j,none⟩=_:=World.cell?_alloc_new w.drew _ _ (0+j);rw [flatP_append] at hj;rw [e1,Nat.zero_add,Array.getElem?_append_left (by simp only [List.size_toArray]; exact (List.getElem?_eq_some_iff.1 hj).1),List.getElem?_toArray,hj]
  · have:q=w.heap.size:=by simpa [Value.ownBlock] using hq.symm
    omega
 rcases hown with ⟨rfl,rfl⟩ | ⟨g,off,cap,cs,rfl,k1,k2,k3,k4,k5,k6⟩
 · by_cases hm:m=0
   · subst hm;have h0:l2=[]:=List.length_eq_zero_iff.1 hl.symm;subst h0;exact ⟨_,_,run_append_nothing (P:=Tryd.prog) w t t t T i0 hI.slice hi none 0 0 (Nat.le_refl _) _ hsrc',.inl ⟨rfl,rfl⟩,⟨rfl,rfl,rfl,Nat.le_refl _,fun _ _ _=>rfl⟩,(fun q hq=>by cases hq),fun q hq=>by cases hq⟩
   · exact grow none 0 rfl (by simp; omega) (by
      have:=run_firstCells_none (P:=Tryd.prog) w.drew i0.size 0 0 0
      simpa [flatP] using this)
 · by_cases hroom:l.length+m≤cap
   · have hrun:=run_append_room_src (P:=Tryd.prog) w t t t T i0 hI.slice hi g off l.length cap (.slice a m c) m (flatP rk l2) hsrc' hroom (fun j hj=>by
      rw [flatP_len,← hl] at hj;rw [cell_block k2,Array.getElem?_eq_getElem (by rw [hz1]; omega)]
      rfl) (fun j _=>frozen_block k2 _)
     rw [hz1] at hrun;obtain ⟨cs',e1,e2⟩ := heap_setCells g (flatP rk l2) (off+l.length*2) w cs T (0,0) k2;refine ⟨_,_,hrun,.inr ⟨g,off,cap,cs',by rw [List.length_append,← hl],k1,e1,by rw [List.length_append,← hl]; exact hroom,k4,by rw [e2]; exact k5,fun j u hj=>?_⟩,grown_setCells g _ _ w,(fun q hq=>.inl hq),fun q hq=>by
      obtain rfl:g=q:=by simpa [Value.ownBlock] using hq
      exact ⟨cs',e1⟩⟩
     rw [flatP_append] at hj;by_cases hjl:j<(flatP rk l).length
     · rw [List.getElem?_append_left hjl] at hj;rw [World.cell?_setCells_out g _ _ _ _ (fun _ _=>Or.inl (by show off+j<off+l.length*2; rw [flatP_len] at hjl; omega))];exact k6 j u hj
     · rw [List.getElem?_append_right (by omega)] at hj;have hj2:j - (flatP rk l).length<(flatP rk l2).length:=(List.getElem?_eq_some_iff.1 hj).1;have h9:=World.cell?_setCells_in g (flatP rk l2) (off+l.length*2) w (fun j hj=>by
        rw [flatP_len,← hl] at hj;rw [cell_block k2,Array.getElem?_eq_getElem (by omega)]
        rfl) (j - (flatP rk l).length) hj2
       rw [List.getElem?_eq_getElem hj2] at hj;rw [hj] at h9;rw [show off+l.length*2+(j - (flatP rk l).length)=off+j by rw [flatP_len] at hjl ⊢; omega] at h9;exact h9
   · refine grow (some ⟨g,off,none⟩) cap rfl (by omega) ?_;refine run_firstCells_some (P:=Tryd.prog) w.drew i0.size l.length ⟨g,off,none⟩ l.length cap (flatP rk l) (by rw [flatP_len,hz1]) (fun j u hj=>?_);have hadd:((⟨g,off,none⟩ : Addr).add j)=⟨g,off+j,none⟩ := by unfold Addr.add; split <;> simp_all
     rw [hadd];exact k6 j u hj
theorem wpList_append_q {rk:IntKind} {t T:TypeId} {bytes:Nat} (hI:PairT rk t T bytes) {ops:Array Oper} {rest:List Oper} {o:Oper} {z:Act} {w:World} {Q:Exit→Act→World→Prop} (hgd:o.guard=none) (s x:Operand)
    (ho:o.op=.call { callee:=.builtin .append,args:=#[s,x],argTypes:=#[t,t] }) (hty:o.type=t)
    (base:Nat) (v:Value) (l:List (Int × Int)) (a:Option Addr) (m c:Nat) (l2:List (Int × Int)) (hs:z.eval s=v) (hxv:z.eval x=.slice a m c) (hown:OwnQ rk T base v l w) (h:PairsIn rk a m c l2 w) (h1:(l.length:Int)≤1000000) (h2:(l2.length:Int)≤1000000) (hbase:base≤w.heap.size)
    (hK:∀ v' w',GrewQ rk T base v (l++l2) w v' w'→wpList Tryd.prog ops Q rest (z.put o.dst v') w'):wpList Tryd.prog ops Q (o::rest) z w :=
 wpList_plain hgd fun _ hK'=>by
  obtain ⟨v',w',hr,k1⟩ := run_append_q hI base v l a m c l2 w hown h h1 h2 hbase;unfold Oper.wp execOp;simp only [ho,hty,resolve,invoke,builtin,Sem.run_bind,Sem.run_pure,Result.andThen_ok,List.map_toArray,List.map_cons,List.map_nil,hs,hxv,hr];exact hK' _ _ (hK v' w' k1)
theorem PairsIn.take {rk:IntKind} {a:Option Addr} {n c:Nat} {gs:List (Int × Int)} {w:World} (h:PairsIn rk a n c gs w) (m:Nat) (hm:m≤n):PairsIn rk a m c (gs.take m) w:=by
 refine ⟨by rw [List.length_take,← h.len]; omega,Nat.le_trans hm h.fit,h.top,h.at_.imp (fun e=>by rw [e]; simp) ?_⟩;rintro ⟨b,off,ha,hl,hi⟩;refine ⟨b,off,ha,hl,fun i g hg=>hi i g ?_⟩;rw [List.getElem?_take] at hg
 split at hg
 · exact hg
 · cases hg
theorem OwnQ.drop {rk:IntKind} {T:TypeId} {base g off n cap:Nat} {l:List (Int × Int)} {w:World} (h:OwnQ rk T base (.slice (some ⟨g,off,none⟩) n cap) l w) (m:Nat) (hm:m≤n):OwnQ rk T base (.slice (some ⟨g,off+m*2,none⟩) (n - m) (cap - m)) (l.drop m) w:=by
 rcases h with ⟨e,-⟩ | ⟨g',off',cap',cs,e,h1,h2,h3,h4,h5,h6⟩
 · cases e
 · obtain ⟨rfl,rfl,rfl,rfl⟩ : g=g'∧off=off'∧n=l.length∧cap=cap':=by injection e with e e2 e3; injection e with e; injection e with e4 e5; exact ⟨e4,e5,e2,e3⟩
   refine .inr ⟨g,_,_,cs,by rw [List.length_drop],h1,h2,by rw [List.length_drop]; omega,by omega,by omega,fun j u hj=>?_⟩;have hfd:flatP rk (l.drop m)=(flatP rk l).drop (m*2):=by
    have e1:flatP rk l=flatP rk (l.take m)++flatP rk (l.drop m):=by rw [← flatP_append,List.take_append_drop]
    rw [e1,List.drop_left' (by rw [flatP_len,List.length_take,Nat.min_eq_left hm])]
   rw [hfd,List.getElem?_drop] at hj;rw [Nat.add_assoc];exact h6 _ u hj
end Go.Proofs.YtagolklnjhpbdaaDoor.K

namespace Go.Proofs.YtagolklnjhpbdaaDoor.K
open Go.RowKit Go.Proofs.YtagolklnjhpbdaaDoor.I
theorem within_any (n lo hi:Int) (w:World):Calls Tryd.prog 82 #[.int .i64 n,.int .i64 lo,.int .i64 hi] w fun e w'=>e=.returned (.bool (decide (lo≤n∧n≤hi)))∧w=w':=by
 by_cases h1:lo≤n
 · have d1:decide (lo≤n)=true:=decide_eq_true h1;by_cases h2:n≤hi
   · have d2:decide (n≤hi)=true:=decide_eq_true h2;rw [decide_eq_true (show lo≤n∧n≤hi from ⟨h1,h2⟩)];clear h1 h2
     go_enter Tryd.func82,Tryd.ntmps82
     go_wp2
     go_ret
     exact ⟨rfl,rfl⟩
   · have d2:decide (n≤hi)=false:=decide_eq_false h2;rw [decide_eq_false (show ¬ (lo≤n∧n≤hi) from fun h=>h2 h.2)];clear h1 h2
     go_enter Tryd.func82,Tryd.ntmps82
     go_wp2
     go_ret
     exact ⟨rfl,rfl⟩
 · have d1:decide (lo≤n)=false:=decide_eq_false h1;rw [decide_eq_false (show ¬ (lo≤n∧n≤hi) from fun h=>h1 h.1)];clear h1
   go_enter Tryd.func82,Tryd.ntmps82
   go_wp2
   go_ret
   exact ⟨rfl,rfl⟩
def DrawC (x s:Int):Prop:=(0≤x∧x≤1114111)∧0≤s∧s≤647
instance (x s:Int):Decidable (DrawC x s):=by unfold DrawC; exact inferInstance
theorem drawable_any (x s:Int) (hx:-2147483648≤x∧x≤2147483647) (w:World):Calls Tryd.prog 83 #[.int .i32 x,.int .i64 s] w fun e w'=>e=.returned (.bool (decide (DrawC x s)))∧w=w':=by
 have hw:IntKind.i64.wrap x=x:=by rw [IntKind.wrap_i64]; omega
 have H1:=fun w=>within_any x 0 1114111 w
 have H2:=fun w=>within_any s 0 647 w
 by_cases h1:0≤x∧x≤1114111
 · have d1:decide (0≤x∧x≤1114111)=true:=decide_eq_true h1;have e:decide (DrawC x s)=decide (0≤s∧s≤647):=by unfold DrawC; simp [h1]
   rw [d1] at H1;rw [e];obtain ⟨D,hD⟩ : ∃ D,decide (0≤s∧s≤647)=D:=⟨_,rfl⟩;rw [hD] at H2 ⊢;have K1:=hDx H1;have K2:=hDx H2;clear H1 H2 h1 d1 e hD hx
   go_enter Tryd.func83,Tryd.ntmps83
   go_wp2_with fail
   refine (K1.out _).mono ?_;rintro e w' ⟨rfl,rfl⟩
   go_wp2_with fail
   refine (K2.out _).mono ?_;rintro e w' ⟨rfl,rfl⟩
   go_wp2
   all_goals go_ret
   all_goals exact ⟨rfl,rfl⟩
 · have d1:decide (0≤x∧x≤1114111)=false:=decide_eq_false h1;have e:decide (DrawC x s)=false:=decide_eq_false (fun h=>h1 h.1);rw [d1] at H1;rw [e];have K1:=hDx H1;clear H1 H2 h1 d1 e hx
   go_enter Tryd.func83,Tryd.ntmps83
   go_wp2_with fail
   refine (K1.out _).mono ?_;rintro e w' ⟨rfl,rfl⟩
   go_wp2
   go_ret
   exact ⟨rfl,rfl⟩
def snA (s:Sn) (ra:Option Addr) (rn rc:Nat) (ga:Option Addr) (gn gc:Nat):Array Value:=#[.int .i64 s.k,.int .i64 s.w,.int .i64 s.h,.int .i64 s.x,.int .i64 s.y,.string s.t,.slice ra rn rc,.int .i64 s.n,.int .i64 s.c,.slice ga gn gc]
structure SnIn (rk:IntKind) (ra:Option Addr) (rn rc:Nat) (ga:Option Addr) (gn gc:Nat) (s:Sn) (w:World):Prop where
 rows:RowsL rk [] ra rn rc s.R w
 beg:PairsIn rk ga gn gc s.B w
 nil:ga=none→gc=0
theorem SnIn.belowAll {rk:IntKind} {ra:Option Addr} {rn rc:Nat} {ga:Option Addr} {gn gc:Nat} {s:Sn} {w w':World} (h:SnIn rk ra rn rc ga gn gc s w) (hb:Below w.heap.size w w'):SnIn rk ra rn rc ga gn gc s w':=⟨h.rows.below hb,h.beg.belowAll hb,h.nil⟩
theorem i64_sub1 {z:Int} (h:1≤z∧z≤1000):IntKind.i64.wrap (z - 1)=z - 1:=by rw [IntKind.wrap_i64]; omega
set_option maxRecDepth 100000 in
set_option maxHeartbeats 4000000 in
theorem stands_any (s:Sn) (ra:Option Addr) (rn rc:Nat) (ga:Option Addr) (gn gc:Nat) (w:World):Calls Tryd.prog 60 #[.agg (snA s ra rn rc ga gn gc)] w fun e w'=>e=.returned (.bool (decide (Stands s)))∧Below w.heap.size w w':=by
 obtain ⟨k,W,h,x,y,t,R,n,c,B⟩ := s;obtain ⟨D,hD⟩ : ∃ D,decide (Stands ⟨k,W,h,x,y,t,R,n,c,B⟩)=D:=⟨_,rfl⟩;rw [hD];have hdef:Stands ⟨k,W,h,x,y,t,R,n,c,B⟩↔(1≤W∧W≤1000)∧(1≤h∧h≤1000)∧(0≤x∧x≤W - 1)∧0≤y∧y≤h - 1:=Iff.rfl;have H1:=fun w=>within_any W 1 1000 w
 have H2:=fun w=>within_any h 1 1000 w
 have H3:=fun w=>within_any x 0 (W - 1) w
 have H4:=fun w=>within_any y 0 (h - 1) w
 have hbb:Below w.heap.size w (w.alloc (.cells #[.int .i64 k,.int .i64 W,.int .i64 h,.int .i64 x,.int .i64 y,.string t,.slice ra rn rc,.int .i64 n,.int .i64 c,.slice ga gn gc] 25)):=(Below.refl _ _).alloc (Nat.le_refl _) _;have HB:=hDx hbb;unfold snA;simp only;by_cases h1:1≤W∧W≤1000
 rotate_left
 · rw [decide_eq_false h1] at H1;rw [decide_eq_false (by rw [hdef]; exact fun h=>h1 h.1)] at hD;subst hD;have K1:=hDx H1;clear H1 H2 H3 H4 h1 hdef hbb
   go_enter Tryd.func60,Tryd.ntmps60
   go_wp2_with fail
   refine (K1.out _).mono ?_;rintro e w' ⟨rfl,rfl⟩
   go_wp2
   go_ret
   exact ⟨rfl,HB.out⟩
 have q1:=i64_sub1 h1;have b1:-9223372036854775808≤W - 1∧W - 1≤9223372036854775807:=by omega
 rw [decide_eq_true h1] at H1;have K1:=hDx H1;by_cases h2:1≤h∧h≤1000
 rotate_left
 · rw [decide_eq_false h2] at H2;rw [decide_eq_false (by rw [hdef]; exact fun h=>h2 h.2.1)] at hD;subst hD;have K2:=hDx H2;clear H1 H2 H3 H4 h1 h2 hdef hbb q1 b1
   go_enter Tryd.func60,Tryd.ntmps60
   go_wp2_with fail
   refine (K1.out _).mono ?_;rintro e w' ⟨rfl,rfl⟩
   go_wp2_with fail
   refine (K2.out _).mono ?_;rintro e w' ⟨rfl,rfl⟩
   go_wp2
   go_ret
   exact ⟨rfl,HB.out⟩
 have q2:=i64_sub1 h2;have b2:-9223372036854775808≤h - 1∧h - 1≤9223372036854775807:=by omega
 rw [decide_eq_true h2] at H2;have K2:=hDx H2;by_cases h3:0≤x∧x≤W - 1
 rotate_left
 · rw [decide_eq_false h3] at H3;rw [decide_eq_false (by rw [hdef]; exact fun h=>h3 h.2.2.1)] at hD;subst hD;have K3:=hDx H3;clear H1 H2 H3 H4 h1 h2 h3 hdef hbb q2 b2
   go_enter Tryd.func60,Tryd.ntmps60
   go_wp2_with fail
   refine (K1.out _).mono ?_;rintro e w' ⟨rfl,rfl⟩
   go_wp2_with fail
   refine (K2.out _).mono ?_;rintro e w' ⟨rfl,rfl⟩
   go_wp2_with fail
   refine (K3.out _).mono ?_;rintro e w' ⟨rfl,rfl⟩
   go_wp2
   go_ret
   exact ⟨rfl,HB.out⟩
 rw [decide_eq_true h3] at H3;have K3:=hDx H3;have he:decide (0≤y∧y≤h - 1)=D:=by rw [← hD]; exact decide_eq_decide.2 (by rw [hdef]; exact ⟨fun hy=>⟨h1,h2,h3,hy⟩,fun hy=>hy.2.2.2⟩)
 rw [he] at H4;have K4:=hDx H4;clear H1 H2 H3 H4 h1 h2 h3 hdef hbb he hD
 go_enter Tryd.func60,Tryd.ntmps60
 go_wp2_with fail
 refine (K1.out _).mono ?_;rintro e w' ⟨rfl,rfl⟩
 go_wp2_with fail
 refine (K2.out _).mono ?_;rintro e w' ⟨rfl,rfl⟩
 go_wp2_with fail
 refine (K3.out _).mono ?_;rintro e w' ⟨rfl,rfl⟩
 go_wp2_with fail
 refine (K4.out _).mono ?_;rintro e w' ⟨rfl,rfl⟩
 go_wp2
 all_goals go_ret
 all_goals exact ⟨rfl,HB.out⟩
set_option maxRecDepth 100000 in
set_option maxHeartbeats 4000000 in
theorem counts_any (s:Sn) (ra:Option Addr) (rn rc:Nat) (ga:Option Addr) (gn gc:Nat) (w:World):Calls Tryd.prog 61 #[.agg (snA s ra rn rc ga gn gc)] w fun e w'=>e=.returned (.bool (decide (Counts s)))∧Below w.heap.size w w':=by
 obtain ⟨k,W,h,x,y,t,R,n,c,B⟩ := s;obtain ⟨D,hD⟩ : ∃ D,decide (Counts ⟨k,W,h,x,y,t,R,n,c,B⟩)=D:=⟨_,rfl⟩;rw [hD];have hdef:Counts ⟨k,W,h,x,y,t,R,n,c,B⟩↔(1≤k∧k≤1152921504606846976)∧(0≤n∧n≤1152921504606846976)∧(0≤c∧c≤281474976710656)∧t.size≤200:=Iff.rfl;have H1:=fun w=>within_any k 1 1152921504606846976 w
 have H2:=fun w=>within_any n 0 1152921504606846976 w
 have H3:=fun w=>within_any c 0 281474976710656 w
 have hbb:Below w.heap.size w (w.alloc (.cells #[.int .i64 k,.int .i64 W,.int .i64 h,.int .i64 x,.int .i64 y,.string t,.slice ra rn rc,.int .i64 n,.int .i64 c,.slice ga gn gc] 25)):=(Below.refl _ _).alloc (Nat.le_refl _) _;have HB:=hDx hbb;unfold snA;simp only;by_cases h1:1≤k∧k≤1152921504606846976
 rotate_left
 · rw [decide_eq_false h1] at H1;rw [decide_eq_false (by rw [hdef]; exact fun h=>h1 h.1)] at hD;subst hD;have K1:=hDx H1;clear H1 H2 H3 h1 hdef hbb
   go_enter Tryd.func61,Tryd.ntmps61
   go_wp2_with fail
   refine (K1.out _).mono ?_;rintro e w' ⟨rfl,rfl⟩
   go_wp2
   go_ret
   exact ⟨rfl,HB.out⟩
 rw [decide_eq_true h1] at H1;have K1:=hDx H1;by_cases h2:0≤n∧n≤1152921504606846976
 rotate_left
 · rw [decide_eq_false h2] at H2;rw [decide_eq_false (by rw [hdef]; exact fun h=>h2 h.2.1)] at hD;subst hD;have K2:=hDx H2;clear H1 H2 H3 h1 h2 hdef hbb
   go_enter Tryd.func61,Tryd.ntmps61
   go_wp2_with fail
   refine (K1.out _).mono ?_;rintro e w' ⟨rfl,rfl⟩
   go_wp2_with fail
   refine (K2.out _).mono ?_;rintro e w' ⟨rfl,rfl⟩
   go_wp2
   go_ret
   exact ⟨rfl,HB.out⟩
 rw [decide_eq_true h2] at H2;have K2:=hDx H2;by_cases h3:0≤c∧c≤281474976710656
 rotate_left
 · rw [decide_eq_false h3] at H3;rw [decide_eq_false (by rw [hdef]; exact fun h=>h3 h.2.2.1)] at hD;subst hD;have K3:=hDx H3;clear H1 H2 H3 h1 h2 h3 hdef hbb
   go_enter Tryd.func61,Tryd.ntmps61
   go_wp2_with fail
   refine (K1.out _).mono ?_;rintro e w' ⟨rfl,rfl⟩
   go_wp2_with fail
   refine (K2.out _).mono ?_;rintro e w' ⟨rfl,rfl⟩
   go_wp2_with fail
   refine (K3.out _).mono ?_;rintro e w' ⟨rfl,rfl⟩
   go_wp2
   go_ret
   exact ⟨rfl,HB.out⟩
 rw [decide_eq_true h3] at H3;have K3:=hDx H3;have he:decide (t.size≤200)=D:=by rw [← hD]; exact decide_eq_decide.2 (by rw [hdef]; exact ⟨fun hy=>⟨h1,h2,h3,hy⟩,fun hy=>hy.2.2.2⟩)
 have he2:decide ((t.size:Int)≤200)=D:=by rw [← he]; exact decide_eq_decide.2 (by omega)
 clear H1 H2 H3 h1 h2 h3 hdef hbb hD
 go_enter Tryd.func61,Tryd.ntmps61
 go_wp2_with fail
 refine (K1.out _).mono ?_;rintro e w' ⟨rfl,rfl⟩
 go_wp2_with fail
 refine (K2.out _).mono ?_;rintro e w' ⟨rfl,rfl⟩
 go_wp2_with fail
 refine (K3.out _).mono ?_;rintro e w' ⟨rfl,rfl⟩;cases D
 · go_wp2
   go_ret
   exact ⟨rfl,HB.out⟩
 · go_wp2
   go_ret
   exact ⟨rfl,HB.out⟩
end Go.Proofs.YtagolklnjhpbdaaDoor.K

namespace Go.Proofs.YtagolklnjhpbdaaDoor.K
open Go.RowKit
structure Lv where
 a:Option Addr
 n:Nat
 c:Nat
 ch:Nat
structure LinesV (us:List Lv) (L:List (List (Int × Int))) (w:World):Prop where
 len:us.length=L.length
 at_:∀ (i:Nat) (u:Lv) (l:List (Int × Int)),us[i]?=some u→L[i]?=some l→PairsIn .i32 u.a u.n u.c l w∧(u.a=none→u.c=0)∧u.ch=chainB (L.take (i+1))
theorem PairsIn.blocks {rk:IntKind} {a:Option Addr} {n c:Nat} {gs:List (Int × Int)} {w w':World} (h:PairsIn rk a n c gs w) (hs:w.heap.size≤w'.heap.size) (hk:∀ b off,a=some ⟨b,off,none⟩→b<w.heap.size→w'.heap[b]?=w.heap[b]?):PairsIn rk a n c gs w':=by
 refine ⟨h.len,h.fit,h.top,h.at_.imp id ?_⟩;rintro ⟨b,off,ha,hl,hi⟩;have hk':=hk b off ha hl;exact ⟨b,off,ha,Nat.lt_of_lt_of_le hl hs,fun i u hu=>⟨(World.cell?_of_block (a:=⟨b,off+i*2,none⟩) hk').trans (hi i u hu).1,(World.cell?_of_block (a:=⟨b,off+i*2+1,none⟩) hk').trans (hi i u hu).2⟩⟩
theorem LinesV.moved {us:List Lv} {L:List (List (Int × Int))} {w w':World} (h:LinesV us L w) (hs:w.heap.size≤w'.heap.size) (hk:∀ u ∈ us,∀ b off,u.a=some ⟨b,off,none⟩→b<w.heap.size→w'.heap[b]?=w.heap[b]?):LinesV us L w' :=
 ⟨h.len,fun i u l hu hl=>by
  obtain ⟨h1,h2,h3⟩ := h.at_ i u l hu hl;exact ⟨h1.blocks hs (hk u (List.mem_of_getElem? hu)),h2,h3⟩⟩
end Go.Proofs.YtagolklnjhpbdaaDoor.K

namespace Go.Proofs.YtagolklnjhpbdaaDoor.K
open Go.RowKit Go.Proofs.YtagolklnjhpbdaaDoor.I
theorem take_all {α:Type} (p:α→Prop) (l:List α) (j:Nat) (h:j<l.length) (h1:∀ x ∈ l.take j,p x) (h2:p l[j]):∀ x ∈ l.take (j+1),p x:=by
 rw [List.take_succ_eq_append_getElem h];intro x hx;rcases List.mem_append.1 hx with hx | hx
 · exact h1 x hx
 · rw [List.mem_singleton.1 hx]; exact h2
set_option maxRecDepth 100000 in
set_option maxHeartbeats 8000000 in
theorem begins_any (s:Sn) (ra:Option Addr) (rn rc:Nat) (ga:Option Addr) (gn gc:Nat) (w:World) (hI:PairsIn .i32 ga gn gc s.B w) (hr:∀ g ∈ s.B,-2147483648≤g.1∧g.1≤2147483647) :
    Calls Tryd.prog 63 #[.agg (snA s ra rn rc ga gn gc)] w fun e w'=>e=.returned (.bool (decide (Begins s)))∧Below w.heap.size w w':=by
 obtain ⟨k,W,h,x,y,t,R,n,c,B⟩ := s;simp only at hI hr;obtain ⟨rb,hrb⟩ : ∃ rb,w.heap.size=rb:=⟨_,rfl⟩;rw [hrb];obtain ⟨D,hD⟩ : ∃ D,decide (Begins ⟨k,W,h,x,y,t,R,n,c,B⟩)=D:=⟨_,rfl⟩;rw [hD];have hdef:Begins ⟨k,W,h,x,y,t,R,n,c,B⟩↔(∀ g ∈ B,DrawC g.1 g.2)∧B.length≤1024:=Iff.rfl;obtain ⟨P,hP⟩ : ∃ P:Ending→World→Prop,(fun e w'=>e=.returned (.bool D)∧Below rb w w')=P:=⟨_,rfl⟩;rw [hP];have HP:=hDx hP;have HD:Hid (∀ b,(Begins ⟨k,W,h,x,y,t,R,n,c,B⟩↔b=true)→D=b):=hDx (fun b hb=>by rw [← hD]; cases b <;> simp_all);have HDef:=hDx hdef;have HLn:=hDx hI.len;have HRb:=hDx hrb;have HI:=hDx hI;have HRg:=hDx hr;unfold snA;simp only;obtain ⟨w1,hw1⟩ : ∃ w1,w.alloc (.cells #[.int .i64 k,.int .i64 W,.int .i64 h,.int .i64 x,.int .i64 y,.string t,.slice ra rn rc,.int .i64 n,.int .i64 c,.slice ga gn gc] 25)=w1:=⟨_,rfl⟩;have hb1:Below rb w w1:=by rw [← hw1,← hrb]; exact (Below.refl _ _).alloc (Nat.le_refl _) _
 have hk1:w1.heap[rb]?=some (.cells #[.int .i64 k,.int .i64 W,.int .i64 h,.int .i64 x,.int .i64 y,.string t,.slice ra rn rc,.int .i64 n,.int .i64 c,.slice ga gn gc] 25 (0,0)):=by rw [← hw1,← hrb]; exact heap_alloc_new w _
 have c9:w1.cell? ⟨rb,9,none⟩=some (.slice ga gn gc):=by rw [cell_block hk1]; rfl
 have HB1:=hDx hb1;have HC9:=hDx c9;have HS1:Hid (rb<w1.heap.size):=hDx (gSx.1 hk1).1;have HW1:=hDx hw1;have hnI:(gn:Int)≤9223372036854775807:=by have h1:=hI.fit; have h2:=hI.top; omega
 clear hP hD hdef hI hr hb1 hk1 hw1 hrb
 go_enter Tryd.func63,Tryd.ntmps63
 go_upto_region 1 with fail
 rw [HW1.out,HRb.out]
 go_wp2_with fail
 clear c9
 go_loopw [8] (fun i wr=>∃ j:Nat,i=.int .i64 (j:Int)∧j≤gn∧Hid ((∀ g ∈ B.take j,DrawC g.1 g.2)∧Below rb w wr∧wr.cell? ⟨rb,9,none⟩=some (.slice ga gn gc)∧rb<wr.heap.size)) (fun i _=>gn - (intOf i).toNat)
 case atStart=>exact ⟨0,rfl,Nat.zero_le _,hDx ⟨by simp,HB1.out,HC9.out,HS1.out⟩⟩
 case round =>
  obtain ⟨j,rfl,hj,HF⟩ := hrel;by_cases hlt:j<gn
  · have hd:decide (j<gn)=true:=decide_eq_true hlt;have hjI:(j:Int)<gn:=by omega
    have hjl:j<B.length:=by rw [← HLn.out]; exact hlt
    obtain ⟨b,off,rfl,hbl,hAt⟩ := HI.out.at_.resolve_left (by intro e; rw [e] at hjl; simp at hjl);have hat:=hAt j B[j] (List.getElem?_eq_getElem hjl);have hrg:=HRg.out B[j] (List.getElem_mem hjl);have htk:=take_all (fun g:Int × Int=>DrawC g.1 g.2) B j hjl HF.out.1;have hmem:=List.getElem_mem hjl;obtain ⟨⟨gx,gs⟩,hx⟩ : ∃ g,B[j]=g:=⟨_,rfl⟩;rw [hx] at hat hrg htk hmem;simp only at hat hrg htk;have hbr:b<rb:=by rw [← HRb.out]; exact hbl
    have k0:wr.cell? ⟨b,off+j*2,none⟩=some (.int .i32 gx):=(HF.out.2.1.cell (p:=⟨b,off+j*2,none⟩) hbr).trans hat.1;have k1:wr.cell? ⟨b,off+j*2+1,none⟩=some (.int .i64 gs):=(HF.out.2.1.cell (p:=⟨b,off+j*2+1,none⟩) hbr).trans hat.2;obtain ⟨gb,hgb⟩ : ∃ gb,wr.heap.size=gb:=⟨_,rfl⟩;obtain ⟨w5,hw5⟩ : ∃ w5,wr.alloc (.cells #[.int .i32 gx,.int .i64 gs] 111)=w5:=⟨_,rfl⟩;have hnew:w5.heap[gb]?=some (.cells #[.int .i32 gx,.int .i64 gs] 111 (0,0)):=by rw [← hw5,← hgb]; exact heap_alloc_new wr _
    have m0:w5.cell? ⟨gb,0,none⟩=some (.int .i32 gx):=by rw [cell_block hnew]; rfl
    have m1:w5.cell? ⟨gb,1,none⟩=some (.int .i64 gs):=by rw [cell_block hnew]; rfl
    have hb5:Below wr.heap.size wr w5:=by rw [← hw5]; exact (Below.refl _ _).alloc (Nat.le_refl _) _
    have hF5:Below rb w w5:=HF.out.2.1.trans (hb5.mono (by have:=HF.out.2.2.2; omega));have hc5:w5.cell? ⟨rb,9,none⟩=some (.slice (some ⟨b,off,none⟩) gn gc):=(hb5.cell (p:=⟨rb,9,none⟩) HF.out.2.2.2).trans HF.out.2.2.1;have hs5:rb<w5.heap.size:=Nat.lt_of_lt_of_le HF.out.2.2.2 hb5.size;have HN:=hDx (drawable_any gx gs hrg w5);have HW5:=hDx hw5;have HGb:=hDx hgb;have HTk:=hDx htk;have H5:Hid (Below rb w w5∧w5.cell? ⟨rb,9,none⟩=some (.slice (some ⟨b,off,none⟩) gn gc)∧rb<w5.heap.size):=hDx ⟨hF5,hc5,hs5⟩;by_cases hdr:DrawC gx gs
    · rw [decide_eq_true hdr] at HN;have HE:Hid ((∀ g ∈ B.take (j+1),DrawC g.1 g.2)∧Below rb w w5∧w5.cell? ⟨rb,9,none⟩=some (.slice (some ⟨b,off,none⟩) gn gc)∧rb<w5.heap.size):=hDx ⟨HTk.out hdr,H5.out⟩;clear hjl hAt hat hrg htk hmem hx hbl hbr hgb hw5 hnew hb5 hF5 hc5 hs5 hdr HF
      go_upto_region 4 with fail
      rw [HW5.out,HGb.out];clear k0 k1
      go_wp2_with fail
      refine HN.out.mono ?_;rintro e w6 ⟨rfl,rfl⟩
      go_wp2_with fail
      go_roundw
      case rel=>exact ⟨j+1,by go_num,by omega,HE⟩
      case measure=>simp [intOf]; omega
    · rw [decide_eq_false hdr] at HN;have hend:Hid (P (.returned (.bool false)) w5):=hDx (by
       rw [← HP.out];refine ⟨?_,H5.out.1⟩;rw [HD.out false (by rw [HDef.out]; exact ⟨fun h=>absurd (h.1 _ hmem) hdr,fun h=>by cases h⟩)])
      clear hjl hAt hat hrg htk hmem hx hbl hbr hgb hw5 hnew hb5 hF5 hc5 hs5 hdr HF
      go_upto_region 4 with fail
      rw [HW5.out,HGb.out];clear k0 k1
      go_wp2_with fail
      refine HN.out.mono ?_;rintro e w6 ⟨rfl,rfl⟩
      go_wp2_with fail
      exact hend.out
  · obtain rfl:j=gn:=by omega
    have hd:decide (j<j)=false:=by simp
    have c9:=HF.out.2.2.1;have hall:∀ g ∈ B,DrawC g.1 g.2:=by have:=HF.out.1; rw [HLn.out,List.take_length] at this; exact this
    have he:decide ((j:Int)≤1024)=D:=by
     symm
     refine HD.out _ ?_;rw [HDef.out,decide_eq_true_iff];exact ⟨fun h=>by have:=h.2; have:=HLn.out; omega,fun h=>⟨hall,by have:=HLn.out; omega⟩⟩
    have hend:Hid (P (.returned (.bool D)) wr):=hDx (by rw [← HP.out]; exact ⟨rfl,HF.out.2.1⟩);clear HF hall hlt;cases D
    · go_wp2_with fail
      exact hend.out
    · go_wp2_with fail
      exact hend.out
end Go.Proofs.YtagolklnjhpbdaaDoor.K
