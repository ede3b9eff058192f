import Derived.Test.YtagolklnjhpbdaaDoorMerged0
import Derived.Test.YtagolklnjhpbdaaDoorMerged8
import Derived.RangeFuncNested
import Derived.RangeFuncBound
import Derived.RangeFuncCalls
import Derived.RangeFuncLeaves
import Derived.RangeFuncBox
import Derived.Shelf.Abstract
import Derived.Shelf.RegionOpen
import Derived.OwnWalkIn
import Derived.TacticsInMore
import Derived.LoopNIn
import Derived.LoopIn
import Derived.Test.YtagolklnjhpbdaaDoorMerged5
import Derived.OrdersIn
import Derived.CallsIn
import Derived.WalkKit
import Derived.Test.YtagolklnjhpbdaaDoorMerged4
import Derived.Test.YtagolklnjhpbdaaDoorMerged7
namespace Go.Proofs.YtagolklnjhpbdaaDoor.K
open Go.RowKit Go.Shelf
attribute [local go_sem] Oper.semAt_some
def KeepL (l:List Nat) (A B:World):Prop:=A.heap.size≤B.heap.size∧∀ b ∈ l,b<A.heap.size→B.heap[b]?=A.heap[b]?
theorem keepL_t {l:List Nat} {A B C:World} (h:KeepL l A B) (k:KeepL l B C):KeepL l A C:=⟨Nat.le_trans h.1 k.1,fun b hb hlt=>(k.2 b hb (Nat.lt_of_lt_of_le hlt h.1)).trans (h.2 b hb hlt)⟩
theorem keepL_b {l:List Nat} {w:World} (hl:∀ b ∈ l,b<w.heap.size) (W:World) (i:Nat) (o o':Obj) (hi:w.heap.size≤i) (_:W.heap[i]?=some o) (_:o.isCells=false) (_:o.isWalk=false):KeepL l W (W.putObj i o') :=
 ⟨by simp,fun b hb _=>World.putObj_heap_other (by have:=hl b hb; omega)⟩
theorem KeepL.of_below {l:List Nat} {A B:World} {n:Nat} (h:Below n A B) (hl:∀ b ∈ l,b<n):KeepL l A B:=⟨h.size,fun b hb _=>h.block b (hl b hb)⟩
theorem KeepL.refl (l:List Nat) (A:World):KeepL l A A:=⟨Nat.le_refl _,fun _ _ _=>rfl⟩
theorem grownBy_of_below {w w':World} (h:Below w.heap.size w w'):w.grownBy w' none:=⟨h.os,h.tape,h.output,h.size,fun k hk _=>h.block k hk⟩
abbrev It (w:World):={ p:Rv × Ro // RowV .i32 p.1.val p.2 w∧p.2.l.length≤1000 }
def It.u {w:World} (x:It w):Rv:=x.1.1
def It.r {w:World} (x:It w):Ro:=x.1.2
def blkV {α:Type} (a:Option Addr) (us:List α):List Nat:=match a,us with
  | some a,_::_=>[a.block]
  | _,_=>[]
theorem blkV_some {α:Type} {a:Option Addr} {b off:Nat} {us:List α} (hz:us≠[]) (e:a=some ⟨b,off,none⟩):b ∈ blkV a us:=by
 subst e;cases us with
 | nil=>exact absurd rfl hz
 | cons z zs=>simp [blkV]
def lookV {α:Type} (B:Nat) (a:Option Addr) (us:List α):List Nat:=B::blkV a us
structure LooksV (B:Nat) (a:Option Addr) (n c:Nat) (us:List Rv) (w:World):Prop where
 bx:Boxed w B 22 (.slice a n c)
 rs:RvsIn a n c us w
 lt:∀ b ∈ blkV a us,b<w.heap.size
theorem LooksV.keep {B:Nat} {a:Option Addr} {n c:Nat} {us:List Rv} {w w':World} (h:LooksV B a n c us w) (hk:KeepL (lookV B a us) w w'):LooksV B a n c us w':=by
 refine ⟨(hk.2 B (by simp [lookV]) h.bx.lt).trans h.bx,?_,fun b hb=>Nat.lt_of_lt_of_le (h.lt b hb) hk.1⟩;by_cases hu:us=[]
 · exact ⟨h.rs.len,h.rs.fit,h.rs.top,.inl hu⟩
 · exact h.rs.blocks hk.1 (fun b off e hl=>hk.2 b (List.mem_cons_of_mem _ (blkV_some hu e)) hl)
theorem LooksV.all {B:Nat} {a:Option Addr} {n c:Nat} {us:List Rv} {w:World} (h:LooksV B a n c us w):∀ b ∈ lookV B a us,b<w.heap.size:=by
 intro b hb;rcases List.mem_cons.1 hb with rfl | hb
 · exact h.bx.lt
 · exact h.lt b hb
theorem LooksV.below {B:Nat} {a:Option Addr} {n c:Nat} {us:List Rv} {w w':World} (h:LooksV B a n c us w) (hb:Below w.heap.size w w'):LooksV B a n c us w':=h.keep (KeepL.of_below hb h.all)
theorem RvsIn.lt {a:Option Addr} {n c:Nat} {us:List Rv} {w:World} (h:RvsIn a n c us w):∀ b ∈ blkV a us,b<w.heap.size:=by
 intro b hb;rcases h.at_ with e | ⟨b',off,rfl,hl,_⟩
 · subst e; cases a <;> cases hb
 · cases us with
   | nil=>cases hb
   | cons u us =>
    obtain rfl:b=b':=by simpa [blkV] using hb
    exact hl
end Go.Proofs.YtagolklnjhpbdaaDoor.K

namespace Go.Proofs.YtagolklnjhpbdaaDoor.K
open Go.RowKit Go.Shelf
attribute [local go_sem] Oper.semAt_some
def KpU (m:Nat) (W W':World):Prop:=W.heap.size≤W'.heap.size∧(∀ i,i<m→i<W.heap.size→W'.heap[i]?=W.heap[i]?) ∧
  ∀ i cs T fr,W.heap[i]?=some (.cells cs T fr)→m<i→T≠57→W'.heap[i]?=W.heap[i]?
theorem KpU.refl (m:Nat) (W:World):KpU m W W:=⟨Nat.le_refl _,fun _ _ _=>rfl,fun _ _ _ _ _ _ _=>rfl⟩
theorem KpU.trans {m:Nat} {A B C:World} (h:KpU m A B) (k:KpU m B C):KpU m A C :=
 ⟨Nat.le_trans h.1 k.1,fun i hi hl=>(k.2.1 i hi (Nat.lt_of_lt_of_le hl h.1)).trans (h.2.1 i hi hl),fun i cs T fr hc hi hT=>by
  have h1:=h.2.2 i cs T fr hc hi hT;exact (k.2.2 i cs T fr (h1.trans hc) hi hT).trans h1⟩
theorem KpU.putObj {m l:Nat} {W:World} {o:Obj} (o':Obj) (hl:m≤l) (h:W.heap[l]?=some o) (ho:o.isCells=false):KpU m W (W.putObj l o') :=
 ⟨by simp,fun i hi _=>World.putObj_heap_other (by omega),fun i cs T fr hc _ _=>World.putObj_heap_other (fun e=>by rw [e,h] at hc; cases hc; cases ho)⟩
theorem KpU.of_below {m:Nat} {W W':World} (h:Below W.heap.size W W'):KpU m W W':=⟨h.size,fun i _ hl=>h.block i hl,fun i cs T fr hc _ _=>h.block i (gSx.1 hc).1⟩
def KeepX (m B:Nat) (W W':World):Prop:=KpU m W W'∧∀ i o,B≤i→W.heap[i]?=some o→o.isCells=false→W'.heap[i]?=some o
theorem KeepX.trans {m B:Nat} {W1 W2 W3:World} (h:KeepX m B W1 W2) (k:KeepX m B W2 W3):KeepX m B W1 W3:=⟨h.1.trans k.1,fun i o hi ho hc=>k.2 i o hi (h.2 i o hi ho hc) hc⟩
theorem KeepX.of_below {m B:Nat} {W W':World} (h:Below W.heap.size W W'):KeepX m B W W':=⟨KpU.of_below h,fun i o _ ho _=>(h.block i (gSx.1 ho).1).trans ho⟩
theorem KeepX.mono {m B B':Nat} {W W':World} (h:KeepX m B W W') (hB:B≤B'):KeepX m B' W W':=⟨h.1,fun i o hi=>h.2 i o (Nat.le_trans hB hi)⟩
end Go.Proofs.YtagolklnjhpbdaaDoor.K

namespace Go.Proofs.YtagolklnjhpbdaaDoor.R
open Go
section
variable {F:Fence} {nf:Nat} {P:Program} {ops:Array Oper} {Q:Exit→Act→World→Prop}
end
end Go.Proofs.YtagolklnjhpbdaaDoor.R

namespace Go.Proofs.YtagolklnjhpbdaaDoor.K
open Go.RowKit
def pCells (rk:IntKind) (g:Int × Int):List Value:=[.int rk g.1,.int .i64 g.2]
def flatP (rk:IntKind) (l:List (Int × Int)):List Value:=l.flatMap (pCells rk)
theorem flatP_len (rk:IntKind) (l:List (Int × Int)):(flatP rk l).length=l.length*2:=by
 induction l with
 | nil=>rfl
 | cons c l ih=>simp [flatP,List.flatMap_cons,pCells] at ih ⊢; omega
theorem flatP_append (rk:IntKind) (a b:List (Int × Int)):flatP rk (a++b)=flatP rk a++flatP rk b:=List.flatMap_append ..
theorem flatP_get (rk:IntKind):∀ (l:List (Int × Int)) (i j:Nat) (c:Int × Int),l[i]?=some c→j<2→(flatP rk l)[i*2+j]?=(pCells rk c)[j]?
  | [],_,_,_,h,_=>by cases h
  | d::l,0,j,c,h,hj=>by
   obtain rfl:d=c:=by simpa using h
   show (pCells rk d++flatP rk l)[0*2+j]?=_;rw [List.getElem?_append_left (by simp [pCells]; omega)];simp
  | d::l,i+1,j,c,h,hj=>by
   show (pCells rk d++flatP rk l)[(i+1)*2+j]?=_;rw [List.getElem?_append_right (by simp [pCells]; omega)];have e:(i+1)*2+j - (pCells rk d).length=i*2+j:=by simp [pCells]; omega
   rw [e];exact flatP_get rk l i j c (by simpa using h) hj
theorem flatP_one (rk:IntKind) (l:List (Int × Int)):∀ u ∈ flatP rk l,u.oneCell'=true:=by
 intro u hu;obtain ⟨c,_,hu⟩ := List.mem_flatMap.1 hu;simp only [pCells,List.mem_cons,List.not_mem_nil,or_false] at hu;rcases hu with rfl | rfl <;> rfl
def OwnP (rk:IntKind) (T:TypeId) (base:Nat) (v:Value) (l:List (Int × Int)) (w:World):Prop:=w.ownsRow base T 2 v l.length (flatP rk l)
theorem OwnP.nil (rk:IntKind) (T:TypeId) (base:Nat) (w:World):OwnP rk T base (.slice none 0 0) [] w:=World.ownsRow_nil _ _ _ _
theorem OwnP.belowAll {rk:IntKind} {T:TypeId} {base:Nat} {v:Value} {l:List (Int × Int)} {w w':World} (h:OwnP rk T base v l w) (hb:Below w.heap.size w w'):OwnP rk T base v l w':=U.belowAll h hb
theorem OwnP.alloc {rk:IntKind} {T:TypeId} {base:Nat} {v:Value} {l:List (Int × Int)} {w:World} (h:OwnP rk T base v l w) (o:Obj):OwnP rk T base v l (w.alloc o):=h.belowAll ((Below.refl _ _).alloc (Nat.le_refl _) o)
theorem OwnP.weaken {rk:IntKind} {T:TypeId} {base base':Nat} {v:Value} {l:List (Int × Int)} {w:World} (h:OwnP rk T base v l w) (hb:base'≤base):OwnP rk T base' v l w:=U.weaken h hb
theorem OwnP.ownBlock {rk:IntKind} {T:TypeId} {base:Nat} {v:Value} {l:List (Int × Int)} {w:World} (h:OwnP rk T base v l w):∀ q,v.ownBlock=some q→base≤q∧q<w.heap.size:=fun q hq=>⟨(U.own_type h hq).choose_spec.2.1,(U.own_type h hq).choose_spec.2.2⟩
theorem OwnP.lit (rk:IntKind) (T:TypeId) (w:World) (base:Nat) (hb:base≤w.heap.size):OwnP rk T base (.slice (some ⟨w.heap.size,0,none⟩) 0 0) [] (w.alloc (.cells #[] T)):=World.ownsRow_lit w #[] 0 hb (by decide) rfl
structure PairsIn (rk:IntKind) (a:Option Addr) (n c:Nat) (gs:List (Int × Int)) (w:World):Prop where
 len:n=gs.length
 fit:n≤c
 top:(c:Int)≤9223372036854775807
 at_:gs=[]∨∃ b off,a=some ⟨b,off,none⟩∧b<w.heap.size∧∀ i g,gs[i]?=some g→w.cell? ⟨b,off+i*2,none⟩=some (.int rk g.1)∧w.cell? ⟨b,off+i*2+1,none⟩=some (.int .i64 g.2)
theorem PairsIn.belowAll {rk:IntKind} {a:Option Addr} {n c:Nat} {gs:List (Int × Int)} {w w':World} (h:PairsIn rk a n c gs w) (hb:Below w.heap.size w w'):PairsIn rk a n c gs w':=by
 refine ⟨h.len,h.fit,h.top,h.at_.imp id ?_⟩;rintro ⟨b,off,ha,hl,hi⟩;exact ⟨b,off,ha,Nat.lt_of_lt_of_le hl hb.size,fun i g hg=>⟨(hb.cell (p:=⟨b,off+i*2,none⟩) hl).trans (hi i g hg).1,(hb.cell (p:=⟨b,off+i*2+1,none⟩) hl).trans (hi i g hg).2⟩⟩
theorem OwnP.shape {rk:IntKind} {T:TypeId} {base:Nat} {v:Value} {l:List (Int × Int)} {w:World} (h:OwnP rk T base v l w):∃ a c,v=.slice a l.length c∧PairsIn rk a l.length c l w∧(∀ b off,a=some ⟨b,off,none⟩→base≤b∧b<w.heap.size∧off=0)∧(a=none→c=0):=by
 rcases h.2 with ⟨rfl,h0⟩ | ⟨g,cap,cur,rfl,hbase,hg,hc,hm,hs,ht⟩
 · exact ⟨none,0,by rw [h0],⟨rfl,by omega,by decide,.inl (List.length_eq_zero_iff.1 h0)⟩,(fun _ _ e=>by cases e),fun _=>rfl⟩
 · have hlt:=(gSx.1 hg).1;refine ⟨some ⟨g,0,none⟩,cap,rfl,⟨rfl,hc,by unfold maxLen at hm; omega,.inr ⟨g,0,rfl,hlt,fun i c hi=>?_⟩⟩,(fun b off e=>by cases e; exact ⟨hbase,hlt,rfl⟩),(fun e=>by cases e)⟩;have hil:i<l.length:=(List.getElem?_eq_some_iff.1 hi).1;have hcell:∀ j,j<2→w.cell? ⟨g,0+i*2+j,none⟩=(pCells rk c)[j]?:=fun j hj=>by
    rw [Nat.zero_add,World.ownsRow.cellAt h (i*2+j) (by omega),flatP_get rk l i j c hi hj]
   exact ⟨hcell 0 (by decide),hcell 1 (by decide)⟩
theorem OwnP.kept {rk:IntKind} {T:TypeId} {base:Nat} {v:Value} {l:List (Int × Int)} {w w':World} {row:Option Nat} (h:OwnP rk T base v l w) (hg:w.grownBy w' row) (hne:∀ q,v.ownBlock=some q→row≠some q):OwnP rk T base v l w':=U.kept_apart h hg hne
structure PairT (rk:IntKind) (t T:TypeId) (bytes:Nat):Prop where
 slice:Tryd.prog.underlying t=some (.slice T)
 info:(Tryd.prog.info? T).map (fun i=>(i.zero,i.size,i.bytes))=some (some (.agg #[.int rk 0,.int .i64 0]),2,bytes)
 small:bytes≤24
theorem gluT:PairT .i32 23 111 16:=⟨Tryd.underlying23,by kernel_rfl,by decide⟩
theorem wpList_append_pair {rk:IntKind} {t T:TypeId} {bytes:Nat} (hI:PairT rk t T bytes) {ops:Array Oper} {rest:List Oper} {o:Oper} {z:Act} {w:World} {Q:Exit→Act→World→Prop} (hgd:o.guard=none) (s x:Operand)
    (ho:o.op=.call { callee:=.builtin .append,args:=#[s,x],argTypes:=#[t,t] }) (hty:o.type=t)
    (base:Nat) (v:Value) (l:List (Int × Int)) (c:Int × Int) (p:Nat) (hs:z.eval s=v) (hxv:z.eval x=.slice (some ⟨p,0,none⟩) 1 1) (hown:OwnP rk T base v l w)
    (h0:w.cell? ⟨p,0,none⟩=some (.int rk c.1)) (h1:w.cell? ⟨p,1,none⟩=some (.int .i64 c.2)) (hl:(l.length:Int)≤1000000) (hbase:base≤w.heap.size)
    (hK:∀ v' w',OwnP rk T base v' (l++[c]) w'→w.grownBy w' v.ownBlock→wpList Tryd.prog ops Q rest (z.put o.dst v') w'):wpList Tryd.prog ops Q (o::rest) z w :=
 wpList_plain hgd fun _ hK'=>by
  obtain ⟨i0,hi,hz0,hz1,hz2⟩ := info_parts hI.info;have hb:=hI.small;have hmul:(l.length+1)*bytes≤140737488355328:=Nat.le_trans (Nat.mul_le_mul (show l.length+1≤2000000 by omega) hb) (by decide);have hnews:∀ j u,(pCells rk c)[j]?=some u→w.cell? ((⟨p,0,none⟩ : Addr).add j)=some u:=fun j u hj=>by
   have hadd:((⟨p,0,none⟩ : Addr).add j)=⟨p,0+j,none⟩ := by unfold Addr.add; split <;> simp_all
   rw [hadd,Nat.zero_add]
   match j,hj with
   | 0,hj=>rw [show u=.int rk c.1 by simpa [pCells] using hj.symm]; exact h0
   | 1,hj=>rw [show u=.int .i64 c.2 by simpa [pCells] using hj.symm]; exact h1
   | n+2,hj=>simp [pCells] at hj
  obtain ⟨v',w',hr,g⟩ := U.append_grew (P:=Tryd.prog) w t t T i0 _ 2 bytes hI.slice hi hz0 hz1 hz2 rfl (by decide) base v l.length (flatP rk l) hown ⟨p,0,none⟩ 1 1 (pCells rk c) rfl hnews (fun u hu=>flatP_one rk [c] u (by simpa [flatP] using hu)) (by unfold maxLen; omega) hmul hbase;unfold Oper.wp execOp;simp only [ho,hty,resolve,invoke,builtin,Sem.run_bind,Sem.run_pure,Result.andThen_ok,List.map_toArray,List.map_cons,List.map_nil,hs,hxv,hr];refine hK' _ _ (hK v' w' ?_ g.grown);have e:flatP rk (l++[c])=flatP rk l++pCells rk c:=by rw [flatP_append]; simp [flatP]
  unfold OwnP;rw [e,List.length_append];exact g.own
end Go.Proofs.YtagolklnjhpbdaaDoor.K

namespace Go.Proofs.YtagolklnjhpbdaaDoor.R
theorem unwanted_of {ops:Array Oper} {a:Act} {o oj:Oper} {j d:Nat} {b c:Bool} (ho:o.guard=some (j,b)) (hj:ops[j]?=some oj) (hd:oj.dst=some d) (hv:a.tmps.getD d undef=.bool c) (hne:c≠b) (hs:d<a.tmps.size):Region.wanted o (yielded ops a.tmps)=false:=by
 have h1:a.tmps[d]?=some (.bool c):=by
  rw [gDx,Array.getElem?_eq_getElem hs] at hv;rw [Array.getElem?_eq_getElem hs]
  simpa using hv
 simp [Region.wanted,ho,yielded,hj,hd,h1,hne]
end Go.Proofs.YtagolklnjhpbdaaDoor.R
namespace Go.Proofs.YtagolklnjhpbdaaDoor.K
open Go.RowKit
end Go.Proofs.YtagolklnjhpbdaaDoor.K

namespace Go.Proofs.YtagolklnjhpbdaaDoor.K
open Go.RowKit
end Go.Proofs.YtagolklnjhpbdaaDoor.K

namespace Go.Proofs.YtagolklnjhpbdaaDoor.K
open Go.RowKit
def WholeOk (x s t x' s' t' j:Int) (rb:Nat) (a:Option Addr) (n c b o:Nat) (d:Bool):Nat→Value→World→Prop
  | 0,u,_=>u=.agg #[.int .i64 x,.int .i64 s,.int .i64 t]
  | 1,u,_=>u=.pointer (some ⟨rb,0,none⟩)
  | 2,u,_=>u=.slice a n c
  | 3,u,_=>u=.int .i64 j
  | 4,u,_=>u=.pointer (some ⟨b,o,none⟩)
  | 5,u,_=>u=.agg #[.int .i64 x',.int .i64 s',.int .i64 t']
  | 6,u,_=>u=.bool d
  | _,_,_=>True
theorem WholeOk.keeps {x s t x' s' t' j:Int} {rb:Nat} {a:Option Addr} {n c b o:Nat} {d:Bool} (i:Nat) (u:Value) (w w':World) (h:WholeOk x s t x' s' t' j rb a n c b o d i u w):WholeOk x s t x' s' t' j rb a n c b o d i u w':=by
 unfold WholeOk at h ⊢
 split <;> first | exact True.intro | exact h
theorem take_snoc {α:Type} (l:List α) (j:Nat) (h:j<l.length):l.take (j+1)=l.take j++[l[j]]:=by
 rw [List.take_add_one,List.getElem?_eq_getElem h]; rfl
end Go.Proofs.YtagolklnjhpbdaaDoor.K

namespace Go.Proofs.YtagolklnjhpbdaaDoor.R
open Go
def upd (L:Nat→Bool) (i:Nat):Nat→Bool:=fun k=>if k=i then true else L k
theorem updL (listed:Array Bool) (i:Nat) (h:i<listed.size):(fun k=>(listed.setIfInBounds i true).getD k false)=upd (fun k=>listed.getD k false) i:=by
 funext k
 unfold upd;rw [gDx,Array.getElem?_setIfInBounds];by_cases hki:i=k
 · subst hki; rw [if_pos rfl,if_pos h,if_pos rfl]; rfl
 · rw [if_neg hki,if_neg (Ne.symm hki),← gDx]
theorem noneL (n:Nat):(fun k=>(Array.replicate n false).getD k false)=fun _=>false:=by
 funext k
 rw [gDx];by_cases h:k<n
 · simp [h]
 · simp [h]
theorem allL {n:Nat} {listed:Array Bool} (hsz:listed.size=n) (h:∀ i,i<n→listed.getD i false=true):(fun k=>listed.getD k false)=fun k=>decide (k<n):=by
 funext k
 by_cases hk:k<n
 · rw [h k hk]; simp [hk]
 · rw [gDx,Array.getElem?_eq_none (by omega)]; simp [hk]
section
variable {P:Program} {ops:Array Oper} {Q:Exit→Act→World→Prop}
end
end Go.Proofs.YtagolklnjhpbdaaDoor.R

namespace Go.Proofs.YtagolklnjhpbdaaDoor.K
open Go.RowKit
theorem cels_ne {rk:IntKind} {a:Option Addr} {n:Nat} {l:List Cel} {w:World} (h:CelsIn rk a n l w) {t:TypeId} {p:Nat} {x:Option Addr} {y z:Nat} {bb:Bool} (hR:RoB t p (.slice x y z) bb w):∀ b off,a=some ⟨b,off,none⟩→l≠[]→b≠p:=fun b off ha hl e=>by
 subst e;rcases h.at_ with h0 | ⟨b',off',ha',_,hi⟩
 · exact hl h0
 · rw [ha] at ha';cases ha'
   match l,hl with
   | c::l,_ =>
    have hc:=(hi 0 c rfl).c0;simp only [World.cell?,show w.heap[b]?=_ from hR] at hc
    match off,hc with
    | 0,hc=>simp at hc
    | 1,hc=>simp at hc
    | n+2,hc=>simp at hc
theorem RowV.setAt {rk:IntKind} {u:Value} {r:Ro} {w:World} (h:RowV rk u r w) {t:TypeId} {p o:Nat} {x:Option Addr} {y z:Nat} {bb:Bool} (hR:RoB t p (.slice x y z) bb w) (s:Value):RowV rk u r (w.setCell ⟨p,o,none⟩ s):=by
 obtain ⟨a,c,e,hi,h3⟩ := h;refine ⟨a,c,e,?_,h3⟩;rcases hi.at_ with h0 | ⟨b,off,ha,hb,hc⟩
 · exact ⟨rfl,.inl h0⟩
 · by_cases h0:r.l=[]
   · exact ⟨rfl,.inl h0⟩
   · have hne:=cels_ne hi hR b off ha h0;exact ⟨rfl,.inr ⟨b,off,ha,Nat.lt_of_lt_of_le hb (KeepsWalks.setCell w _ s).size,fun i d hd=>(hc i d hd).block (Below.heap_setCell _ _ _ b (fun e=>hne e))⟩⟩
theorem RoB.set1 {t:TypeId} {p:Nat} {v:Value} {b b':Bool} {w:World} (h:RoB t p v b w):RoB t p v b' (w.setCell ⟨p,1,none⟩ (.bool b')):=by
 unfold RoB at h ⊢;simp [World.setCell,Array.getElem?_modify,h]
structure Both (rb b:Nat) (r:Ro) (w wr:World):Prop where
 below:Below rb w wr
 base:rb≤b
 rows:∃ x1 y1 x2 y2,RoB 57 b (.slice x1 r.l.length y1) r.wrapped wr∧RoB 63 (b+1) (.slice x2 r.l.length y2) r.wrapped wr∧RowV .i32 (.agg #[.slice x1 r.l.length y1,.bool r.wrapped]) r wr∧RowV .i64 (.agg #[.slice x2 r.l.length y2,.bool r.wrapped]) r wr
theorem Both.more {rb b:Nat} {r:Ro} {w wr w':World} (h:Both rb b r w wr) (hb:Below wr.heap.size wr w') (hs:rb≤wr.heap.size):Both rb b r w w':=by
 obtain ⟨x1,y1,x2,y2,h1,h2,h3,h4⟩ := h.rows;exact ⟨h.below.trans (hb.mono hs),h.base,x1,y1,x2,y2,h1.belowAll hb,h2.belowAll hb,h3.belowAll hb,h4.belowAll hb⟩
theorem RowV.shape {rk:IntKind} {u:Value} {r:Ro} {w:World} (h:RowV rk u r w):∃ x y,u=.agg #[.slice x r.l.length y,.bool r.wrapped]:=by
 obtain ⟨a,c,e,_⟩ := h;exact ⟨a,c,e⟩
theorem RowPost.row {rk:IntKind} {T:TypeId} {base:Nat} {l:List Cel} {b:Bool} {w:World} {e:Ending} {w':World} (h:RowPost rk T base l b w e w') {r:Ro} (hl:r.l=l) (hw:r.wrapped=b):∃ x y,e=.returned (.agg #[.slice x r.l.length y,.bool r.wrapped])∧RowV rk (.agg #[.slice x r.l.length y,.bool r.wrapped]) r w'∧Below base w w':=by
 obtain ⟨v,he,hO,hb⟩ := h;obtain ⟨a,c,rfl,h1,h2,h3,h4,h5⟩ := hO.shape;obtain ⟨l',b'⟩ := r;simp only at hl hw;subst hl hw;exact ⟨a,c,he,⟨a,c,rfl,h1,h3,h4,h5⟩,hb⟩
theorem RowV.of {rk:IntKind} {x:Option Addr} {m y:Nat} {g:Bool} {r:Ro} {w:World} (h:RowV rk (.agg #[.slice x m y,.bool g]) r w):g=r.wrapped∧CelsIn rk x m r.l w∧(x=none→y=0)∧m≤y∧(y:Int)≤9223372036854775807∧m=r.l.length:=by
 obtain ⟨a,c,e,hi,h3,h4,h5⟩ := h;have e1:#[Value.slice x m y,Value.bool g]=#[Value.slice a r.l.length c,Value.bool r.wrapped]:=by injection e
 simp only [Array.mk.injEq,List.cons.injEq,Value.slice.injEq,Value.bool.injEq,and_true] at e1;obtain ⟨⟨rfl,rfl,rfl⟩,rfl⟩ := e1;exact ⟨rfl,hi,h3,h4,h5,rfl⟩
theorem Both.stored {rb b:Nat} {r q:Ro} {w wr u:World} {x1 x2:Option Addr} {y1 y2:Nat} (h:Both rb b r w wr) (hb:Below wr.heap.size wr u) (hs:rb≤wr.heap.size) (h1:RowV .i32 (.agg #[.slice x1 q.l.length y1,.bool q.wrapped]) q u) (h2:RowV .i64 (.agg #[.slice x2 q.l.length y2,.bool q.wrapped]) q u) :
    Both rb b q w ((((u.setCell ⟨b,0,none⟩ (.slice x1 q.l.length y1)).setCell ⟨b,1,none⟩ (.bool q.wrapped)).setCell ⟨b+1,0,none⟩ (.slice x2 q.l.length y2)).setCell ⟨b+1,1,none⟩ (.bool q.wrapped)):=by
 have hU:=h.more hb hs;obtain ⟨a1,b1,a2,b2,g1,g2,-,-⟩ := hU.rows;have p1:=g1.set0 (v':=.slice x1 q.l.length y1);have p2:=p1.set1 (b':=q.wrapped);have e1:=(g2.setOther (q:=b) (o:=0) (x:=.slice x1 q.l.length y1) (by omega)).setOther (q:=b) (o:=1) (x:=.bool q.wrapped) (by omega);have e2:=e1.set0 (v':=.slice x2 q.l.length y2);have e3:=e2.set1 (b':=q.wrapped);refine ⟨(((hU.below.setCell (p:=⟨b,0,none⟩) h.base _).setCell (p:=⟨b,1,none⟩) h.base _).setCell (p:=⟨b+1,0,none⟩) (by show rb≤b+1; have:=h.base; omega) _).setCell (p:=⟨b+1,1,none⟩) (by show rb≤b+1; have:=h.base; omega) _,h.base,x1,y1,x2,y2,?_,e3,?_,?_⟩
 · exact (p2.setOther (by omega)).setOther (by omega)
 · exact (((h1.setAt g1 _).setAt p1 _).setAt e1 _).setAt e2 _
 · exact (((h2.setAt g1 _).setAt p1 _).setAt e1 _).setAt e2 _
def Two (u:Value) (q:Ro) (w:World):Prop:=∃ v1 v2,u=.tuple #[v1,v2]∧RowV .i32 v1 q w∧RowV .i64 v2 q w
theorem Two.belowAll {u:Value} {q:Ro} {w w':World} (h:Two u q w) (hb:Below w.heap.size w w'):Two u q w':=by
 obtain ⟨v1,v2,e,h1,h2⟩ := h;exact ⟨v1,v2,e,h1.belowAll hb,h2.belowAll hb⟩
def RowsK (w w':World):Prop:=∀ rk u r,RowV rk u r w→RowV rk u r w'
theorem RowsK.refl (w:World):RowsK w w:=fun _ _ _ h=>h
theorem RowsK.below {w w':World} (hb:Below w.heap.size w w'):RowsK w w':=fun _ _ _ h=>h.belowAll hb
structure Mid (rb b:Nat) (q:Ro) (w wr v:World):Prop where
 below:Below rb w v
 base:rb≤b
 rows:∃ x3 y3 x2 y2 m g,RoB 57 b (.slice x3 q.l.length y3) q.wrapped v∧RoB 63 (b+1) (.slice x2 m y2) g v∧RowV .i32 (.agg #[.slice x3 q.l.length y3,.bool q.wrapped]) q v
structure PlC (rb b:Nat) (r q:Ro) (w wr:World) (L:Nat→Bool) (v:World):Prop where
 some:L 10=true→∀ k,k<9→L k=true
 none:L 10=false→Below wr.heap.size wr v∧L 11=false
 half:L 10=true→L 11=false→Mid rb b q w wr v
 both:L 11=true→Both rb b q w v
theorem upd_ne {L:Nat→Bool} {i j:Nat} (h:j≠i):R.upd L i j=L j:=by unfold R.upd; rw [if_neg h]
theorem PlC.ten {rb b:Nat} {r q:Ro} {w wr:World} {L:Nat→Bool} {v:World} (h:PlC rb b r q w wr L v) {i:Nat} (hi:i<9) (hL:L i=false):L 10=false:=by
 cases h10:L 10
 · rfl
 · rw [h.some h10 i hi] at hL; cases hL
theorem PlC.next {rb b:Nat} {r q:Ro} {w wr:World} {L:Nat→Bool} {v v':World} (h:PlC rb b r q w wr L v) {i:Nat} (hi:i<9) (hL:L i=false) (hb:Below v.heap.size v v'):PlC rb b r q w wr (R.upd L i) v':=by
 have h10:=h.ten hi hL;obtain ⟨h1,h2⟩ := h.none h10;have e10:R.upd L i 10=false:=by rw [upd_ne (by omega)]; exact h10
 have e11:R.upd L i 11=false:=by rw [upd_ne (by omega)]; exact h2
 refine ⟨fun e=>?_,fun _=>⟨h1.trans (hb.mono h1.size),e11⟩,fun e=>?_,fun e=>?_⟩
 · rw [e10] at e; cases e
 · rw [e10] at e; cases e
 · rw [e11] at e; cases e
theorem PlC.nine {rb b:Nat} {r q:Ro} {w wr:World} {L:Nat→Bool} {v:World} (h:PlC rb b r q w wr L v):PlC rb b r q w wr (R.upd L 9) v :=
 ⟨fun e k hk=>by rw [upd_ne (by omega)]; exact h.some (by rw [upd_ne (by omega)] at e; exact e) k hk,fun e=>by rw [upd_ne (by omega)] at e ⊢; exact h.none e,fun e e'=>by rw [upd_ne (by omega)] at e e'; exact h.half e e',fun e=>by rw [upd_ne (by omega)] at e; exact h.both e⟩
end Go.Proofs.YtagolklnjhpbdaaDoor.K
