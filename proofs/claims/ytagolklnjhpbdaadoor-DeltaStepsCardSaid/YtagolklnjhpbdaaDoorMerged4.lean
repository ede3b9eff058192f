import Derived.Test.YtagolklnjhpbdaaDoorMerged0
import Derived.Test.YtagolklnjhpbdaaDoorMerged3
import Derived.Laws.ResultCell
import Derived.RangeFuncBox
import Derived.Deep.Cut
import Derived.Deep.CutBlock
import Derived.Deep.DeepCutAuto
import Derived.Lib.MinMax
import Derived.Lib.SliceRun
import Derived.Laws.Bits64b
import Derived.Laws.CopyRow
import Derived.Laws.IdiomCopy
namespace Go.Proofs.YtagolklnjhpbdaaDoor.K
open Go.RowKit
def cCells (rk:IntKind) (c:Cel):List Value:=[.int rk c.rune,.int .i64 c.style,.int .i64 c.part]
def cArr (rk:IntKind) (c:Cel):Array Value:=#[.int rk c.rune,.int .i64 c.style,.int .i64 c.part]
def flatC (rk:IntKind) (l:List Cel):List Value:=l.flatMap (cCells rk)
theorem flatC_len (rk:IntKind) (l:List Cel):(flatC rk l).length=l.length*3:=by
 induction l with
 | nil=>rfl
 | cons c l ih=>simp [flatC,List.flatMap_cons,cCells] at ih ⊢; omega
theorem flatC_append (rk:IntKind) (a b:List Cel):flatC rk (a++b)=flatC rk a++flatC rk b:=List.flatMap_append ..
theorem flatC_get (rk:IntKind):∀ (l:List Cel) (i j:Nat) (c:Cel),l[i]?=some c→j<3→(flatC rk l)[i*3+j]?=(cCells rk c)[j]?
  | [],_,_,_,h,_=>by cases h
  | d::l,0,j,c,h,hj=>by
   obtain rfl:d=c:=by simpa using h
   show (cCells rk d++flatC rk l)[0*3+j]?=_;rw [List.getElem?_append_left (by simp [cCells]; omega)];simp
  | d::l,i+1,j,c,h,hj=>by
   show (cCells rk d++flatC rk l)[(i+1)*3+j]?=_;rw [List.getElem?_append_right (by simp [cCells]; omega)];have e:(i+1)*3+j - (cCells rk d).length=i*3+j:=by simp [cCells]; omega
   rw [e];exact flatC_get rk l i j c (by simpa using h) hj
theorem flatC_one (rk:IntKind) (l:List Cel):∀ u ∈ flatC rk l,u.oneCell'=true:=by
 intro u hu;obtain ⟨c,_,hu⟩ := List.mem_flatMap.1 hu;simp only [cCells,List.mem_cons,List.not_mem_nil,or_false] at hu;rcases hu with rfl | rfl | rfl <;> rfl
structure CelAt (rk:IntKind) (w:World) (b o:Nat) (c:Cel):Prop where
 c0:w.cell? ⟨b,o,none⟩=some (.int rk c.rune)
 c1:w.cell? ⟨b,o+1,none⟩=some (.int .i64 c.style)
 c2:w.cell? ⟨b,o+2,none⟩=some (.int .i64 c.part)
theorem CelAt.block {rk:IntKind} {w w':World} {b o:Nat} {c:Cel} (h:CelAt rk w b o c) (hb:w'.heap[b]?=w.heap[b]?):CelAt rk w' b o c :=
 ⟨(World.cell?_of_block (a:=⟨b,o,none⟩) hb).trans h.c0,(World.cell?_of_block (a:=⟨b,o+1,none⟩) hb).trans h.c1,(World.cell?_of_block (a:=⟨b,o+2,none⟩) hb).trans h.c2⟩
theorem CelAt.get {rk:IntKind} {w:World} {b o:Nat} {c:Cel} (h:CelAt rk w b o c) (j:Nat) (u:Value) (hj:(cCells rk c)[j]?=some u):w.cell? ⟨b,o+j,none⟩=some u:=by
 match j,hj with
 | 0,hj=>rw [show u=.int rk c.rune by simpa [cCells] using hj.symm]; exact h.c0
 | 1,hj=>rw [show u=.int .i64 c.style by simpa [cCells] using hj.symm]; exact h.c1
 | 2,hj=>rw [show u=.int .i64 c.part by simpa [cCells] using hj.symm]; exact h.c2
 | n+3,hj=>simp [cCells] at hj
structure CelsIn (rk:IntKind) (a:Option Addr) (n:Nat) (l:List Cel) (w:World):Prop where
 len:n=l.length
 at_:l=[]∨∃ b off,a=some ⟨b,off,none⟩∧b<w.heap.size∧∀ i c,l[i]?=some c→CelAt rk w b (off+i*3) c
theorem CelsIn.blocks {rk:IntKind} {a:Option Addr} {n:Nat} {l:List Cel} {w w':World} (h:CelsIn rk a n l w) (hs:w.heap.size≤w'.heap.size) (hk:∀ b off,a=some ⟨b,off,none⟩→b<w.heap.size→w'.heap[b]?=w.heap[b]?):CelsIn rk a n l w':=by
 refine ⟨h.len,h.at_.imp id ?_⟩;rintro ⟨b,off,ha,hl,hi⟩;exact ⟨b,off,ha,Nat.lt_of_lt_of_le hl hs,fun i c hc=>(hi i c hc).block (hk b off ha hl)⟩
theorem CelsIn.belowAll {rk:IntKind} {a:Option Addr} {n:Nat} {l:List Cel} {w w':World} (h:CelsIn rk a n l w) (hb:Below w.heap.size w w'):CelsIn rk a n l w':=h.blocks hb.size (fun b _ _ hl=>hb.block b hl)
theorem CelsIn.take {rk:IntKind} {a:Option Addr} {n:Nat} {l:List Cel} {w:World} (h:CelsIn rk a n l w) {k:Nat} (hk:k≤n):CelsIn rk a k (l.take k) w:=by
 have hl:=h.len;refine ⟨by rw [List.length_take]; omega,?_⟩;rcases h.at_ with e | ⟨b,off,ha,hb,hi⟩
 · left; rw [e]; simp
 · exact .inr ⟨b,off,ha,hb,fun i c hc=>hi i c (by rw [List.getElem?_take] at hc; split at hc; exact hc; cases hc)⟩
theorem CelsIn.drop {rk:IntKind} {b off n:Nat} {l:List Cel} {w:World} (h:CelsIn rk (some ⟨b,off,none⟩) n l w) {k:Nat} (hk:k≤n):CelsIn rk (some ⟨b,off+k*3,none⟩) (n - k) (l.drop k) w:=by
 have hl:=h.len;refine ⟨by rw [List.length_drop]; omega,?_⟩;rcases h.at_ with e | ⟨b',off',ha,hb,hi⟩
 · left; rw [e]; simp
 · cases ha;refine .inr ⟨b,off+k*3,rfl,hb,fun i c hc=>?_⟩;rw [List.getElem?_drop] at hc;have:=hi (k+i) c hc;rw [show off+k*3+i*3=off+(k+i)*3 by omega];exact this
theorem CelsIn.empty (rk:IntKind) (a:Option Addr) (w:World):CelsIn rk a 0 [] w:=⟨rfl,.inl rfl⟩
theorem CelsIn.news {rk:IntKind} {b off n:Nat} {l:List Cel} {w:World} (h:CelsIn rk (some ⟨b,off,none⟩) n l w):∀ j u,(flatC rk l)[j]?=some u→w.cell? ((⟨b,off,none⟩ : Addr).add j)=some u:=by
 intro j u hj;have hadd:((⟨b,off,none⟩ : Addr).add j)=⟨b,off+j,none⟩ := by unfold Addr.add; split <;> simp_all
 rw [hadd];have hlt:j<l.length*3:=by have:=(List.getElem?_eq_some_iff.1 hj).1; rw [flatC_len] at this; exact this
 rcases h.at_ with e | ⟨b',off',ha,hb,hi⟩
 · rw [e] at hlt; simp at hlt
 · cases ha;have hjl:j / 3<l.length:=by omega
   have h1:=hi (j / 3) l[j / 3] (List.getElem?_eq_getElem hjl);have h2:=flatC_get rk l (j / 3) (j % 3) l[j / 3] (List.getElem?_eq_getElem hjl) (by omega);rw [show j / 3*3+j % 3=j by omega,hj] at h2;have h3:=h1.get (j % 3) u h2.symm;rw [show off+j=off+j / 3*3+j % 3 by omega];exact h3
def OwnC (rk:IntKind) (T:TypeId) (base:Nat) (v:Value) (l:List Cel) (w:World):Prop:=w.ownsRow base T 3 v l.length (flatC rk l)
theorem OwnC.nil (rk:IntKind) (T:TypeId) (base:Nat) (w:World):OwnC rk T base (.slice none 0 0) [] w:=World.ownsRow_nil _ _ _ _
theorem OwnC.belowAll {rk:IntKind} {T:TypeId} {base:Nat} {v:Value} {l:List Cel} {w w':World} (h:OwnC rk T base v l w) (hb:Below w.heap.size w w'):OwnC rk T base v l w':=U.belowAll h hb
theorem OwnC.alloc {rk:IntKind} {T:TypeId} {base:Nat} {v:Value} {l:List Cel} {w:World} (h:OwnC rk T base v l w) (o:Obj):OwnC rk T base v l (w.alloc o):=h.belowAll ((Below.refl _ _).alloc (Nat.le_refl _) o)
theorem OwnC.weaken {rk:IntKind} {T:TypeId} {base base':Nat} {v:Value} {l:List Cel} {w:World} (h:OwnC rk T base v l w) (hb:base'≤base):OwnC rk T base' v l w:=U.weaken h hb
theorem OwnC.ownBlock {rk:IntKind} {T:TypeId} {base:Nat} {v:Value} {l:List Cel} {w:World} (h:OwnC rk T base v l w):∀ q,v.ownBlock=some q→base≤q∧q<w.heap.size:=fun q hq=>⟨(U.own_type h hq).choose_spec.2.1,(U.own_type h hq).choose_spec.2.2⟩
theorem OwnC.shape {rk:IntKind} {T:TypeId} {base:Nat} {v:Value} {l:List Cel} {w:World} (h:OwnC rk T base v l w):∃ a c,v=.slice a l.length c∧CelsIn rk a l.length l w∧(∀ b off,a=some ⟨b,off,none⟩→base≤b∧b<w.heap.size∧off=0)∧(a=none→c=0)∧l.length≤c∧(c:Int)≤9223372036854775807:=by
 rcases h.2 with ⟨rfl,h0⟩ | ⟨g,cap,cur,rfl,hbase,hg,hc,hm,hs,ht⟩
 · refine ⟨none,0,by rw [h0],⟨rfl,.inl (List.length_eq_zero_iff.1 h0)⟩,(fun _ _ e=>by cases e),fun _=>rfl,by omega,by omega⟩
 · have hlt:=(gSx.1 hg).1;refine ⟨some ⟨g,0,none⟩,cap,rfl,⟨rfl,.inr ⟨g,0,rfl,hlt,fun i c hi=>?_⟩⟩,(fun b off e=>by cases e; exact ⟨hbase,hlt,rfl⟩),(fun e=>by cases e),hc,by unfold maxLen at hm; omega⟩;have hil:i<l.length:=(List.getElem?_eq_some_iff.1 hi).1;have hcell:∀ j,j<3→w.cell? ⟨g,0+i*3+j,none⟩=(cCells rk c)[j]?:=fun j hj=>by
    rw [Nat.zero_add,World.ownsRow.cellAt h (i*3+j) (by omega),flatC_get rk l i j c hi hj]
   exact ⟨hcell 0 (by decide),hcell 1 (by decide),hcell 2 (by decide)⟩
theorem OwnC.kept {rk:IntKind} {T:TypeId} {base:Nat} {v:Value} {l:List Cel} {w w':World} {row:Option Nat} (h:OwnC rk T base v l w) (hg:w.grownBy w' row) (hne:∀ q,v.ownBlock=some q→row≠some q):OwnC rk T base v l w':=U.kept_apart h hg hne
end Go.Proofs.YtagolklnjhpbdaaDoor.K

namespace Go.Proofs.YtagolklnjhpbdaaDoor.K
open Go.RowKit
structure CelT (rk:IntKind) (t T:TypeId) (bytes:Nat):Prop where
 slice:Tryd.prog.underlying t=some (.slice T)
 info:(Tryd.prog.info? T).map (fun i=>(i.zero,i.size,i.bytes))=some (some (.agg #[.int rk 0,.int .i64 0,.int .i64 0]),3,bytes)
 small:bytes≤24
theorem run_append_cells {rk:IntKind} {t T:TypeId} {bytes:Nat} (hI:CelT rk t T bytes) (base:Nat) (v:Value) (l:List Cel) (a:Option Addr) (m c:Nat) (l2:List Cel) (w:World) (hown:OwnC rk T base v l w) (h:CelsIn rk a m l2 w) (hnil:a=none→c=0) (h1:(l.length:Int)≤1000000) (h2:(l2.length:Int)≤1000000) (hbase:base≤w.heap.size) :
    ∃ v' w',(Builtin.append_ #[t,t] t #[v,.slice a m c]).run Tryd.prog w=.ok v' w'∧OwnC rk T base v' (l++l2) w'∧U.Grew base T 3 v (l.length+m) (flatC rk l++flatC rk l2) w v' w':=by
 obtain ⟨i0,hi,hz0,hz1,hz2⟩ := info_parts hI.info;have hl:=h.len;have hb:=hI.small;have hmul:(l.length+m)*bytes≤140737488355328:=Nat.le_trans (Nat.mul_le_mul (show l.length+m≤2000000 by omega) hb) (by decide);have done:∀ v' w',U.Grew base T 3 v (l.length+m) (flatC rk l++flatC rk l2) w v' w'→OwnC rk T base v' (l++l2) w':=fun v' w' g=>by
  unfold OwnC;rw [List.length_append,flatC_append,← hl];exact g.own
 cases a with
 | none =>
  have hc:=hnil rfl;have h0:l2=[]:=by
   rcases h.at_ with h0 | ⟨b,off,e,_⟩
   · exact h0
   · cases e
  subst h0;obtain rfl:m=0:=hl;obtain ⟨hr,g⟩ := U.append_none (P:=Tryd.prog) w t t T i0 3 c hI.slice hi base v l.length (flatC rk l) hown hc;have g':U.Grew base T 3 v (l.length+0) (flatC rk l++flatC rk []) w v w:=by simpa [flatC] using g
  exact ⟨v,w,hr,done _ _ g',g'⟩
 | some ad =>
  have hnews:∀ j u,(flatC rk l2)[j]?=some u→w.cell? (ad.add j)=some u:=fun j u hj=>by
   rcases h.at_ with h0 | ⟨b,off,e,_⟩
   · rw [h0] at hj; simp [flatC] at hj
   · cases e;exact h.news j u hj
  obtain ⟨v',w',hr,g⟩ := U.append_grew (P:=Tryd.prog) w t t T i0 _ 3 bytes hI.slice hi hz0 hz1 hz2 rfl (by decide) base v l.length (flatC rk l) hown ad m c (flatC rk l2) (by rw [flatC_len,hl]) hnews (flatC_one rk l2) (by unfold maxLen; omega) hmul hbase;exact ⟨v',w',hr,done _ _ g,g⟩
theorem wpList_append_cells {rk:IntKind} {t T:TypeId} {bytes:Nat} (hI:CelT rk t T bytes) {ops:Array Oper} {rest:List Oper} {o:Oper} {z:Act} {w:World} {Q:Exit→Act→World→Prop} (hgd:o.guard=none) (s x:Operand)
    (ho:o.op=.call { callee:=.builtin .append,args:=#[s,x],argTypes:=#[t,t] }) (hty:o.type=t)
    (base:Nat) (v:Value) (l:List Cel) (a:Option Addr) (m c:Nat) (l2:List Cel) (hs:z.eval s=v) (hxv:z.eval x=.slice a m c) (hown:OwnC rk T base v l w) (h:CelsIn rk a m l2 w) (hnil:a=none→c=0) (h1:(l.length:Int)≤1000000) (h2:(l2.length:Int)≤1000000) (hbase:base≤w.heap.size)
    (hK:∀ v' w',OwnC rk T base v' (l++l2) w'→U.Grew base T 3 v (l.length+m) (flatC rk l++flatC rk l2) w v' w'→wpList Tryd.prog ops Q rest (z.put o.dst v') w'):wpList Tryd.prog ops Q (o::rest) z w :=
 wpList_plain hgd fun _ hK'=>by
  obtain ⟨v',w',hr,k1,k2⟩ := run_append_cells hI base v l a m c l2 w hown h hnil h1 h2 hbase;unfold Oper.wp execOp;simp only [ho,hty,resolve,invoke,builtin,Sem.run_bind,Sem.run_pure,Result.andThen_ok,List.map_toArray,List.map_cons,List.map_nil,hs,hxv,hr];exact hK' _ _ (hK v' w' k1 k2)
theorem run_slice_cell {rk:IntKind} {t T:TypeId} {bytes:Nat} (hI:CelT rk t T bytes) (w:World) (c:Cel):(Instr.buildSlice t 1 #[(0,.agg (cArr rk c))]).run Tryd.prog w=.ok (.slice (some ⟨w.heap.size,0,none⟩) 1 1) (w.alloc (.cells (cArr rk c) T)):=by
 obtain ⟨i0,hi,hz0,hz1,hz2⟩ := info_parts hI.info;unfold cArr;have hsz:∀ w,(sizeOf T).run Tryd.prog w=.ok 3 w:=fun w=>by simp [sizeOf,typeInfo,hi,hz1]
 have hz:∀ w,(zeroValue T).run Tryd.prog w=.ok (.agg #[.int rk 0,.int .i64 0,.int .i64 0]) w:=fun w=>by simp [zeroValue,typeInfo,hi,hz0]
 simp only [Instr.buildSlice,Sem.run_bind,run_underlying hI.slice,Result.andThen_ok,hsz,Nat.one_mul,Sem.run_pure,hz,show ¬ (3 > 2 ^ 24) by decide,if_false,show ¬ (3=0) by decide];simp [Instr.fill,newRow,show Array.range 3=#[0,1,2] by decide,List.zipIdx,Value.cells]
theorem cels_one {rk:IntKind} (w:World) (c:Cel) (T:TypeId):CelsIn rk (some ⟨w.heap.size,0,none⟩) 1 [c] (w.alloc (.cells (cArr rk c) T)) :=
 ⟨rfl,.inr ⟨w.heap.size,0,rfl,by simp,fun i d hi=>by
  have h0:i=0:=by have:=(List.getElem?_eq_some_iff.1 hi).1; simp at this; omega
  subst h0;obtain rfl:c=d:=by simpa using hi
  exact ⟨by rw [World.cell?_alloc_new]; rfl,by rw [World.cell?_alloc_new]; rfl,by rw [World.cell?_alloc_new]; rfl⟩⟩⟩
theorem wpList_add_cell {rk:IntKind} {t T:TypeId} {bytes:Nat} (hI:CelT rk t T bytes) {ops:Array Oper} {rest:List Oper} {z:Act} {w:World} {Q:Exit→Act→World→Prop} {d1 d2:Option Tmp} {x a y:Operand} {t1:TypeId} {p1 p2:String} {f1 f2:Array Edge}
    (base:Nat) (v:Value) (l:List Cel) (c:Cel) (hx:z.eval x=.agg (cArr rk c))
    (ha:(z.put d1 (.slice (some ⟨w.heap.size,0,none⟩) 1 1)).eval a=v) (hy:(z.put d1 (.slice (some ⟨w.heap.size,0,none⟩) 1 1)).eval y=.slice (some ⟨w.heap.size,0,none⟩) 1 1)
    (hown:OwnC rk T base v l w) (hl:(l.length:Int)≤1000000) (hbase:base≤w.heap.size)
    (hK:∀ v' w',OwnC rk T base v' (l++[c]) w'→(∀ w0,Below base w0 w→Below base w0 w')→base≤w'.heap.size→wpList Tryd.prog ops Q rest ((z.put d1 (.slice (some ⟨w.heap.size,0,none⟩) 1 1)).put d2 v') w') :
    wpList Tryd.prog ops Q (⟨d1,.buildSlice t 1 #[(0,x)],t1,p1,f1,none⟩ :: ⟨d2,.call { callee:=.builtin .append,args:=#[a,y],argTypes:=#[t,t] },t,p2,f2,none⟩ :: rest) z w :=
 wpList_plain rfl fun _ hK'=>by
  unfold Oper.wp execOp;simp only [List.map_toArray,List.map_cons,List.map_nil,hx,run_slice_cell hI,Sem.run_bind,Result.andThen_ok,Sem.run_pure];refine hK' _ _ ?_;refine wpList_append_cells hI rfl a y rfl rfl base v l (some ⟨w.heap.size,0,none⟩) 1 1 [c] ha hy (hown.alloc _) (cels_one w c T) (fun e=>by cases e) hl (by simp) (by simp; omega) ?_;intro v' w' h1 h2;exact hK v' w' h1 (fun w0 hb=>(hb.alloc hbase _).grown h2.grown (by simp; omega) (fun q hq=>(hown.ownBlock q hq).1)) (by have:=h2.grown.size; simp at this; omega)
end Go.Proofs.YtagolklnjhpbdaaDoor.K

namespace Go.Proofs.YtagolklnjhpbdaaDoor.K
open Go.RowKit
theorem results_cell {fn:Func} {p:Tmp} {ty:TypeId} (h:fn.results=#[.cell p ty]) (tmps:Array Value) (P:Program) (w:World) :
    (results fn tmps).run P w=((asAddr (tmps.getD p undef)).run P w).andThen fun a w₁=>(loadVar ty a).run P w₁:=by
 simp only [results,h];simp [Sem.run_bind,Result.andThen]
theorem refT:CelT .i64 61 87 24:=⟨Tryd.underlying61,by kernel_rfl,by decide⟩
theorem rowT:CelT .i32 55 118 24:=⟨Tryd.underlying55,by kernel_rfl,by decide⟩
def RoB (t:TypeId) (p:Nat) (v:Value) (b:Bool) (w:World):Prop:=w.heap[p]?=some (.cells #[v,.bool b] t (0,0))
theorem RoB.new (t:TypeId) (w:World) (v:Value) (b:Bool):RoB t w.heap.size v b (w.alloc (.cells #[v,.bool b] t)):=World.alloc_heap_new w _
theorem RoB.lt {t:TypeId} {p:Nat} {v:Value} {b:Bool} {w:World} (h:RoB t p v b w):p<w.heap.size:=(gSx.1 h).1
theorem RoB.c0 {t:TypeId} {p:Nat} {v:Value} {b:Bool} {w:World} (h:RoB t p v b w):w.cell? ⟨p,0,none⟩=some v:=by simp [World.cell?,show w.heap[p]?=_ from h]
theorem RoB.c1 {t:TypeId} {p:Nat} {v:Value} {b:Bool} {w:World} (h:RoB t p v b w):w.cell? ⟨p,1,none⟩=some (.bool b):=by simp [World.cell?,show w.heap[p]?=_ from h]
theorem RoB.fr {t:TypeId} {p:Nat} {v:Value} {b:Bool} {w:World} (h:RoB t p v b w) (o:Nat):w.frozen? ⟨p,o,none⟩=false:=by simp [World.frozen?,show w.heap[p]?=_ from h]
theorem RoB.below {t:TypeId} {p:Nat} {v:Value} {b:Bool} {w w':World} {B:Nat} (h:RoB t p v b w) (hb:Below B w w') (hp:p<B):RoB t p v b w':=(hb.block p hp).trans h
theorem RoB.belowAll {t:TypeId} {p:Nat} {v:Value} {b:Bool} {w w':World} (h:RoB t p v b w) (hb:Below w.heap.size w w'):RoB t p v b w':=h.below hb h.lt
theorem RoB.grown {t:TypeId} {p:Nat} {v:Value} {b:Bool} {w w':World} {row:Option Nat} (h:RoB t p v b w) (hg:w.grownBy w' row) (hne:row≠some p):RoB t p v b w':=(hg.block p h.lt (fun e=>hne e.symm)).trans h
theorem below_set2 {base p:Nat} {w0 w:World} {v:Value} {b:Bool} (h:Below base w0 w) (hp:base≤p):Below base w0 ((w.setCell ⟨p,0,none⟩ v).setCell ⟨p,1,none⟩ (.bool b)) :=
 (h.setCell (p:=⟨p,0,none⟩) hp _).setCell (p:=⟨p,1,none⟩) hp _
def RowPost (rk:IntKind) (T:TypeId) (base:Nat) (l:List Cel) (b:Bool) (w:World) (e:Ending) (w':World):Prop:=∃ v,e=.returned (.agg #[v,.bool b])∧OwnC rk T base v l w'∧Below base w w'
theorem OwnC.lit (rk:IntKind) (T:TypeId) (w:World) (base:Nat) (hb:base≤w.heap.size):OwnC rk T base (.slice (some ⟨w.heap.size,0,none⟩) 0 0) [] (w.alloc (.cells #[] T)):=World.ownsRow_lit w #[] 0 hb (by decide) rfl
theorem OwnC.set2 {rk:IntKind} {T:TypeId} {base:Nat} {v:Value} {l:List Cel} {w:World} (h:OwnC rk T base v l w) {p:Nat} (hp:p<base) (v0 v1:Value):OwnC rk T base v l ((w.setCell ⟨p,0,none⟩ v0).setCell ⟨p,1,none⟩ v1):=by
 have g1:∀ (u:World) (o:Nat) (x:Value),u.grownBy (u.setCell ⟨p,o,none⟩ x) (some p):=fun u o x=>⟨rfl,rfl,rfl,(KeepsWalks.setCell u _ x).size,fun i _ hi=>Below.heap_setCell _ _ _ i (fun e=>hi (by rw [e]))⟩
 have hne:∀ {u:World},OwnC rk T base v l u→∀ q,v.ownBlock=some q→some p≠some q:=fun hu q hq e=>by have:=(hu.ownBlock q hq).1; have:=Option.some.inj e; omega
 have h1:=h.kept (g1 w 0 v0) (hne h);exact h1.kept (g1 _ 1 v1) (hne h1)
end Go.Proofs.YtagolklnjhpbdaaDoor.K

namespace Go.Proofs.YtagolklnjhpbdaaDoor.K
open Go.RowKit
end Go.Proofs.YtagolklnjhpbdaaDoor.K

namespace Go.Proofs.YtagolklnjhpbdaaDoor.K
open Go.RowKit
def nearS (n most:Int):Int:=min (max n 0) most
theorem nearest_any (n most:Int) (w:World):Calls Tryd.prog 58 #[.int .i64 n,.int .i64 most] w fun e w'=>e=.returned (.int .i64 (nearS n most))∧w=w':=by
 unfold nearS;obtain ⟨N,hN⟩ : ∃ N,max n 0=N:=⟨_,rfl⟩;rw [hN];obtain ⟨M,hM⟩ : ∃ M,min N most=M:=⟨_,rfl⟩;rw [hM]
 go_enter Tryd.func58,Tryd.ntmps58
 go_wp2
 go_ret
 exact ⟨rfl,rfl⟩
theorem blank_any (s:Int) (w:World):Calls Tryd.prog 81 #[.int .i64 s] w fun e w'=>e=.returned (.agg #[.int .i32 32,.int .i64 s,.int .i64 0])∧Below w.heap.size w w':=by
 go_enter Tryd.func81,Tryd.ntmps81
 go_wp2
 refine bodyPost_ret (v:=.agg #[.int .i32 32,.int .i64 s,.int .i64 0]) (by rw [results_cell (fn:=Tryd.f81) rfl]; go_simp <;> rfl) rfl ?_;refine ⟨rfl,?_⟩
 first
   | exact (((((Below.refl _ _).alloc (Nat.le_refl _) _).setCell (p:=⟨w.heap.size,0,none⟩) (Nat.le_refl _) _).setCell (p:=⟨w.heap.size,1,none⟩) (Nat.le_refl _) _).setCell (p:=⟨w.heap.size,2,none⟩) (Nat.le_refl _) _)
   | exact (Below.refl _ _).alloc (Nat.le_refl _) _
end Go.Proofs.YtagolklnjhpbdaaDoor.K

namespace Go.Proofs.YtagolklnjhpbdaaDoor.K
open Go.RowKit
end Go.Proofs.YtagolklnjhpbdaaDoor.K

namespace Go.Proofs.YtagolklnjhpbdaaDoor.K
open Go.RowKit
theorem below_grown {base g:Nat} {w0 w w':World} (h:Below base w0 w) (hg:w.grownBy w' (some g)) (hb:base≤g) (hs:base≤w.heap.size):Below base w0 w' :=
 ⟨hg.os.trans h.os,hg.tape.trans h.tape,hg.output.trans h.output,Nat.le_trans h.size hg.size,fun k hk=>(hg.block k (Nat.lt_of_lt_of_le hk hs) (fun e=>by have:=Option.some.inj e; omega)).trans (h.block k hk)⟩
end Go.Proofs.YtagolklnjhpbdaaDoor.K

namespace Go.Proofs.YtagolklnjhpbdaaDoor.K
open Go.RowKit
def CelPost (T:TypeId) (base:Nat) (l:List Cel) (w:World) (e:Ending) (w':World):Prop:=∃ v,e=.returned v∧OwnC .i32 T base v l w'∧Below base w w'
set_option maxRecDepth 100000 in
set_option maxHeartbeats 4000000 in
theorem clone_any (a:Option Addr) (n c:Nat) (l:List Cel) (w:World) (hI:CelsIn .i32 a n l w) (hnil:a=none→c=0) (hn:(n:Int)≤1000000) :
    Calls Tryd.prog 99 #[.slice a n c] w (CelPost 118 w.heap.size l w):=by
 obtain ⟨P,hP⟩ : ∃ P,CelPost 118 w.heap.size l w=P:=⟨_,rfl⟩;rw [hP];have HP:=hDx hP;cases a with
 | none =>
  obtain rfl:=hnil rfl;obtain rfl:l=[]:=by
   rcases hI.at_ with h | ⟨_,_,h,_⟩
   · exact h
   · cases h
  obtain rfl:n=0:=hI.len;clear hP hI hnil hn;have qn:∀ (w:World),(binOp .eql 55 (.slice none 0 0) (.slice none 0 0)).run Tryd.prog w=.ok (.bool true) w:=fun w=>Lib.run_eql_slice_nil w _ _ none 0 0 0 0 Tryd.underlying55
  go_enter Tryd.func99,Tryd.ntmps99
  go_wp2_with fail
  rw [← HP.out];exact ⟨_,rfl,OwnC.nil _ _ _ _,Below.refl _ _⟩
 | some ad =>
  have hb1:Below w.heap.size w (w.alloc (.cells #[] 118)):=(Below.refl _ _).alloc (Nat.le_refl _) _;have HO1:=hDx (OwnC.lit .i32 118 w w.heap.size (Nat.le_refl _));have HI1:=hDx (hI.belowAll hb1);have HS1:=hDx hb1.size;have HLn:Hid ((l.length:Int)≤1000000):=hDx (by rw [← hI.len]; exact hn);have HB1:=hDx hb1;clear hP hb1 hI hnil;have qn:∀ (w:World),(binOp .eql 55 (.slice (some ad) n c) (.slice none 0 0)).run Tryd.prog w=.ok (.bool false) w:=fun w=>Lib.run_eql_slice_nil w _ _ (some ad) n c 0 0 Tryd.underlying55
  go_enter Tryd.func99,Tryd.ntmps99
  go_wp2_with (refine wpList_append_cells rowT rfl _ _ rfl rfl w.heap.size _ [] (some ad) n c l rfl rfl HO1.out HI1.out (fun e=>by cases e) (by simp) HLn.out HS1.out ?_)
  intro v' w' hown hg;have HE:Hid (OwnC .i32 118 w.heap.size v' l w'∧Below w.heap.size w w'):=hDx ⟨by simpa using hown,HB1.out.grown hg.grown HS1.out (fun q hq=>(HO1.out.ownBlock q hq).1)⟩;clear hown hg
  go_wp2
  rw [← HP.out];exact ⟨_,rfl,HE.out.1,HE.out.2⟩
theorem u64_and32 (n:Nat) (hn:n≤1000000):bits .and .u64 (n:Int) 4294967295=(n:Int):=by
 have h:=bits_and_u64_nat n 4294967295 (by omega) (by decide);rw [show ((4294967295:Nat):Int)=4294967295 from rfl] at h;rw [h,show (4294967295:Nat)=2 ^ 32 - 1 from rfl,Nat.and_two_pow_sub_one_eq_mod,Nat.mod_eq_of_lt (by omega)]
set_option maxRecDepth 100000 in
set_option maxHeartbeats 4000000 in
theorem mul64_one (n:Nat) (hn:n≤1000000) (w:World):Calls Tryd.prog 101 #[.int .u64 1,.int .u64 (n:Int)] w fun e w'=>e=.returned (.tuple #[.int .u64 0,.int .u64 (n:Int)])∧w=w':=by
 have h1:bits .and .u64 1 4294967295=1:=by decide
 have h2:=u64_and32 n hn;have h3:(n:Int) / 4294967296=0:=by omega
 have h4:bits .and .u64 0 4294967295=0:=by decide
 go_enter Tryd.func101,Tryd.ntmps101
 go_wp2_with fail
 refine bodyPost_ret (results_tmp2 rfl _ _ _) rfl ?_;exact ⟨rfl,rfl⟩
set_option maxRecDepth 100000 in
set_option maxHeartbeats 4000000 in
theorem mul_one (n:Nat) (hn:n≤1000000) (w:World):Calls Tryd.prog 96 #[.int .u64 1,.int .u64 (n:Int)] w fun e w'=>e=.returned (.tuple #[.int .u64 0,.int .u64 (n:Int)])∧w=w':=by
 go_enter Tryd.func96,Tryd.ntmps96
 go_wp2_with (go_at_call 101; refine (mul64_one n hn w).mono ?_; rintro e w' ⟨rfl,rfl⟩)
 refine bodyPost_ret (results_tmp2 rfl _ _ _) rfl ?_;exact ⟨rfl,rfl⟩
end Go.Proofs.YtagolklnjhpbdaaDoor.K

namespace Go.Proofs.YtagolklnjhpbdaaDoor.U
open Go.RowKit
theorem run_copy_rows {P:Program} (w:World) (dT sT ty elem:TypeId) (size g o dLen dCap:Nat) (a:Addr) (sLen sCap:Nat) (cur:Array Value) (t:TypeId) (cs:List Value)
    (hu:P.underlying dT=some (.slice elem)) (hs:(P.info? elem).map (·.size)=some size)
    (hg:w.heap[g]?=some (.cells cur t (0,0))) (hn:cs.length=Nat.min sLen dLen*size)
    (hsrc:∀ j v,cs[j]?=some v→w.cell? (a.add j)=some v) (hfit:o+cs.length≤cur.size) (h1:∀ v ∈ cs,v.oneCell'=true) :
    (Builtin.copy_ #[dT,sT] ty #[.slice (some ⟨g,o,none⟩) dLen dCap,.slice (some a) sLen sCap]).run P w =
      .ok (goInt (Nat.min sLen dLen:Nat)) (w.setRow g (cur.toList.take o++cs++cur.toList.drop (o+cs.length)).toArray):=by
 have hl:=run_loadCells_list (P:=P) w a cs hsrc;have hst:=run_storeCells_at (P:=P) g o t cs 0 cur w hg (by simpa using hfit) h1;cases hq:P.info? elem with
 | none=>simp [hq] at hs
 | some i =>
  have hi:i.size=size:=by simpa [hq] using hs
  simp [Builtin.copy_,run_underlying hu,Builtin.lenOf,Builtin.firstCells,sizeOf,typeInfo,hq,hi,← hn,hl,hst]
theorem run_copy_own {P:Program} (w:World) (dT sT ty elem:TypeId) (size:Nat) (hu:P.underlying dT=some (.slice elem)) (hs:(P.info? elem).map (·.size)=some size)
    (base g n cap:Nat) (xs:List Value) (hown:w.ownsRow base elem size (.slice (some ⟨g,0,none⟩) n cap) n xs) (i m:Nat) (dLen dCap:Nat) (a:Addr) (sLen sCap:Nat) (cs:List Value)
    (hm:Nat.min sLen dLen=m) (hn:cs.length=m*size) (hsrc:∀ j v,cs[j]?=some v→w.cell? (a.add j)=some v) (hfit:i+m≤n) (h1:∀ v ∈ cs,v.oneCell'=true) :
    ∃ w',(Builtin.copy_ #[dT,sT] ty #[.slice (some ⟨g,i*size,none⟩) dLen dCap,.slice (some a) sLen sCap]).run P w=.ok (goInt (m:Nat)) w' ∧
      w'.ownsRow base elem size (.slice (some ⟨g,0,none⟩) n cap) n (xs.take (i*size)++cs++xs.drop ((i+m)*size))∧w.grownBy w' (some g):=by
 rcases hown.2 with ⟨h0,_⟩ | ⟨g',cap',cur,he,hbase,hg,hc,hmx,hsz,ht⟩
 · cases h0
 · obtain ⟨rfl,rfl⟩ : g=g'∧cap=cap':=by injection he with h1 h2 h3; injection h1 with h1; injection h1 with h1; exact ⟨h1,h3⟩
   have hxl:xs.length=n*size:=hown.1;have hle:(i+m)*size≤n*size:=Nat.mul_le_mul_right _ hfit;have hle2:n*size≤cap*size:=Nat.mul_le_mul_right _ hc;have hims:(i+m)*size=i*size+m*size:=Nat.add_mul _ _ _;have hcur:cur.toList.length=cap*size:=by simpa using hsz
   have hr:=run_copy_rows (P:=P) w dT sT ty elem size g (i*size) dLen dCap a sLen sCap cur elem cs hu hs hg (by rw [hm]; exact hn) hsrc (by rw [hn,hsz]; omega) h1;rw [hm] at hr;obtain ⟨C2,hC2⟩ : ∃ C2,(cur.toList.take (i*size)++cs++cur.toList.drop (i*size+cs.length))=C2:=⟨_,rfl⟩;rw [hC2] at hr;have hl2:C2.length=cap*size:=by
    rw [← hC2,List.length_append,List.length_append,List.length_take,List.length_drop,hcur,hn]; omega
   have hp:C2.take (n*size)=xs.take (i*size)++cs++xs.drop ((i+m)*size):=by
    rw [← hC2,← ht,hn];have ha:(cur.toList.take (i*size)).length=i*size:=by rw [List.length_take]; omega
    rw [List.take_append,List.take_append,List.length_append,ha,hn,List.take_of_length_le (l:=cur.toList.take (i*size)) (by rw [ha]; omega),List.take_of_length_le (l:=cs) (by rw [hn]; omega),List.take_take,Nat.min_eq_left (by omega),List.drop_take,← hims]
   refine ⟨_,hr,⟨?_,.inr ⟨g,cap,C2.toArray,rfl,hbase,setRow_heap w g cur C2.toArray elem (0,0) hg,hc,hmx,by simp [hl2],hp⟩⟩,⟨rfl,rfl,rfl,by simp [World.setRow],fun k _ hk=>setRow_other w g k _ (fun e=>hk (by rw [e]))⟩⟩;rw [List.length_append,List.length_append,List.length_take,List.length_drop,hn,hxl]; omega
theorem wp_copy_own {P:Program} {o:Oper} {z:Act} {w:World} {K:Act→World→Prop} {Q:Exit→Act→World→Prop} (d s:Operand) (dT sT:TypeId)
    (ho:o.op=.call { callee:=.builtin .copy,args:=#[d,s],argTypes:=#[dT,sT] }) (elem:TypeId) (size:Nat) (hu:P.underlying dT=some (.slice elem)) (hs:(P.info? elem).map (·.size)=some size)
    (base g n cap:Nat) (xs:List Value) (hown:w.ownsRow base elem size (.slice (some ⟨g,0,none⟩) n cap) n xs) (i m:Nat) (dLen dCap:Nat) (a:Addr) (sLen sCap:Nat) (cs:List Value)
    (hd:z.eval d=.slice (some ⟨g,i*size,none⟩) dLen dCap) (hsv:z.eval s=.slice (some a) sLen sCap)
    (hm:Nat.min sLen dLen=m) (hn:cs.length=m*size) (hsrc:∀ j v,cs[j]?=some v→w.cell? (a.add j)=some v) (hfit:i+m≤n) (h1:∀ v ∈ cs,v.oneCell'=true)
    (h:∀ w',Hid (w'.ownsRow base elem size (.slice (some ⟨g,0,none⟩) n cap) n (xs.take (i*size)++cs++xs.drop ((i+m)*size)))→Hid (w.grownBy w' (some g))→K (z.put o.dst (goInt (m:Nat))) w') :
    Oper.wp P o z w K Q:=by
 obtain ⟨w',hr,k1,k2⟩ := run_copy_own (P:=P) w dT sT o.type elem size hu hs base g n cap xs hown i m dLen dCap a sLen sCap cs hm hn hsrc hfit h1;unfold Oper.wp;simp only [execOp,ho,resolve,invoke,builtin,hd,hsv,hr,Sem.run_bind,Sem.run_pure,Result.andThen_ok,List.map_toArray,List.map_cons,List.map_nil];exact h w' (hDx k1) (hDx k2)
theorem wpList_copy_own {P:Program} {ops:Array Oper} {rest:List Oper} {o:Oper} {z:Act} {w:World} {Q:Exit→Act→World→Prop} (hgd:o.guard=none) (d s:Operand) (dT sT:TypeId)
    (ho:o.op=.call { callee:=.builtin .copy,args:=#[d,s],argTypes:=#[dT,sT] }) (elem:TypeId) (size:Nat) (hu:P.underlying dT=some (.slice elem)) (hs:(P.info? elem).map (·.size)=some size)
    (base g n cap:Nat) (xs:List Value) (hown:w.ownsRow base elem size (.slice (some ⟨g,0,none⟩) n cap) n xs) (i m:Nat) (dLen dCap:Nat) (a:Addr) (sLen sCap:Nat) (cs:List Value)
    (hd:z.eval d=.slice (some ⟨g,i*size,none⟩) dLen dCap) (hsv:z.eval s=.slice (some a) sLen sCap)
    (hm:Nat.min sLen dLen=m) (hn:cs.length=m*size) (hsrc:∀ j v,cs[j]?=some v→w.cell? (a.add j)=some v) (hfit:i+m≤n) (h1:∀ v ∈ cs,v.oneCell'=true)
    (h:∀ w',w'.ownsRow base elem size (.slice (some ⟨g,0,none⟩) n cap) n (xs.take (i*size)++cs++xs.drop ((i+m)*size))→w.grownBy w' (some g)→wpList P ops Q rest (z.put o.dst (goInt (m:Nat))) w') :
    wpList P ops Q (o::rest) z w :=
 wpList_plain hgd fun _ hK'=>by
  obtain ⟨w',hr,k1,k2⟩ := run_copy_own (P:=P) w dT sT o.type elem size hu hs base g n cap xs hown i m dLen dCap a sLen sCap cs hm hn hsrc hfit h1;unfold Oper.wp execOp;simp only [ho,resolve,invoke,builtin,Sem.run_bind,Sem.run_pure,Result.andThen_ok,List.map_toArray,List.map_cons,List.map_nil,hd,hsv,hr];exact hK' _ _ (h w' k1 k2)
def rep (n:Nat) (xs:List Value):List Value:=(List.replicate n xs).flatten
theorem rep_length (n:Nat) (xs:List Value):(rep n xs).length=n*xs.length:=by
 induction n with
 | zero=>simp [rep]
 | succ n ih =>
  unfold rep at ih ⊢;rw [List.replicate_succ,List.flatten_cons,List.length_append,ih,Nat.succ_mul]; omega
theorem rep_add (n m:Nat) (xs:List Value):rep (n+m) xs=rep n xs++rep m xs:=by
 unfold rep; rw [← List.flatten_append,List.replicate_append_replicate]
theorem rep_take {n k:Nat} (h:k≤n) (xs:List Value):(rep n xs).take (k*xs.length)=rep k xs:=by
 obtain ⟨d,rfl⟩ : ∃ d,n=k+d:=⟨n - k,by omega⟩;rw [rep_add];exact List.take_left' (rep_length k xs)
theorem rep_one (xs:List Value):rep 1 xs=xs:=by simp [rep]
theorem rep_mem {n:Nat} {xs:List Value} {u:Value} (h:u ∈ rep n xs):u ∈ xs:=by
 unfold rep at h;obtain ⟨l,hl,hu⟩ := List.mem_flatten.1 h;rw [(List.mem_replicate.1 hl).2] at hu;exact hu
def Filled (base:Nat) (e:TypeId) (size g n:Nat) (xs:List Value) (j:Nat) (w:World):Prop:=∃ L,L.take (j*size)=rep j xs∧w.ownsRow base e size (.slice (some ⟨g,0,none⟩) n n) n L
theorem Filled.src {base:Nat} {e:TypeId} {size g n:Nat} {xs:List Value} {k q:Nat} {w:World} (h:Filled base e size g n xs k w) (hx:xs.length=size) (hqk:q≤k) (hk:k≤n) :
    ∀ j v,(rep q xs)[j]?=some v→w.cell? ((⟨g,0,none⟩ : Addr).add j)=some v:=fun j v hj=>by
 obtain ⟨L,hL,hoL⟩ := h;have hadd:((⟨g,0,none⟩ : Addr).add j)=⟨g,0+j,none⟩ := by unfold Addr.add; split <;> simp_all
 rw [hadd,Nat.zero_add];have hjl:j<q*size:=by have:=(List.getElem?_eq_some_iff.1 hj).1; rw [rep_length,hx] at this; exact this
 have h2:(rep k xs)[j]?=some v:=by
  have h3:=rep_take hqk xs;rw [hx] at h3;rw [← h3,List.getElem?_take,if_pos hjl] at hj;exact hj
 rw [← hL,List.getElem?_take] at h2
 split at h2
 · have h5:k*size≤n*size:=Nat.mul_le_mul_right _ hk;have h6:q*size≤k*size:=Nat.mul_le_mul_right _ hqk;exact (World.ownsRow.cellAt hoL j (by omega)).trans h2
 · cases h2
theorem Filled.belowAll {base:Nat} {e:TypeId} {size g n:Nat} {xs:List Value} {k:Nat} {w w':World} (h:Filled base e size g n xs k w) (hb:Below w.heap.size w w'):Filled base e size g n xs k w':=by
 obtain ⟨L,hL,hoL⟩ := h;exact ⟨L,hL,U.belowAll hoL hb⟩
theorem Filled.less {base:Nat} {e:TypeId} {size g n:Nat} {xs:List Value} {k q:Nat} {w:World} (h:Filled base e size g n xs (k+q) w) (hx:xs.length=size):Filled base e size g n xs k w:=by
 obtain ⟨L,hL,hoL⟩ := h;refine ⟨L,?_,hoL⟩;have h3:=rep_take (Nat.le_add_right k q) xs;rw [hx,← hL,List.take_take,Nat.min_eq_left (Nat.mul_le_mul_right _ (Nat.le_add_right k q))] at h3;exact h3
theorem rep_step {n k m size:Nat} {xs L:List Value} (hx:xs.length=size) (hL:L.take (k*size)=rep k xs) (hmk:m≤k) (hfit:k+m≤n) (hl:L.length=n*size) :
    (L.take (k*size)++rep m xs++L.drop ((k+m)*size)).take ((k+m)*size)=rep (k+m) xs:=by
 have h1:(rep k xs++rep m xs).length=(k+m)*size:=by rw [List.length_append,rep_length,rep_length,hx,Nat.add_mul]
 rw [hL,List.take_left' h1,rep_add]
end Go.Proofs.YtagolklnjhpbdaaDoor.U
