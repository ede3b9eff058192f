import Derived.Test.YtagolklnjhpbdaaDoorMerged0
import Derived.Test.YtagolklnjhpbdaaDoorMerged9
import Derived.Test.YtagolklnjhpbdaaDoorMerged4
import Derived.Test.YtagolklnjhpbdaaDoorMerged1
import Derived.Test.YtagolklnjhpbdaaDoorMerged8
import Derived.Test.YtagolklnjhpbdaaDoorMerged7
namespace Go.Proofs.YtagolklnjhpbdaaDoor.K
open Go.RowKit Go.Shelf
attribute [local go_sem] Oper.semAt_some
def TyC (base:Nat) (u:Rv) (w:World):Prop:=∀ b off,u.a=some ⟨b,off,none⟩→base≤b∧∃ cs,w.heap[b]?=some (.cells cs 118 (0,0))
theorem TyC.of {base:Nat} {x:Option Addr} {n y:Nat} {b:Bool} {l:List Cel} {w:World} (h:OwnC .i32 118 base (.slice x n y) l w):TyC base ⟨x,n,y,b⟩ w:=by
 intro g off e;obtain ⟨a,c,h1,-,h2,-⟩ := h.shape;injection h1 with h1
 obtain ⟨h3,-,h4⟩ := h2 g off (by rw [← h1]; exact e);obtain ⟨cs,h5,_⟩ := U.own_type h (g:=g) (by rw [show x=some ⟨g,off,none⟩ from e]; rfl);exact ⟨h3,cs,h5⟩
theorem RowV.moved {rk:IntKind} {u:Rv} {r:Ro} {w w':World} (h:RowV rk u.val r w) (hs:w.heap.size≤w'.heap.size) (hk:∀ b off,u.a=some ⟨b,off,none⟩→b<w.heap.size→w'.heap[b]?=w.heap[b]?):RowV rk u.val r w':=by
 obtain ⟨a,c,e,hi,h3⟩ := h;have:=Rv.val_inj (v:=⟨a,r.l.length,c,r.wrapped⟩) e;subst this;exact ⟨a,c,rfl,hi.blocks hs hk,h3⟩
theorem RowsV.moved {rk:IntKind} {us:List Rv} {rs:List Ro} {w w':World} (h:RowsV rk us rs w) (hs:w.heap.size≤w'.heap.size) (hk:∀ u ∈ us,∀ b off,u.a=some ⟨b,off,none⟩→b<w.heap.size→w'.heap[b]?=w.heap[b]?):RowsV rk us rs w' :=
 ⟨h.1,fun i u r hu hr=>(h.2 i u r hu hr).moved hs (hk u (List.mem_of_getElem? hu))⟩
theorem TyC.moved {base:Nat} {u:Rv} {w w':World} (h:TyC base u w) (hk:∀ b off,u.a=some ⟨b,off,none⟩→b<w.heap.size→w'.heap[b]?=w.heap[b]?):TyC base u w':=fun b off e=>by
 obtain ⟨h1,cs,h2⟩ := h b off e;exact ⟨h1,cs,(hk b off e (gSx.1 h2).1).trans h2⟩
theorem OwnC.rowV {T:TypeId} {base:Nat} {x:Option Addr} {n y:Nat} {r:Ro} {w:World} (h:OwnC .i32 T base (.slice x n y) r.l w):RowV .i32 (.agg #[.slice x n y,.bool r.wrapped]) r w:=by
 obtain ⟨a,c,e,h2,-,h3,h4,h5⟩ := h.shape;cases e;exact ⟨x,y,rfl,h2,h3,h4,h5⟩
def CopI (base B:Nat) (rs:List Ro) (w:World):Prop:=∃ v us,Boxed w B 22 v∧OwnV 57 base v us w∧RowsV .i32 us rs w∧∀ u ∈ us,TyC base u w
theorem CopI.grown {base B:Nat} {rs:List Ro} {w w':World} {row:Option Nat} (h:CopI base B rs w) (hg:w.grownBy w' row) (hr:∀ r,row=some r→∃ o:Obj,w.heap[r]?=some o∧o.isCells=false):CopI base B rs w':=by
 obtain ⟨v,us,h1,h2,h3,h4⟩ := h;have hne:∀ u ∈ us,∀ b off,u.a=some ⟨b,off,none⟩→b<w.heap.size→w'.heap[b]?=w.heap[b]?:=fun u hu b off e hl=>hg.block b hl (fun e'=>by
  obtain ⟨o,ho,hc⟩ := hr b e'.symm;obtain ⟨_,cs,h5⟩ := h4 u hu b off e;rw [h5] at ho;cases ho;cases hc)
 refine ⟨v,us,h1.kept hg (fun e'=>?_),h2.kept hg (fun q hq e'=>?_),h3.moved hg.size hne,fun u hu=>(h4 u hu).moved (hne u hu)⟩
 · obtain ⟨o,ho,hc⟩ := hr B e'.symm;rw [show w.heap[B]?=_ from h1] at ho; cases ho; cases hc
 · obtain ⟨o,ho,hc⟩ := hr q e';obtain ⟨cs,h5,_⟩ := U.own_type h2 hq;rw [h5] at ho; cases ho; cases hc
theorem KeepX.grow {m B base:Nat} {v:Value} {us:List Rv} {w w':World} (h:OwnV 57 base v us w) (hb:m≤base) (hg:w.grownBy w' v.ownBlock):KeepX m B w w':=by
 refine ⟨⟨hg.size,fun i hi hl=>hg.block i hl (fun e=>by have:=(h.ownBlock i e.symm).1; omega),fun i cs T fr hc _ hT=>hg.block i (gSx.1 hc).1 (fun e=>?_)⟩,fun i o _ ho hc=>(hg.block i (gSx.1 ho).1 (fun e=>?_)).trans ho⟩
 · obtain ⟨cs',h6,_⟩ := U.own_type h e.symm;rw [hc] at h6;injection h6 with h6
   injection h6 with h6 h7
   exact hT h7
 · obtain ⟨cs',h6,_⟩ := U.own_type h e.symm;rw [ho] at h6;cases h6;cases hc
end Go.Proofs.YtagolklnjhpbdaaDoor.K

namespace Go.Proofs.YtagolklnjhpbdaaDoor.K
open Go.RowKit Go.Shelf
attribute [local go_sem] Oper.semAt_some
end Go.Proofs.YtagolklnjhpbdaaDoor.K

namespace Go.Proofs.YtagolklnjhpbdaaDoor.D
variable {α:Type}
def upR (R:List α) (k:Nat) (b:α):List α:=R.drop k++List.replicate (min k R.length) b
def downR (R:List α) (k:Nat) (b:α):List α:=List.replicate (min k R.length) b++R.take (R.length - k)
def inL (l:List α) (top bot:Nat) (f:List α→List α):List α:=l.take top++f ((l.take (bot+1)).drop top)++l.drop (bot+1)
end Go.Proofs.YtagolklnjhpbdaaDoor.D

namespace Go.Proofs.YtagolklnjhpbdaaDoor.K
structure Gd where
 W:Nat
 rs:List Ro
end Go.Proofs.YtagolklnjhpbdaaDoor.K

namespace Go.Proofs.YtagolklnjhpbdaaDoor.J
open Go.RowKit Go.Proofs.YtagolklnjhpbdaaDoor Go.Proofs.YtagolklnjhpbdaaDoor.K
def Fresh (rb:Nat) (a:Option Addr):Prop:=∀ b off,a=some ⟨b,off,none⟩→rb≤b
def RowN (rk:IntKind) (rb:Nat) (a0:Option Addr) (n0:Nat) (u:Value) (r:Ro) (w:World):Prop:=∃ a c,u=.agg #[.slice a r.l.length c,.bool r.wrapped]∧CelsIn rk a r.l.length r.l w∧(a=none→c=0)∧r.l.length≤c∧(c:Int)≤9223372036854775807∧(∀ b off,r.l≠[]→a=some ⟨b,off,none⟩→b<rb∨rb+5≤b)∧((a=a0∧r.l.length=n0)∨Fresh rb a)
theorem RowN.belowAll {rk:IntKind} {rb n0:Nat} {a0:Option Addr} {u:Value} {r:Ro} {w w':World} (h:RowN rk rb a0 n0 u r w) (hb:Below w.heap.size w w'):RowN rk rb a0 n0 u r w':=by
 obtain ⟨a,c,h1,h2,h3⟩ := h;exact ⟨a,c,h1,h2.belowAll hb,h3⟩
theorem RowN.own {rk:IntKind} {T:TypeId} {rb base n0:Nat} {a0:Option Addr} {v:Value} {l:List Cel} {b:Bool} {q:Ro} {w:World} (hb:rb+5≤base) (hl:q.l=l) (hw:q.wrapped=b) (h:OwnC rk T base v l w):RowN rk rb a0 n0 (.agg #[v,.bool b]) q w:=by
 obtain ⟨a,c,rfl,h1,h2,h3,h4,h5⟩ := h.shape;obtain ⟨l',b'⟩ := q;simp only at hl hw;subst hl hw;exact ⟨a,c,rfl,h1,h3,h4,h5,fun g off _ e=>.inr (Nat.le_trans hb (h2 g off e).1),.inr fun g off e=>by have:=(h2 g off e).1; omega⟩
theorem RowN.ret {rk:IntKind} {rb base n0:Nat} {a a0:Option Addr} {c:Nat} {l l0:List Cel} {b:Bool} {q:Ro} {w w0:World} (hb:rb+5≤base) (hl:q.l=l) (hw:q.wrapped=b) (h0:CelsIn rk a0 n0 l0 w0∧w0.heap.size≤rb) (h1:CelsIn rk a l.length l w) (h3:a=none→c=0) (h4:l.length≤c) (h5:(c:Int)≤9223372036854775807) (h6:(a=a0∧l.length=n0)∨∀ b off,a=some ⟨b,off,none⟩→base≤b):RowN rk rb a0 n0 (.agg #[.slice a l.length c,.bool b]) q w:=by
 obtain ⟨l',b'⟩ := q;simp only at hl hw;subst hl hw;refine ⟨a,c,rfl,h1,h3,h4,h5,fun g off hne e=>?_,?_⟩
 · rcases h6 with ⟨h6,h9⟩ | h6
   · left;rcases h0.1.at_ with h | ⟨b1,o1,h7,h8,_⟩
     · have:=h0.1.len;rw [h] at this;exact absurd (List.eq_nil_of_length_eq_zero (by rw [h9,this]; rfl)) hne
     · rw [← h6,e] at h7;cases h7;exact Nat.lt_of_lt_of_le h8 h0.2
   · exact .inr (Nat.le_trans hb (h6 g off e))
 · rcases h6 with h6 | h6
   · exact .inl h6
   · exact .inr fun g off e=>by have:=h6 g off e; omega
theorem RowN.set {rk:IntKind} {rb n0:Nat} {a0:Option Addr} {u:Value} {r:Ro} {w:World} (h:RowN rk rb a0 n0 u r w) {p o:Nat} (x:Value) (h1:rb≤p) (h2:p<rb+5):RowN rk rb a0 n0 u r (w.setCell ⟨p,o,none⟩ x):=by
 obtain ⟨a,c,e,hi,h3,h4,h5,h6,h7⟩ := h;refine ⟨a,c,e,?_,h3,h4,h5,h6,h7⟩;rcases hi.at_ with h0 | ⟨b,off,ha,hb,hc⟩
 · exact ⟨rfl,.inl h0⟩
 · by_cases h0:r.l=[]
   · exact ⟨rfl,.inl h0⟩
   · have hne:b≠p:=by have:=h6 b off h0 ha; omega
     exact ⟨rfl,.inr ⟨b,off,ha,Nat.lt_of_lt_of_le hb (KeepsWalks.setCell w _ x).size,fun i d hd=>(hc i d hd).block (Below.heap_setCell _ _ _ b (fun e=>hne e))⟩⟩
def RowF (rk:IntKind) (rb:Nat) (a0:Option Addr) (n0:Nat) (u:Value) (r:Ro) (w:World):Prop:=∃ p:Rv,u=p.val∧RowV rk p.val r w∧((p.a=a0∧p.n=n0)∨Fresh rb p.a)
theorem RowN.v {rk:IntKind} {rb n0:Nat} {a0:Option Addr} {u:Value} {r:Ro} {w:World} (h:RowN rk rb a0 n0 u r w):RowF rk rb a0 n0 u r w:=by
 obtain ⟨a,c,e,hi,h3,h4,h5,h6,h7⟩ := h;exact ⟨⟨a,r.l.length,c,r.wrapped⟩,e,⟨a,c,rfl,hi,h3,h4,h5⟩,h7⟩
def DoPost (rb:Nat) (a1 a2:Option Addr) (n1 n2:Nat) (q1 q2:Ro) (w:World) (e:Ending) (w':World):Prop:=∃ v1 v2,e=.returned (.tuple #[v1,v2])∧RowF .i32 rb a1 n1 v1 q1 w'∧RowF .i64 rb a2 n2 v2 q2 w'∧Below rb w w'
theorem do_end {rb n1 n2:Nat} {a1 a2:Option Addr} {q1 q2:Ro} {w w5 u:World} {v1 v2:Value} {s0 s1 s2 s3:Value} (hu:Below w5.heap.size w5 u) (hb:Below rb w w5) (hs:rb+5≤w5.heap.size) (h1:RowN .i32 rb a1 n1 v1 q1 u) (h2:RowN .i64 rb a2 n2 v2 q2 u) :
    DoPost rb a1 a2 n1 n2 q1 q2 w (.returned (.tuple #[v1,v2])) ((((u.setCell ⟨rb+3,0,none⟩ s0).setCell ⟨rb+3,1,none⟩ s1).setCell ⟨rb+4,0,none⟩ s2).setCell ⟨rb+4,1,none⟩ s3):=by
 have hbu:Below rb w u:=hb.trans (hu.mono (by omega));refine ⟨v1,v2,rfl,((((h1.set s0 (by omega) (by omega)).set s1 (by omega) (by omega)).set s2 (by omega) (by omega)).set s3 (by omega) (by omega)).v,((((h2.set s0 (by omega) (by omega)).set s1 (by omega) (by omega)).set s2 (by omega) (by omega)).set s3 (by omega) (by omega)).v,?_⟩;exact (((hbu.setCell (p:=⟨rb+3,0,none⟩) (by show rb≤rb+3; omega) _).setCell (p:=⟨rb+3,1,none⟩) (by show rb≤rb+3; omega) _).setCell (p:=⟨rb+4,0,none⟩) (by show rb≤rb+4; omega) _).setCell (p:=⟨rb+4,1,none⟩) (by show rb≤rb+4; omega) _
def Do0 (rb:Nat) (a1 a2:Option Addr) (n1 c1 n2 c2:Nat) (b1 b2:Bool) (K AT N S X:Int) (q1 q2:Ro):Nat→Value→World→Prop
  | 0,u,_=>u=.agg #[.slice a1 n1 c1,.bool b1]
  | 1,u,_=>u=.pointer (some ⟨rb+2,1,none⟩)
  | 2,u,_=>u=.int .i64 AT
  | 3,u,_=>u=.pointer (some ⟨rb+2,4,none⟩)
  | 4,u,_=>u=.int .i32 X
  | 5,u,_=>u=.pointer (some ⟨rb+2,3,none⟩)
  | 6,u,_=>u=.int .i64 S
  | 7,u,w=>RowN .i32 rb a1 n1 u q1 w
  | 8,u,_=>u=.agg #[.slice a2 n2 c2,.bool b2]
  | 9,u,_=>u=.pointer (some ⟨rb+2,1,none⟩)
  | 10,u,_=>u=.int .i64 AT
  | 11,u,_=>u=.pointer (some ⟨rb+2,4,none⟩)
  | 12,u,_=>u=.int .i32 X
  | 13,u,_=>u=.int .i64 X
  | 14,u,_=>u=.pointer (some ⟨rb+2,3,none⟩)
  | 15,u,_=>u=.int .i64 S
  | 16,u,w=>RowN .i64 rb a2 n2 u q2 w
  | _,_,_=>True
def Do1 (rb:Nat) (a1 a2:Option Addr) (n1 c1 n2 c2:Nat) (b1 b2:Bool) (K AT N S X:Int) (q1 q2:Ro):Nat→Value→World→Prop
  | 0,u,_=>u=.agg #[.slice a1 n1 c1,.bool b1]
  | 1,u,_=>u=.pointer (some ⟨rb+2,1,none⟩)
  | 2,u,_=>u=.int .i64 AT
  | 3,u,_=>u=.pointer (some ⟨rb+2,2,none⟩)
  | 4,u,_=>u=.int .i64 N
  | 5,u,_=>u=.pointer (some ⟨rb+2,3,none⟩)
  | 6,u,_=>u=.int .i64 S
  | 7,u,w=>RowN .i32 rb a1 n1 u q1 w
  | 8,u,_=>u=.agg #[.slice a2 n2 c2,.bool b2]
  | 9,u,_=>u=.pointer (some ⟨rb+2,1,none⟩)
  | 10,u,_=>u=.int .i64 AT
  | 11,u,_=>u=.pointer (some ⟨rb+2,2,none⟩)
  | 12,u,_=>u=.int .i64 N
  | 13,u,_=>u=.pointer (some ⟨rb+2,3,none⟩)
  | 14,u,_=>u=.int .i64 S
  | 15,u,w=>RowN .i64 rb a2 n2 u q2 w
  | _,_,_=>True
def Do2 (rb:Nat) (a1 a2:Option Addr) (n1 c1 n2 c2:Nat) (b1 b2:Bool) (K AT N S X:Int) (q1 q2:Ro):Nat→Value→World→Prop
  | 0,u,_=>u=.agg #[.slice a1 n1 c1,.bool b1]
  | 1,u,_=>u=.pointer (some ⟨rb+2,1,none⟩)
  | 2,u,_=>u=.int .i64 AT
  | 3,u,_=>u=.pointer (some ⟨rb+2,2,none⟩)
  | 4,u,_=>u=.int .i64 N
  | 5,u,_=>u=.pointer (some ⟨rb+2,3,none⟩)
  | 6,u,_=>u=.int .i64 S
  | 7,u,w=>RowN .i32 rb a1 n1 u q1 w
  | 8,u,_=>u=.agg #[.slice a2 n2 c2,.bool b2]
  | 9,u,_=>u=.pointer (some ⟨rb+2,1,none⟩)
  | 10,u,_=>u=.int .i64 AT
  | 11,u,_=>u=.pointer (some ⟨rb+2,2,none⟩)
  | 12,u,_=>u=.int .i64 N
  | 13,u,_=>u=.pointer (some ⟨rb+2,3,none⟩)
  | 14,u,_=>u=.int .i64 S
  | 15,u,w=>RowN .i64 rb a2 n2 u q2 w
  | _,_,_=>True
def Do3 (rb:Nat) (a1 a2:Option Addr) (n1 c1 n2 c2:Nat) (b1 b2:Bool) (K AT N S X:Int) (q1 q2:Ro):Nat→Value→World→Prop
  | 0,u,_=>u=.agg #[.slice a1 n1 c1,.bool b1]
  | 1,u,_=>u=.pointer (some ⟨rb+2,1,none⟩)
  | 2,u,_=>u=.int .i64 AT
  | 3,u,_=>u=.pointer (some ⟨rb+2,2,none⟩)
  | 4,u,_=>u=.int .i64 N
  | 5,u,_=>u=.pointer (some ⟨rb+2,3,none⟩)
  | 6,u,_=>u=.int .i64 S
  | 7,u,w=>RowN .i32 rb a1 n1 u q1 w
  | 8,u,_=>u=.agg #[.slice a2 n2 c2,.bool b2]
  | 9,u,_=>u=.pointer (some ⟨rb+2,1,none⟩)
  | 10,u,_=>u=.int .i64 AT
  | 11,u,_=>u=.pointer (some ⟨rb+2,2,none⟩)
  | 12,u,_=>u=.int .i64 N
  | 13,u,_=>u=.pointer (some ⟨rb+2,3,none⟩)
  | 14,u,_=>u=.int .i64 S
  | 15,u,w=>RowN .i64 rb a2 n2 u q2 w
  | _,_,_=>True
def Do4 (rb:Nat) (a1 a2:Option Addr) (n1 c1 n2 c2:Nat) (b1 b2:Bool) (K AT N S X:Int) (q1 q2:Ro):Nat→Value→World→Prop
  | 0,u,_=>u=.agg #[.slice a1 n1 c1,.bool b1]
  | 1,u,_=>u=.pointer (some ⟨rb+2,3,none⟩)
  | 2,u,_=>u=.int .i64 S
  | 3,u,w=>RowN .i32 rb a1 n1 u q1 w
  | 4,u,_=>u=.agg #[.slice a2 n2 c2,.bool b2]
  | 5,u,_=>u=.pointer (some ⟨rb+2,3,none⟩)
  | 6,u,_=>u=.int .i64 S
  | 7,u,w=>RowN .i64 rb a2 n2 u q2 w
  | _,_,_=>True
def Do5 (rb:Nat) (a1 a2:Option Addr) (n1 c1 n2 c2:Nat) (b1 b2:Bool) (K AT N S X WN:Int) (q1 q2:Ro):Nat→Value→World→Prop
  | 0,u,_=>u=.agg #[.slice a1 n1 c1,.bool b1]
  | 1,u,_=>u=.int .i64 WN
  | 2,u,w=>RowN .i32 rb a1 n1 u q1 w
  | 3,u,_=>u=.agg #[.slice a2 n2 c2,.bool b2]
  | 4,u,_=>u=.int .i64 WN
  | 5,u,w=>RowN .i64 rb a2 n2 u q2 w
  | _,_,_=>True
end Go.Proofs.YtagolklnjhpbdaaDoor.J

namespace Go.Proofs.YtagolklnjhpbdaaDoor.K
open Go.RowKit
structure KeepB (L:List Nat) (w w':World):Prop where
 os:w'.os=w.os
 tape:w'.tape=w.tape
 output:w'.output=w.output
 size:w.heap.size≤w'.heap.size
 block:∀ i,i<w.heap.size→i ∉ L→w'.heap[i]?=w.heap[i]?
theorem KeepB.refl (L:List Nat) (w:World):KeepB L w w:=⟨rfl,rfl,rfl,Nat.le_refl _,fun _ _ _=>rfl⟩
theorem KeepB.trans {L:List Nat} {a b c:World} (h:KeepB L a b) (k:KeepB L b c):KeepB L a c :=
 ⟨k.os.trans h.os,k.tape.trans h.tape,k.output.trans h.output,Nat.le_trans h.size k.size,fun i hi hl=>(k.block i (Nat.lt_of_lt_of_le hi h.size) hl).trans (h.block i hi hl)⟩
theorem KeepB.of_below {L:List Nat} {w w':World} (h:Below w.heap.size w w'):KeepB L w w':=⟨h.os,h.tape,h.output,h.size,fun i hi _=>h.block i hi⟩
theorem KeepB.mono {L L':List Nat} {w w':World} (h:KeepB L w w') (hl:∀ i ∈ L,i ∈ L'):KeepB L' w w':=⟨h.os,h.tape,h.output,h.size,fun i hi hn=>h.block i hi (fun e=>hn (hl i e))⟩
theorem KeepB.strike {L:List Nat} {q:Nat} {w w':World} (h:KeepB (q::L) w w') (hq:w.heap.size≤q):KeepB L w w':=⟨h.os,h.tape,h.output,h.size,fun i hi hn=>h.block i hi (fun e=>by
 rcases List.mem_cons.1 e with rfl | e
 · omega
 · exact hn e)⟩
theorem KeepB.below {L:List Nat} {base:Nat} {w0 w w':World} (h:KeepB L w w') (hL:∀ i ∈ L,base≤i) (hb:Below base w0 w) (hs:base≤w.heap.size):Below base w0 w' :=
 hb.trans ⟨h.os,h.tape,h.output,h.size,fun i hi=>h.block i (by omega) (fun e=>by have:=hL i e; omega)⟩
theorem KeepB.setCell {w:World} {q o:Nat} (v:Value):KeepB [q] w (w.setCell ⟨q,o,none⟩ v):=⟨rfl,rfl,rfl,(KeepsWalks.setCell w _ v).size,fun i _ hn=>Below.heap_setCell _ _ _ i (fun e=>hn (by rw [show i=q from e]; simp))⟩
theorem KeepB.block1 {L:List Nat} {w w':World} (h:KeepB L w w') {i:Nat} {o:Obj} (ho:w.heap[i]?=some o) (hn:i ∉ L):w'.heap[i]?=some o:=(h.block i (gSx.1 ho).1 hn).trans ho
theorem TyC.ne {base:Nat} {u:Rv} {w:World} (h:TyC base u w) {p:Nat} {cs:Array Value} {T:TypeId} (hp:w.heap[p]?=some (.cells cs T (0,0))) (hT:T≠118):∀ b off,u.a=some ⟨b,off,none⟩→b≠p:=fun b off e e'=>by
 obtain ⟨_,cs',h5⟩ := h b off e;rw [e',hp] at h5;injection h5 with h5
 injection h5 with h5 h6
 exact hT h6
def Off (L:List Nat) (u:Rv):Prop:=u.n≠0→∀ b off,u.a=some ⟨b,off,none⟩→b ∉ L
theorem Off.fresh {L:List Nat} {u:Rv} {m:Nat} (h:∀ b off,u.a=some ⟨b,off,none⟩→m≤b) (hL:∀ p ∈ L,p<m):Off L u:=fun _ b off e hb=>by have:=h b off e; have:=hL b hb; omega
theorem RowV.lt {rk:IntKind} {u:Rv} {r:Ro} {w:World} (h:RowV rk u.val r w) (hn:u.n≠0):∀ b off,u.a=some ⟨b,off,none⟩→b<w.heap.size:=fun b off e=>by
 obtain ⟨a,c,e1,hi,_⟩ := h;have:=Rv.val_inj (v:=⟨a,r.l.length,c,r.wrapped⟩) e1;subst this;rcases hi.at_ with h0 | ⟨b',off',ha,hl,_⟩
 · exact absurd (by show r.l.length=0; rw [h0]; rfl) hn
 · rw [show a=some ⟨b,off,none⟩ from e] at ha;cases ha;exact hl
theorem Off.cons {L:List Nat} {rk:IntKind} {u:Rv} {r:Ro} {q:Nat} {w:World} (h:Off L u) (hv:RowV rk u.val r w) (hq:w.heap.size≤q):Off (q::L) u:=fun hn b off e hb=>by
 rcases List.mem_cons.1 hb with rfl | hb
 · have:=hv.lt hn b off e; omega
 · exact h hn b off e hb
theorem RowV.keptB {rk:IntKind} {u:Rv} {r:Ro} {L:List Nat} {w w':World} (h:RowV rk u.val r w) (ho:Off L u) (hk:KeepB L w w'):RowV rk u.val r w':=by
 by_cases hn:u.n=0
 · obtain ⟨a,c,e1,hi,h3⟩ := h;have:=Rv.val_inj (v:=⟨a,r.l.length,c,r.wrapped⟩) e1;subst this;have h0:r.l=[]:=List.eq_nil_of_length_eq_zero hn;exact ⟨a,c,rfl,⟨rfl,.inl h0⟩,h3⟩
 · exact h.moved hk.size (fun b off e hl=>hk.block b hl (ho hn b off e))
structure RowsL (rk:IntKind) (L:List Nat) (a:Option Addr) (n c:Nat) (rs:List Ro) (w:World):Prop where
 ex:∃ vs,RvsIn a n c vs w∧RowsV rk vs rs w∧∀ u ∈ vs,Off L u
 nil:a=none→c=0
 off:n≠0→∀ b off,a=some ⟨b,off,none⟩→b ∉ L
theorem RowsL.len {rk:IntKind} {L:List Nat} {a:Option Addr} {n c:Nat} {rs:List Ro} {w:World} (h:RowsL rk L a n c rs w):n=rs.length:=by
 obtain ⟨vs,h1,h2,_⟩ := h.ex;rw [h1.len,h2.1]
theorem RowsL.lt {rk:IntKind} {L:List Nat} {a:Option Addr} {n c:Nat} {rs:List Ro} {w:World} (h:RowsL rk L a n c rs w) (hn:n≠0):∀ b off,a=some ⟨b,off,none⟩→b<w.heap.size:=fun b off e=>by
 obtain ⟨vs,h1,_⟩ := h.ex;rcases h1.at_ with h0 | ⟨b',off',ha,hl,_⟩
 · exact absurd (by rw [h1.len,h0]; rfl) hn
 · rw [e] at ha; cases ha; exact hl
theorem RowsL.keptB {rk:IntKind} {L:List Nat} {a:Option Addr} {n c:Nat} {rs:List Ro} {w w':World} (h:RowsL rk L a n c rs w) (hk:KeepB L w w'):RowsL rk L a n c rs w':=by
 obtain ⟨vs,h1,h2,h3⟩ := h.ex;refine ⟨⟨vs,?_,⟨h2.1,fun i u r hu hr=>(h2.2 i u r hu hr).keptB (h3 u (List.mem_of_getElem? hu)) hk⟩,h3⟩,h.nil,h.off⟩;by_cases hn:n=0
 · exact ⟨h1.len,h1.fit,h1.top,.inl (List.eq_nil_of_length_eq_zero (by rw [← h1.len]; exact hn))⟩
 · exact h1.blocks hk.size (fun b off e hl=>hk.block b hl (h.off hn b off e))
theorem RowsL.below {rk:IntKind} {L:List Nat} {a:Option Addr} {n c:Nat} {rs:List Ro} {w w':World} (h:RowsL rk L a n c rs w) (hb:Below w.heap.size w w'):RowsL rk L a n c rs w':=h.keptB (KeepB.of_below hb)
theorem RowsL.cons {rk:IntKind} {L:List Nat} {a:Option Addr} {n c:Nat} {rs:List Ro} {w:World} (h:RowsL rk L a n c rs w) {q:Nat} (hq:w.heap.size≤q):RowsL rk (q::L) a n c rs w:=by
 obtain ⟨vs,h1,h2,h3⟩ := h.ex;refine ⟨⟨vs,h1,h2,fun u hu=>?_⟩,h.nil,fun hn b off e hb=>?_⟩
 · obtain ⟨i,hi,rfl⟩ := List.mem_iff_getElem.1 hu;have hi':i<rs.length:=by rw [← h2.1]; exact hi
   exact (h3 _ hu).cons (h2.2 i _ _ (List.getElem?_eq_getElem hi) (List.getElem?_eq_getElem hi')) hq
 · rcases List.mem_cons.1 hb with rfl | hb
   · have:=h.lt hn b off e; omega
   · exact h.off hn b off e hb
def refV (W:Nat) (a:Option Addr) (n c:Nat):Value:=.agg #[.int .i64 (W:Int),.slice a n c]
def RefG (L:List Nat) (v:Value) (x:Gd) (w:World):Prop:=∃ a n c,v=refV x.W a n c∧RowsL .i64 L a n c x.rs w
theorem RefG.keptB {L:List Nat} {v:Value} {x:Gd} {w w':World} (h:RefG L v x w) (hk:KeepB L w w'):RefG L v x w':=by
 obtain ⟨a,n,c,e,h⟩ := h;exact ⟨a,n,c,e,h.keptB hk⟩
theorem RefG.below {L:List Nat} {v:Value} {x:Gd} {w w':World} (h:RefG L v x w) (hb:Below w.heap.size w w'):RefG L v x w':=h.keptB (KeepB.of_below hb)
theorem RefG.cons {L:List Nat} {v:Value} {x:Gd} {w:World} (h:RefG L v x w) {q:Nat} (hq:w.heap.size≤q):RefG (q::L) v x w:=by
 obtain ⟨a,n,c,e,h⟩ := h;exact ⟨a,n,c,e,h.cons hq⟩
theorem OwnV.rowsL {rk:IntKind} {T:TypeId} {L:List Nat} {base:Nat} {a:Option Addr} {n c:Nat} {vs:List Rv} {rs:List Ro} {w:World} (h:OwnV T base (.slice a n c) vs w) (hr:RowsV rk vs rs w) (ho:∀ u ∈ vs,Off L u) (hL:∀ p ∈ L,p<base):RowsL rk L a n c rs w:=by
 obtain ⟨a',c',e,h1,h2,h3⟩ := h.shape;cases e;exact ⟨⟨vs,h1,hr,ho⟩,h3,fun _ b off e hb=>by have:=(h2 b off e).1; have:=hL b hb; omega⟩
end Go.Proofs.YtagolklnjhpbdaaDoor.K

namespace Go.Proofs.YtagolklnjhpbdaaDoor.K
open Go.RowKit Go.ChangeShapes Go.WideShapes
theorem cRow:Tryd.prog.cellsOf 57=2:=by kernel_rfl
theorem cSl:Tryd.prog.cellsOf 55=1:=by kernel_rfl
theorem cBo:Tryd.prog.cellsOf 4=1:=by kernel_rfl
set_option maxRecDepth 100000 in
theorem trod_cells {H:Type} {enc:TypeId × Value→H} {W:World} {m:Nat} {v:Value} {x:DataW H × List MemPlace} (h:DataW.trod enc Tryd.prog W 0 (fun _=>true) true m 55 [v]=some x) :
    ∃ (a:Option Addr) (len cap:Nat) (l:List Cel),v=.slice a len cap∧CelsIn .i32 a len l W∧(a=none→cap=0)∧len≤cap∧(cap:Int)≤9223372036854775807∧AllC Rng l:=by
 rcases Deep.open_slice Tryd.underlying55 h with ⟨hc,_⟩ | ⟨a',len,cap,m',n',D,Pl,hc,_,hl,hcm,hmm,_,hx⟩
 · simp at hc;subst hc;exact ⟨none,0,0,[],rfl,⟨rfl,.inl rfl⟩,fun _=>rfl,Nat.le_refl _,by omega,(fun _ h=>by cases h)⟩
 · simp at hc;subst hc;simp only [if_true] at hmm;subst hmm;have hcap:(m':Int)≤9223372036854775807:=by unfold maxLen at hcm; omega
   have each:∀ i,i<len→∃ A:Cel,Rng A∧∀ j u,[Value.int .i32 A.rune,.int .i64 A.style,.int .i64 A.part][j]?=some u→W.cell? (a'.add (i*3+j))=some u:=by
    intro i hi;obtain ⟨cs',h1,h2⟩ := hx i (by omega);rw [cCell] at h1;obtain ⟨_,hlen,hcell⟩ := World.cells?_some h1;obtain ⟨A,he,hA⟩ := trod_cel h2 hlen;refine ⟨A,hA,fun j u hj=>?_⟩;have hj5:j<3:=by have:=(List.getElem?_eq_some_iff.1 hj).1; simpa using this
    have f:=hcell j (by omega);rw [Deep.add_add] at f;rw [← he] at hj;rw [f,hj]
   by_cases hl0:len=0
   · subst hl0;exact ⟨some a',0,m',[],rfl,⟨rfl,.inl rfl⟩,(fun e=>by cases e),by omega,hcap,(fun _ h=>by cases h)⟩
   · obtain ⟨q,hq⟩ := Deep.choose_lt each;obtain ⟨b,off,spot⟩ := a';have hc0:=(hq 0 (by omega)).2 0 _ rfl;have hspot:spot=none:=by simpa [Addr.add] using World.cell?_spot hc0
     subst hspot;rw [addN] at hc0;have hblt:=World.block_lt_of_cell? W _ hc0;refine ⟨some ⟨b,off,none⟩,len,m',(List.range len).map q,rfl,⟨by simp,.inr ⟨b,off,rfl,hblt,fun i A hA=>?_⟩⟩,(fun e=>by cases e),hl,hcap,fun A hA=>?_⟩
     · have hi:i<len:=by have:=(List.getElem?_eq_some_iff.1 hA).1; simpa using this
       have e:q i=A:=by simpa [hi] using hA
       have f:=(hq i hi).2;rw [e] at f;have fj:=fun j u h=>by have:=f j u h; rw [addN,← Nat.add_assoc] at this; exact this
       exact ⟨fj 0 _ rfl,fj 1 _ rfl,fj 2 _ rfl⟩
     · obtain ⟨i,hi,rfl⟩ := List.mem_map.1 hA;exact (hq i (List.mem_range.1 hi)).1
set_option maxRecDepth 100000 in
theorem trod_row {H:Type} {enc:TypeId × Value→H} {W:World} {m:Nat} {cs:List Value} {x:DataW H × List MemPlace} (h:DataW.trod enc Tryd.prog W 0 (fun _=>true) true m 57 cs=some x) (hl:cs.length=2) :
    ∃ (u:Rv) (r:Ro),cs=[.slice u.a u.n u.c,.bool u.b]∧RowV .i32 u.val r W∧AllC Rng r.l:=by
 match cs,hl with
 | [v0,v1],_ =>
  obtain ⟨xs,n,hn,hxy,_,hxl,hf⟩ := DataW.trod_struct Tryd.underlying57 h
  match xs,hxl with
  | [y0,y1],_ =>
   have g0:=hf 0 _ rfl;have g1:=hf 1 _ rfl;simp [cSl,cBo] at g0 g1;obtain ⟨a,len,cap,l,rfl,h1,h2,h3,h4,h5⟩ := trod_cells g0;obtain ⟨b,e1,_⟩ := DataW.trod_bool Tryd.underlying4 g1;simp at e1;subst e1;have hlen:len=l.length:=h1.len;subst hlen;exact ⟨⟨a,l.length,cap,b⟩,⟨l,b⟩,rfl,⟨a,cap,rfl,h1,h2,h3,h4⟩,h5⟩
end Go.Proofs.YtagolklnjhpbdaaDoor.K
