import Derived.Test.YtagolklnjhpbdaaDoorMerged0
import Derived.Test.YtagolklnjhpbdaaDoorMerged7
import Derived.Deep.DeepCutAuto
import Derived.Test.YtagolklnjhpbdaaDoorRows
import Derived.Lib.LaidTab
import Derived.LaidLaws
import Derived.ChangeArms
import Derived.Deep.Slices
import Derived.ProofKit
namespace Go.Proofs.YtagolklnjhpbdaaDoor.W
open Go.RowKit
def Sp (w:World) (b:Nat) (t:List (Int × Int)):Prop:=∀ j,j<t.length→w.cell? ⟨b,j*2,none⟩=some (.int .i64 (t.getD j (0,0)).1)∧w.cell? ⟨b,j*2+1,none⟩=some (.int .i64 (t.getD j (0,0)).2)
theorem Sp.below {w w':World} {b B:Nat} {t:List (Int × Int)} (h:Sp w b t) (hb:Below B w w') (hlt:b<B):Sp w' b t:=fun j hj =>
 ⟨(hb.cell (p:=⟨b,j*2,none⟩) hlt).trans (h j hj).1,(hb.cell (p:=⟨b,j*2+1,none⟩) hlt).trans (h j hj).2⟩
end Go.Proofs.YtagolklnjhpbdaaDoor.W

namespace Go.Proofs.YtagolklnjhpbdaaDoor.K
open Go.RowKit
end Go.Proofs.YtagolklnjhpbdaaDoor.K

namespace Go.Proofs.YtagolklnjhpbdaaDoor.K
open Go.RowKit
end Go.Proofs.YtagolklnjhpbdaaDoor.K

namespace Go.Proofs.YtagolklnjhpbdaaDoor.K
open Go.RowKit
theorem OwnC.setCell {rk:IntKind} {T:TypeId} {base:Nat} {v:Value} {l:List Cel} {w:World} (h:OwnC rk T base v l w) {p:Nat} (hp:∀ q,v.ownBlock=some q→q≠p) (o:Nat) (x:Value):OwnC rk T base v l (w.setCell ⟨p,o,none⟩ x) :=
 h.kept (row:=some p) ⟨rfl,rfl,rfl,(KeepsWalks.setCell w _ x).size,fun i _ hi=>Below.heap_setCell _ _ _ i (fun e=>hi (by rw [e]))⟩ (fun q hq e=>hp q hq (Option.some.inj e).symm)
def RowRet (rk:IntKind) (base:Nat) (a0:Option Addr) (n0:Nat) (l:List Cel) (b:Bool) (w:World) (e:Ending) (w':World):Prop:=∃ a c,e=.returned (.agg #[.slice a l.length c,.bool b])∧CelsIn rk a l.length l w'∧(a=none→c=0)∧l.length≤c∧(c:Int)≤9223372036854775807∧Below base w w'∧((a=a0∧l.length=n0)∨∀ b off,a=some ⟨b,off,none⟩→base≤b)
theorem RowPost.ret {rk:IntKind} {T:TypeId} {base:Nat} {l:List Cel} {b:Bool} {w:World} {e:Ending} {w':World} (h:RowPost rk T base l b w e w') (a0:Option Addr) (n0:Nat):RowRet rk base a0 n0 l b w e w':=by
 obtain ⟨v,he,hO,hb⟩ := h;obtain ⟨a,c,rfl,h1,h2,h3,h4,h5⟩ := hO.shape;exact ⟨a,c,he,h1,h3,h4,h5,hb,.inr (fun b off e=>(h2 b off e).1)⟩
end Go.Proofs.YtagolklnjhpbdaaDoor.K

namespace Go.Proofs.YtagolklnjhpbdaaDoor.K
open Go.RowKit
def RowV (rk:IntKind) (u:Value) (r:Ro) (w:World):Prop:=∃ a c,u=.agg #[.slice a r.l.length c,.bool r.wrapped]∧CelsIn rk a r.l.length r.l w∧(a=none→c=0)∧r.l.length≤c∧(c:Int)≤9223372036854775807
theorem RowV.belowAll {rk:IntKind} {u:Value} {r:Ro} {w w':World} (h:RowV rk u r w) (hb:Below w.heap.size w w'):RowV rk u r w':=by
 obtain ⟨a,c,h1,h2,h3⟩ := h;exact ⟨a,c,h1,h2.belowAll hb,h3⟩
theorem RowPost.rowV {rk:IntKind} {T:TypeId} {base:Nat} {l:List Cel} {b:Bool} {w:World} {e:Ending} {w':World} (h:RowPost rk T base l b w e w'):∃ v,e=.returned v∧RowV rk v ⟨l,b⟩ w'∧Below base w w':=by
 obtain ⟨v,he,hO,hb⟩ := h;obtain ⟨a,c,rfl,h1,h2,h3,h4,h5⟩ := hO.shape;exact ⟨_,he,⟨a,c,rfl,h1,h3,h4,h5⟩,hb⟩
def RowN (rk:IntKind) (rb:Nat) (u:Value) (r:Ro) (w:World):Prop:=∃ a c,u=.agg #[.slice a r.l.length c,.bool r.wrapped]∧CelsIn rk a r.l.length r.l w∧(a=none→c=0)∧r.l.length≤c∧(c:Int)≤9223372036854775807∧(∀ b off,r.l≠[]→a=some ⟨b,off,none⟩→b<rb∨rb+5≤b)
theorem RowN.belowAll {rk:IntKind} {rb:Nat} {u:Value} {r:Ro} {w w':World} (h:RowN rk rb u r w) (hb:Below w.heap.size w w'):RowN rk rb u r w':=by
 obtain ⟨a,c,h1,h2,h3⟩ := h;exact ⟨a,c,h1,h2.belowAll hb,h3⟩
theorem RowN.own {rk:IntKind} {T:TypeId} {rb base:Nat} {v:Value} {l:List Cel} {b:Bool} {q:Ro} {w:World} (hb:rb+5≤base) (hl:q.l=l) (hw:q.wrapped=b) (h:OwnC rk T base v l w):RowN rk rb (.agg #[v,.bool b]) q w:=by
 obtain ⟨a,c,rfl,h1,h2,h3,h4,h5⟩ := h.shape;obtain ⟨l',b'⟩ := q;simp only at hl hw;subst hl hw;exact ⟨a,c,rfl,h1,h3,h4,h5,fun g off _ e=>.inr (Nat.le_trans hb (h2 g off e).1)⟩
theorem RowN.ret {rk:IntKind} {rb base n0:Nat} {a a0:Option Addr} {c:Nat} {l l0:List Cel} {b:Bool} {q:Ro} {w w0:World} (hb:rb+5≤base) (hl:q.l=l) (hw:q.wrapped=b) (h0:CelsIn rk a0 n0 l0 w0∧w0.heap.size≤rb) (h1:CelsIn rk a l.length l w) (h3:a=none→c=0) (h4:l.length≤c) (h5:(c:Int)≤9223372036854775807) (h6:(a=a0∧l.length=n0)∨∀ b off,a=some ⟨b,off,none⟩→base≤b):RowN rk rb (.agg #[.slice a l.length c,.bool b]) q w:=by
 obtain ⟨l',b'⟩ := q;simp only at hl hw;subst hl hw;refine ⟨a,c,rfl,h1,h3,h4,h5,fun g off hne e=>?_⟩;rcases h6 with ⟨h6,h9⟩ | h6
 · left;rcases h0.1.at_ with h | ⟨b1,o1,h7,h8,_⟩
   · have:=h0.1.len;rw [h] at this;exact absurd (List.eq_nil_of_length_eq_zero (by rw [h9,this]; rfl)) hne
   · rw [← h6,e] at h7;cases h7;exact Nat.lt_of_lt_of_le h8 h0.2
 · exact .inr (Nat.le_trans hb (h6 g off e))
theorem RowN.set {rk:IntKind} {rb:Nat} {u:Value} {r:Ro} {w:World} (h:RowN rk rb u r w) {p o:Nat} (x:Value) (h1:rb≤p) (h2:p<rb+5):RowN rk rb u r (w.setCell ⟨p,o,none⟩ x):=by
 obtain ⟨a,c,e,hi,h3,h4,h5,h6⟩ := h;refine ⟨a,c,e,?_,h3,h4,h5,h6⟩;rcases hi.at_ with h0 | ⟨b,off,ha,hb,hc⟩
 · exact ⟨rfl,.inl h0⟩
 · by_cases h0:r.l=[]
   · exact ⟨rfl,.inl h0⟩
   · have hne:b≠p:=by have:=h6 b off h0 ha; omega
     exact ⟨rfl,.inr ⟨b,off,ha,Nat.lt_of_lt_of_le hb (KeepsWalks.setCell w _ x).size,fun i d hd=>(hc i d hd).block (Below.heap_setCell _ _ _ b (fun e=>hne e))⟩⟩
theorem RowN.v {rk:IntKind} {rb:Nat} {u:Value} {r:Ro} {w:World} (h:RowN rk rb u r w):RowV rk u r w:=by
 obtain ⟨a,c,e,hi,h3,h4,h5,h6⟩ := h;exact ⟨a,c,e,hi,h3,h4,h5⟩
def DoPost (rb:Nat) (q1 q2:Ro) (w:World) (e:Ending) (w':World):Prop:=∃ v1 v2,e=.returned (.tuple #[v1,v2])∧RowV .i32 v1 q1 w'∧RowV .i64 v2 q2 w'∧Below rb w w'
theorem do_end {rb:Nat} {q1 q2:Ro} {w w5 u:World} {v1 v2:Value} {s0 s1 s2 s3:Value} (hu:Below w5.heap.size w5 u) (hb:Below rb w w5) (hs:rb+5≤w5.heap.size) (h1:RowN .i32 rb v1 q1 u) (h2:RowN .i64 rb v2 q2 u) :
    DoPost rb q1 q2 w (.returned (.tuple #[v1,v2])) ((((u.setCell ⟨rb+3,0,none⟩ s0).setCell ⟨rb+3,1,none⟩ s1).setCell ⟨rb+4,0,none⟩ s2).setCell ⟨rb+4,1,none⟩ s3):=by
 have hbu:Below rb w u:=hb.trans (hu.mono (by omega));refine ⟨v1,v2,rfl,((((h1.set s0 (by omega) (by omega)).set s1 (by omega) (by omega)).set s2 (by omega) (by omega)).set s3 (by omega) (by omega)).v,((((h2.set s0 (by omega) (by omega)).set s1 (by omega) (by omega)).set s2 (by omega) (by omega)).set s3 (by omega) (by omega)).v,?_⟩;exact (((hbu.setCell (p:=⟨rb+3,0,none⟩) (by show rb≤rb+3; omega) _).setCell (p:=⟨rb+3,1,none⟩) (by show rb≤rb+3; omega) _).setCell (p:=⟨rb+4,0,none⟩) (by show rb≤rb+4; omega) _).setCell (p:=⟨rb+4,1,none⟩) (by show rb≤rb+4; omega) _
def Do0 (rb:Nat) (a1 a2:Option Addr) (n1 c1 n2 c2:Nat) (b1 b2:Bool) (K AT N S X:Int) (q1 q2:Ro):Nat→Value→World→Prop
  | 0,u,_=>u=.agg #[.slice a1 n1 c1,.bool b1]
  | 1,u,_=>u=.pointer (some ⟨rb+2,1,none⟩)
  | 2,u,_=>u=.int .i64 AT
  | 3,u,_=>u=.pointer (some ⟨rb+2,4,none⟩)
  | 4,u,_=>u=.int .i32 X
  | 5,u,_=>u=.pointer (some ⟨rb+2,3,none⟩)
  | 6,u,_=>u=.int .i64 S
  | 7,u,w=>RowN .i32 rb u q1 w
  | 8,u,_=>u=.agg #[.slice a2 n2 c2,.bool b2]
  | 9,u,_=>u=.pointer (some ⟨rb+2,1,none⟩)
  | 10,u,_=>u=.int .i64 AT
  | 11,u,_=>u=.pointer (some ⟨rb+2,4,none⟩)
  | 12,u,_=>u=.int .i32 X
  | 13,u,_=>u=.int .i64 X
  | 14,u,_=>u=.pointer (some ⟨rb+2,3,none⟩)
  | 15,u,_=>u=.int .i64 S
  | 16,u,w=>RowN .i64 rb u q2 w
  | _,_,_=>True
def Do1 (rb:Nat) (a1 a2:Option Addr) (n1 c1 n2 c2:Nat) (b1 b2:Bool) (K AT N S X:Int) (q1 q2:Ro):Nat→Value→World→Prop
  | 0,u,_=>u=.agg #[.slice a1 n1 c1,.bool b1]
  | 1,u,_=>u=.pointer (some ⟨rb+2,1,none⟩)
  | 2,u,_=>u=.int .i64 AT
  | 3,u,_=>u=.pointer (some ⟨rb+2,2,none⟩)
  | 4,u,_=>u=.int .i64 N
  | 5,u,_=>u=.pointer (some ⟨rb+2,3,none⟩)
  | 6,u,_=>u=.int .i64 S
  | 7,u,w=>RowN .i32 rb u q1 w
  | 8,u,_=>u=.agg #[.slice a2 n2 c2,.bool b2]
  | 9,u,_=>u=.pointer (some ⟨rb+2,1,none⟩)
  | 10,u,_=>u=.int .i64 AT
  | 11,u,_=>u=.pointer (some ⟨rb+2,2,none⟩)
  | 12,u,_=>u=.int .i64 N
  | 13,u,_=>u=.pointer (some ⟨rb+2,3,none⟩)
  | 14,u,_=>u=.int .i64 S
  | 15,u,w=>RowN .i64 rb u q2 w
  | _,_,_=>True
def Do2 (rb:Nat) (a1 a2:Option Addr) (n1 c1 n2 c2:Nat) (b1 b2:Bool) (K AT N S X:Int) (q1 q2:Ro):Nat→Value→World→Prop
  | 0,u,_=>u=.agg #[.slice a1 n1 c1,.bool b1]
  | 1,u,_=>u=.pointer (some ⟨rb+2,1,none⟩)
  | 2,u,_=>u=.int .i64 AT
  | 3,u,_=>u=.pointer (some ⟨rb+2,2,none⟩)
  | 4,u,_=>u=.int .i64 N
  | 5,u,_=>u=.pointer (some ⟨rb+2,3,none⟩)
  | 6,u,_=>u=.int .i64 S
  | 7,u,w=>RowN .i32 rb u q1 w
  | 8,u,_=>u=.agg #[.slice a2 n2 c2,.bool b2]
  | 9,u,_=>u=.pointer (some ⟨rb+2,1,none⟩)
  | 10,u,_=>u=.int .i64 AT
  | 11,u,_=>u=.pointer (some ⟨rb+2,2,none⟩)
  | 12,u,_=>u=.int .i64 N
  | 13,u,_=>u=.pointer (some ⟨rb+2,3,none⟩)
  | 14,u,_=>u=.int .i64 S
  | 15,u,w=>RowN .i64 rb u q2 w
  | _,_,_=>True
def Do3 (rb:Nat) (a1 a2:Option Addr) (n1 c1 n2 c2:Nat) (b1 b2:Bool) (K AT N S X:Int) (q1 q2:Ro):Nat→Value→World→Prop
  | 0,u,_=>u=.agg #[.slice a1 n1 c1,.bool b1]
  | 1,u,_=>u=.pointer (some ⟨rb+2,1,none⟩)
  | 2,u,_=>u=.int .i64 AT
  | 3,u,_=>u=.pointer (some ⟨rb+2,2,none⟩)
  | 4,u,_=>u=.int .i64 N
  | 5,u,_=>u=.pointer (some ⟨rb+2,3,none⟩)
  | 6,u,_=>u=.int .i64 S
  | 7,u,w=>RowN .i32 rb u q1 w
  | 8,u,_=>u=.agg #[.slice a2 n2 c2,.bool b2]
  | 9,u,_=>u=.pointer (some ⟨rb+2,1,none⟩)
  | 10,u,_=>u=.int .i64 AT
  | 11,u,_=>u=.pointer (some ⟨rb+2,2,none⟩)
  | 12,u,_=>u=.int .i64 N
  | 13,u,_=>u=.pointer (some ⟨rb+2,3,none⟩)
  | 14,u,_=>u=.int .i64 S
  | 15,u,w=>RowN .i64 rb u q2 w
  | _,_,_=>True
def Do4 (rb:Nat) (a1 a2:Option Addr) (n1 c1 n2 c2:Nat) (b1 b2:Bool) (K AT N S X:Int) (q1 q2:Ro):Nat→Value→World→Prop
  | 0,u,_=>u=.agg #[.slice a1 n1 c1,.bool b1]
  | 1,u,_=>u=.pointer (some ⟨rb+2,3,none⟩)
  | 2,u,_=>u=.int .i64 S
  | 3,u,w=>RowN .i32 rb u q1 w
  | 4,u,_=>u=.agg #[.slice a2 n2 c2,.bool b2]
  | 5,u,_=>u=.pointer (some ⟨rb+2,3,none⟩)
  | 6,u,_=>u=.int .i64 S
  | 7,u,w=>RowN .i64 rb u q2 w
  | _,_,_=>True
def Do5 (rb:Nat) (a1 a2:Option Addr) (n1 c1 n2 c2:Nat) (b1 b2:Bool) (K AT N S X WN:Int) (q1 q2:Ro):Nat→Value→World→Prop
  | 0,u,_=>u=.agg #[.slice a1 n1 c1,.bool b1]
  | 1,u,_=>u=.int .i64 WN
  | 2,u,w=>RowN .i32 rb u q1 w
  | 3,u,_=>u=.agg #[.slice a2 n2 c2,.bool b2]
  | 4,u,_=>u=.int .i64 WN
  | 5,u,w=>RowN .i64 rb u q2 w
  | _,_,_=>True
end Go.Proofs.YtagolklnjhpbdaaDoor.K

namespace Go.Proofs.YtagolklnjhpbdaaDoor.L
end Go.Proofs.YtagolklnjhpbdaaDoor.L

namespace Go.Proofs.YtagolklnjhpbdaaDoor.K
open Go.RowKit Go.ChangeShapes Go.WideShapes
instance:Inhabited ActR:=⟨⟨0,0,0,0,0⟩⟩
instance:Inhabited Cel:=⟨⟨0,0,0⟩⟩
theorem cI:Tryd.prog.cellsOf 3=1:=by kernel_rfl
theorem cR:Tryd.prog.cellsOf 21=1:=by kernel_rfl
theorem cCell:Tryd.prog.cellsOf 118=3:=by kernel_rfl
def RngA (A:ActR):Prop:=-2147483648≤A.rune∧A.rune≤2147483647
structure ActAt (w:World) (b o:Nat) (A:ActR):Prop where
 c0:w.cell? ⟨b,o,none⟩=some (.int .i64 A.kind)
 c1:w.cell? ⟨b,o+1,none⟩=some (.int .i64 A.at_)
 c2:w.cell? ⟨b,o+2,none⟩=some (.int .i64 A.n)
 c3:w.cell? ⟨b,o+3,none⟩=some (.int .i64 A.style)
 c4:w.cell? ⟨b,o+4,none⟩=some (.int .i32 A.rune)
theorem ActAt.block {w w':World} {b o:Nat} {A:ActR} (h:ActAt w b o A) (hb:w'.heap[b]?=w.heap[b]?):ActAt w' b o A :=
 ⟨(World.cell?_of_block (a:=⟨b,o,none⟩) hb).trans h.c0,(World.cell?_of_block (a:=⟨b,o+1,none⟩) hb).trans h.c1,(World.cell?_of_block (a:=⟨b,o+2,none⟩) hb).trans h.c2,(World.cell?_of_block (a:=⟨b,o+3,none⟩) hb).trans h.c3,(World.cell?_of_block (a:=⟨b,o+4,none⟩) hb).trans h.c4⟩
structure ActsIn (a:Option Addr) (n cap:Nat) (l:List ActR) (w:World):Prop where
 len:n=l.length
 fit:n≤cap
 top:(cap:Int)≤9223372036854775807
 ok:∀ A ∈ l,RngA A
 at_:l=[]∨∃ b off,a=some ⟨b,off,none⟩∧b<w.heap.size∧∀ i A,l[i]?=some A→ActAt w b (off+i*5) A
theorem ActsIn.belowAll {a:Option Addr} {n cap:Nat} {l:List ActR} {w w':World} (h:ActsIn a n cap l w) (hb:Below w.heap.size w w'):ActsIn a n cap l w':=by
 refine ⟨h.len,h.fit,h.top,h.ok,h.at_.imp id ?_⟩;rintro ⟨b,off,ha,hl,hi⟩;exact ⟨b,off,ha,Nat.lt_of_lt_of_le hl hb.size,fun i A hA=>(hi i A hA).block (hb.block b hl)⟩
theorem rng_of {k:Int} (h:(Lit.wf (.int .i32 k))=true):-2147483648≤k∧k≤2147483647:=by
 simp [Lit.wf,IntKind.min,IntKind.max,IntKind.signed,IntKind.bits] at h;omega
set_option maxRecDepth 100000 in
theorem trod_cel {H:Type} {enc:TypeId × Value→H} {W:World} {m:Nat} {cs:List Value} {x:DataW H × List MemPlace} {b0:Nat} {f0:Nat→Bool} {t0:Bool} (h:DataW.trod enc Tryd.prog W b0 f0 t0 m 118 cs=some x) (hl:cs.length=3) :
    ∃ c:Cel,cs=[.int .i32 c.rune,.int .i64 c.style,.int .i64 c.part]∧Rng c:=by
 match cs,hl with
 | [v0,v1,v2],_ =>
  obtain ⟨xs,n,hn,hxy,_,hxl,hf⟩ := DataW.trod_struct Tryd.underlying118 h
  match xs,hxl with
  | [y0,y1,y2],_ =>
   have g0:=hf 0 _ rfl;have g1:=hf 1 _ rfl;have g2:=hf 2 _ rfl;simp [cI,cR] at g0 g1 g2;obtain ⟨k0,e0,_,hw⟩ := DataW.trod_int Tryd.underlying21 g0;obtain ⟨k1,e1,_,_⟩ := DataW.trod_int Tryd.underlying3 g1;obtain ⟨k2,e2,_,_⟩ := DataW.trod_int Tryd.underlying3 g2;simp at e0 e1 e2;subst e0 e1 e2;exact ⟨⟨k0,k1,k2⟩,rfl,rng_of hw⟩
theorem addN (b off j:Nat):(⟨b,off,none⟩ : Addr).add j=⟨b,off+j,none⟩ := by unfold Addr.add; split <;> simp_all
end Go.Proofs.YtagolklnjhpbdaaDoor.K

namespace Go.Proofs.YtagolklnjhpbdaaDoor.K
open Go.RowKit
structure Rv where
 a:Option Addr
 n:Nat
 c:Nat
 b:Bool
def Rv.val (u:Rv):Value:=.agg #[.slice u.a u.n u.c,.bool u.b]
theorem Rv.val_inj {u v:Rv} (h:u.val=v.val):u=v:=by
 obtain ⟨a,n,c,b⟩ := u;obtain ⟨a',n',c',b'⟩ := v;have e1:#[Value.slice a n c,Value.bool b]=#[Value.slice a' n' c',Value.bool b']:=by injection h
 simp only [Array.mk.injEq,List.cons.injEq,Value.slice.injEq,Value.bool.injEq,and_true] at e1;obtain ⟨⟨rfl,rfl,rfl⟩,rfl⟩ := e1
 rfl
def Rv.nil:Rv:=⟨none,0,0,false⟩
def vCells (u:Rv):List Value:=[.slice u.a u.n u.c,.bool u.b]
def flatV (l:List Rv):List Value:=l.flatMap vCells
theorem flatV_len (l:List Rv):(flatV l).length=l.length*2:=by
 induction l with
 | nil=>rfl
 | cons c l ih=>simp [flatV,List.flatMap_cons,vCells] at ih ⊢; omega
theorem flatV_append (a b:List Rv):flatV (a++b)=flatV a++flatV b:=List.flatMap_append ..
theorem flatV_get:∀ (l:List Rv) (i j:Nat) (c:Rv),l[i]?=some c→j<2→(flatV l)[i*2+j]?=(vCells c)[j]?
  | [],_,_,_,h,_=>by cases h
  | d::l,0,j,c,h,hj=>by
   obtain rfl:d=c:=by simpa using h
   show (vCells d++flatV l)[0*2+j]?=_;rw [List.getElem?_append_left (by simp [vCells]; omega)];simp
  | d::l,i+1,j,c,h,hj=>by
   show (vCells d++flatV l)[(i+1)*2+j]?=_;rw [List.getElem?_append_right (by simp [vCells]; omega)];have e:(i+1)*2+j - (vCells d).length=i*2+j:=by simp [vCells]; omega
   rw [e];exact flatV_get l i j c (by simpa using h) hj
theorem flatV_one (l:List Rv):∀ u ∈ flatV l,u.oneCell'=true:=by
 intro u hu;obtain ⟨c,_,hu⟩ := List.mem_flatMap.1 hu;simp only [vCells,List.mem_cons,List.not_mem_nil,or_false] at hu;rcases hu with rfl | rfl <;> rfl
def OwnV (T:TypeId) (base:Nat) (v:Value) (l:List Rv) (w:World):Prop:=w.ownsRow base T 2 v l.length (flatV l)
theorem OwnV.nil (T:TypeId) (base:Nat) (w:World):OwnV T base (.slice none 0 0) [] w:=World.ownsRow_nil _ _ _ _
theorem OwnV.belowAll {T:TypeId} {base:Nat} {v:Value} {l:List Rv} {w w':World} (h:OwnV T base v l w) (hb:Below w.heap.size w w'):OwnV T base v l w':=U.belowAll h hb
theorem OwnV.alloc {T:TypeId} {base:Nat} {v:Value} {l:List Rv} {w:World} (h:OwnV T base v l w) (o:Obj):OwnV T base v l (w.alloc o):=h.belowAll ((Below.refl _ _).alloc (Nat.le_refl _) o)
theorem OwnV.weaken {T:TypeId} {base base':Nat} {v:Value} {l:List Rv} {w:World} (h:OwnV T base v l w) (hb:base'≤base):OwnV T base' v l w:=U.weaken h hb
theorem OwnV.ownBlock {T:TypeId} {base:Nat} {v:Value} {l:List Rv} {w:World} (h:OwnV T base v l w):∀ q,v.ownBlock=some q→base≤q∧q<w.heap.size:=fun q hq=>⟨(U.own_type h hq).choose_spec.2.1,(U.own_type h hq).choose_spec.2.2⟩
theorem OwnV.lit (T:TypeId) (w:World) (base:Nat) (hb:base≤w.heap.size):OwnV T base (.slice (some ⟨w.heap.size,0,none⟩) 0 0) [] (w.alloc (.cells #[] T)):=World.ownsRow_lit w #[] 0 hb (by decide) rfl
theorem OwnV.kept {T:TypeId} {base:Nat} {v:Value} {l:List Rv} {w w':World} {row:Option Nat} (h:OwnV T base v l w) (hg:w.grownBy w' row) (hne:∀ q,v.ownBlock=some q→row≠some q):OwnV T base v l w':=U.kept_apart h hg hne
structure RvsIn (a:Option Addr) (n c:Nat) (us:List Rv) (w:World):Prop where
 len:n=us.length
 fit:n≤c
 top:(c:Int)≤9223372036854775807
 at_:us=[]∨∃ b off,a=some ⟨b,off,none⟩∧b<w.heap.size∧∀ i u,us[i]?=some u→w.cell? ⟨b,off+i*2,none⟩=some (.slice u.a u.n u.c)∧w.cell? ⟨b,off+i*2+1,none⟩=some (.bool u.b)
theorem RvsIn.blocks {a:Option Addr} {n c:Nat} {us:List Rv} {w w':World} (h:RvsIn a n c us w) (hs:w.heap.size≤w'.heap.size) (hk:∀ b off,a=some ⟨b,off,none⟩→b<w.heap.size→w'.heap[b]?=w.heap[b]?):RvsIn a n c us w':=by
 refine ⟨h.len,h.fit,h.top,h.at_.imp id ?_⟩;rintro ⟨b,off,ha,hl,hi⟩;have hk':=hk b off ha hl;exact ⟨b,off,ha,Nat.lt_of_lt_of_le hl hs,fun i u hu=>⟨(World.cell?_of_block (a:=⟨b,off+i*2,none⟩) hk').trans (hi i u hu).1,(World.cell?_of_block (a:=⟨b,off+i*2+1,none⟩) hk').trans (hi i u hu).2⟩⟩
theorem RvsIn.belowAll {a:Option Addr} {n c:Nat} {us:List Rv} {w w':World} (h:RvsIn a n c us w) (hb:Below w.heap.size w w'):RvsIn a n c us w':=h.blocks hb.size (fun b _ _ hl=>hb.block b hl)
theorem OwnV.shape {T:TypeId} {base:Nat} {v:Value} {l:List Rv} {w:World} (h:OwnV T base v l w):∃ a c,v=.slice a l.length c∧RvsIn a l.length c l w∧(∀ b off,a=some ⟨b,off,none⟩→base≤b∧b<w.heap.size∧off=0)∧(a=none→c=0):=by
 rcases h.2 with ⟨rfl,h0⟩ | ⟨g,cap,cur,rfl,hbase,hg,hc,hm,hs,ht⟩
 · exact ⟨none,0,by rw [h0],⟨rfl,by omega,by decide,.inl (List.length_eq_zero_iff.1 h0)⟩,(fun _ _ e=>by cases e),fun _=>rfl⟩
 · have hlt:=(gSx.1 hg).1;refine ⟨some ⟨g,0,none⟩,cap,rfl,⟨rfl,hc,by unfold maxLen at hm; omega,.inr ⟨g,0,rfl,hlt,fun i c hi=>?_⟩⟩,(fun b off e=>by cases e; exact ⟨hbase,hlt,rfl⟩),(fun e=>by cases e)⟩;have hil:i<l.length:=(List.getElem?_eq_some_iff.1 hi).1;have hcell:∀ j,j<2→w.cell? ⟨g,0+i*2+j,none⟩=(vCells c)[j]?:=fun j hj=>by
    rw [Nat.zero_add,World.ownsRow.cellAt h (i*2+j) (by omega),flatV_get l i j c hi hj]
   exact ⟨hcell 0 (by decide),hcell 1 (by decide)⟩
theorem RvsIn.news {b off n c:Nat} {l:List Rv} {w:World} (h:RvsIn (some ⟨b,off,none⟩) n c l w):∀ j u,(flatV l)[j]?=some u→w.cell? ((⟨b,off,none⟩ : Addr).add j)=some u:=by
 intro j u hj;have hadd:((⟨b,off,none⟩ : Addr).add j)=⟨b,off+j,none⟩ := by unfold Addr.add; split <;> simp_all
 rw [hadd];have hlt:j<l.length*2:=by have:=(List.getElem?_eq_some_iff.1 hj).1; rw [flatV_len] at this; exact this
 rcases h.at_ with e | ⟨b',off',ha,hb,hi⟩
 · rw [e] at hlt; simp at hlt
 · cases ha;have hjl:j / 2<l.length:=by omega
   have h1:=hi (j / 2) l[j / 2] (List.getElem?_eq_getElem hjl);have h2:=flatV_get l (j / 2) (j % 2) l[j / 2] (List.getElem?_eq_getElem hjl) (by omega);rw [show j / 2*2+j % 2=j by omega,hj] at h2;rcases Nat.mod_two_eq_zero_or_one j with hm | hm
   · rw [hm] at h2;rw [show u=_ from (Option.some.inj h2),show off+j=off+j / 2*2 by omega];exact h1.1
   · rw [hm] at h2;rw [show u=_ from (Option.some.inj h2),show off+j=off+j / 2*2+1 by omega];exact h1.2
structure RvT (t T:TypeId) (bytes:Nat):Prop where
 slice:Tryd.prog.underlying t=some (.slice T)
 info:(Tryd.prog.info? T).map (fun i=>(i.zero,i.size,i.bytes))=some (some (.agg #[.slice none 0 0,.bool false]),2,bytes)
 small:bytes≤32
theorem rowsT:RvT 22 57 32:=⟨Tryd.underlying22,by kernel_rfl,by decide⟩
theorem refRowsT:RvT 28 63 32:=⟨Tryd.underlying28,by kernel_rfl,by decide⟩
theorem run_append_rows {t T:TypeId} {bytes:Nat} (hI:RvT t T bytes) (base:Nat) (v:Value) (l:List Rv) (a:Option Addr) (m c:Nat) (l2:List Rv) (w:World) (hown:OwnV T base v l w) (h:RvsIn a m c l2 w) (hnil:a=none→c=0) (h1:(l.length:Int)≤1000000) (h2:(l2.length:Int)≤1000000) (hbase:base≤w.heap.size) :
    ∃ v' w',(Builtin.append_ #[t,t] t #[v,.slice a m c]).run Tryd.prog w=.ok v' w'∧OwnV T base v' (l++l2) w'∧U.Grew base T 2 v (l.length+m) (flatV l++flatV l2) w v' w':=by
 obtain ⟨i0,hi,hz0,hz1,hz2⟩ := info_parts hI.info;have hl:=h.len;have hb:=hI.small;have hmul:(l.length+m)*bytes≤140737488355328:=Nat.le_trans (Nat.mul_le_mul (show l.length+m≤2000000 by omega) hb) (by decide);have done:∀ v' w',U.Grew base T 2 v (l.length+m) (flatV l++flatV l2) w v' w'→OwnV T base v' (l++l2) w':=fun v' w' g=>by
  unfold OwnV;rw [List.length_append,flatV_append,← hl];exact g.own
 cases a with
 | none =>
  have hc:=hnil rfl;have h0:l2=[]:=by
   rcases h.at_ with h0 | ⟨b,off,e,_⟩
   · exact h0
   · cases e
  subst h0;obtain rfl:m=0:=hl;obtain ⟨hr,g⟩ := U.append_none (P:=Tryd.prog) w t t T i0 2 c hI.slice hi base v l.length (flatV l) hown hc;have g':U.Grew base T 2 v (l.length+0) (flatV l++flatV []) w v w:=by simpa [flatV] using g
  exact ⟨v,w,hr,done _ _ g',g'⟩
 | some ad =>
  have hnews:∀ j u,(flatV l2)[j]?=some u→w.cell? (ad.add j)=some u:=fun j u hj=>by
   rcases h.at_ with h0 | ⟨b,off,e,_⟩
   · rw [h0] at hj; simp [flatV] at hj
   · cases e;exact h.news j u hj
  obtain ⟨v',w',hr,g⟩ := U.append_grew (P:=Tryd.prog) w t t T i0 _ 2 bytes hI.slice hi hz0 hz1 hz2 rfl (by decide) base v l.length (flatV l) hown ad m c (flatV l2) (by rw [flatV_len,hl]) hnews (flatV_one l2) (by unfold maxLen; omega) hmul hbase;exact ⟨v',w',hr,done _ _ g,g⟩
def RowsV (rk:IntKind) (us:List Rv) (rs:List Ro) (w:World):Prop:=us.length=rs.length∧∀ (i:Nat) (u:Rv) (r:Ro),us[i]?=some u→rs[i]?=some r→RowV rk u.val r w
theorem RowsV.nil (rk:IntKind) (w:World):RowsV rk [] [] w:=⟨rfl,fun i u r h=>by cases h⟩
theorem RowsV.belowAll {rk:IntKind} {us:List Rv} {rs:List Ro} {w w':World} (h:RowsV rk us rs w) (hb:Below w.heap.size w w'):RowsV rk us rs w':=⟨h.1,fun i u r h1 h2=>(h.2 i u r h1 h2).belowAll hb⟩
theorem RowsV.get {rk:IntKind} {us:List Rv} {rs:List Ro} {w:World} (h:RowsV rk us rs w) {i:Nat} {r:Ro} (hr:rs[i]?=some r):∃ u,us[i]?=some u∧RowV rk u.val r w:=by
 have hlt:i<us.length:=by rw [h.1]; exact (List.getElem?_eq_some_iff.1 hr).1
 exact ⟨us[i],List.getElem?_eq_getElem hlt,h.2 i _ r (List.getElem?_eq_getElem hlt) hr⟩
theorem RowsV.take {rk:IntKind} {us:List Rv} {rs:List Ro} {w:World} (h:RowsV rk us rs w) (k:Nat):RowsV rk (us.take k) (rs.take k) w:=by
 refine ⟨by rw [List.length_take,List.length_take,h.1],fun i u r hu hr=>?_⟩;rw [List.getElem?_take] at hu hr
 split at hu
 · rename_i hi;rw [if_pos hi] at hr;exact h.2 i u r hu hr
 · cases hu
theorem RowsV.drop {rk:IntKind} {us:List Rv} {rs:List Ro} {w:World} (h:RowsV rk us rs w) (k:Nat):RowsV rk (us.drop k) (rs.drop k) w :=
 ⟨by rw [List.length_drop,List.length_drop,h.1],fun i u r hu hr=>by rw [List.getElem?_drop] at hu hr; exact h.2 _ u r hu hr⟩
theorem RowsV.append {rk:IntKind} {us vs:List Rv} {rs qs:List Ro} {w:World} (h:RowsV rk us rs w) (h':RowsV rk vs qs w):RowsV rk (us++vs) (rs++qs) w:=by
 refine ⟨by rw [List.length_append,List.length_append,h.1,h'.1],fun i u r hu hr=>?_⟩;rcases Nat.lt_or_ge i us.length with hi | hi
 · rw [List.getElem?_append_left hi] at hu;rw [List.getElem?_append_left (by rw [← h.1]; exact hi)] at hr;exact h.2 i u r hu hr
 · rw [List.getElem?_append_right hi] at hu;rw [List.getElem?_append_right (by rw [← h.1]; exact hi),← h.1] at hr;exact h'.2 _ u r hu hr
theorem RowsV.rep {rk:IntKind} {u:Rv} {r:Ro} {w:World} (h:RowV rk u.val r w) (n:Nat):RowsV rk (List.replicate n u) (List.replicate n r) w:=by
 refine ⟨by rw [List.length_replicate,List.length_replicate],fun i v q hv hq=>?_⟩;rw [List.getElem?_replicate] at hv hq
 split at hv
 · rename_i hi;rw [if_pos hi] at hq;rw [← Option.some.inj hv,← Option.some.inj hq];exact h
 · cases hv
theorem RowsV.set {rk:IntKind} {us:List Rv} {rs:List Ro} {w:World} (h:RowsV rk us rs w) {u:Rv} {r:Ro} (hu:RowV rk u.val r w) (k:Nat):RowsV rk (us.set k u) (rs.set k r) w:=by
 refine ⟨by rw [List.length_set,List.length_set,h.1],fun i v q hv hq=>?_⟩;rw [List.getElem?_set] at hv hq;by_cases hk:k=i
 · rw [if_pos hk] at hv hq
   split at hv
   · rename_i hl;rw [if_pos (by rw [← h.1]; exact hl)] at hq;rw [← Option.some.inj hv,← Option.some.inj hq];exact hu
   · cases hv
 · rw [if_neg hk] at hv hq;exact h.2 i v q hv hq
end Go.Proofs.YtagolklnjhpbdaaDoor.K
