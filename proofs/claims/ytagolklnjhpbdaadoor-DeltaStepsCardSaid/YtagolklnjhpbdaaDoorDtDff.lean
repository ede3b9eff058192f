import Derived.Test.YtagolklnjhpbdaaDoorMerged0
import Derived.Test.YtagolklnjhpbdaaDoorMerged25
import Derived.Test.YtagolklnjhpbdaaDoorDtOut
namespace Go.Proofs.YtagolklnjhpbdaaDoor.K
open Go.Proofs.YtagolklnjhpbdaaDoor.R (agree_frame wp_region_due)
open Go.RowKit Go.Shelf Go.Proofs.YtagolklnjhpbdaaDoor.I
open Go.Proofs.YtagolklnjhpbdaaDoor.X (BelowE)
attribute [local go_sem] Oper.semAt_some
def rowsD (l:List (Nat × Ro)):List UInt8:=l.flatMap fun x=>numB (x.1:Int)++packR x.2
def rawD (Sm:Int) (b:Sn) (l:List (Nat × Ro)):List UInt8:=(numB Sm++headB b)++(numB (l.length:Int)++rowsD l)
def diffN (a b:Sn):List UInt8:=if MayN a∧FullN b then rawD ((Go.Proofs.YtagolklnjhpbdaaDoor.S.sumOf (packN a):Nat):Int) b (difL a 0 b.R) else []
theorem rowsD_snoc (l:List (Nat × Ro)) (x:Nat × Ro):rowsD (l++[x])=rowsD l++(numB (x.1:Int)++packR x.2):=by
 unfold rowsD;rw [List.flatMap_append];simp
theorem difL_mem (a:Sn):∀ (R:List Ro) (y:Nat) (x:Nat × Ro),x ∈ difL a y R→x.2 ∈ R
  | [],_,_,h=>by simp [difL] at h
  | r::R,y,x,h=>by
   unfold difL at h
   split at h
   · exact List.mem_cons_of_mem _ (difL_mem a R (y+1) x h)
   · rcases List.mem_cons.1 h with rfl | h
     · exact List.mem_cons_self
     · exact List.mem_cons_of_mem _ (difL_mem a R (y+1) x h)
theorem rowsD_len {L:Nat}:∀ (l:List (Nat × Ro)),(∀ x ∈ l,(packR x.2).length≤L)→(rowsD l).length≤l.length*(9+L)
  | [],_=>by simp [rowsD]
  | x::l,h=>by
   have h1:=rowsD_len l (fun y hy=>h y (List.mem_cons_of_mem _ hy));have h2:=h x List.mem_cons_self;have h3:=numB_len (x.1:Int);have e:rowsD (x::l)=(numB (x.1:Int)++packR x.2)++rowsD l:=by simp [rowsD]
   rw [e,List.length_append,List.length_append,List.length_cons,Nat.add_mul,Nat.one_mul];omega
def dgB (Sm:Int) (b:Sn) (k:Nat):List UInt8:=match k with
  | 0=>[]
  | k+1=>numB Sm++hBk b (k+1)
theorem dgk_len {Sm:Int} {s:Sn} (h:s.t.size≤200∧s.B.length≤1024) (k:Nat):(dgB Sm s k).length≤20009:=by
 unfold dgB
 split
 · simp
 · next k =>
   have h1:=hbk_len h (k+1);have h2:=numB_len Sm;rw [List.length_append];omega
structure DgSt (b2 o:Nat) (Sm:Int) (sb:Sn) (W1:World) (k:Nat) (v:World):Prop where
 ot:OutAt b2 o (dgB Sm sb k) v
 e:BelowE b2 o W1 v
 sz:b2≤v.heap.size
theorem DgSt.below {b2 o:Nat} {Sm:Int} {sb:Sn} {W1:World} {k:Nat} {v v':World} (h:DgSt b2 o Sm sb W1 k v) (hb:Below v.heap.size v v'):DgSt b2 o Sm sb W1 k v' :=
 ⟨outAt_below h.ot hb,h.e.transB (hb.mono h.sz),Nat.le_trans h.sz hb.size⟩
theorem DgSt.wrote {b2 o:Nat} {Sm:Int} {sb:Sn} {W1:World} {k k2:Nat} {v v':World} (h:DgSt b2 o Sm sb W1 k v) (hO:OutAt b2 o (dgB Sm sb k2) v') (hb:BelowE b2 o v v'):DgSt b2 o Sm sb W1 k2 v' :=
 ⟨hO,h.e.trans hb,Nat.le_trans h.sz hb.size⟩
theorem DgSt.at_ {b2 o:Nat} {Sm:Int} {sb:Sn} {W1:World} {k:Nat} {v:World} (h:DgSt b2 o Sm sb W1 k v) {q:Nat} {ob:Obj} (hq:W1.heap[q]?=some ob) (h1:q<b2) (h2:q≠o):v.heap[q]?=some ob:=(h.e.block q h1 h2).trans hq
def DgOk (rb o:Nat) (Sm:Int) (sa sb:Sn) (ra:Option Addr) (rn rc:Nat) (ga:Option Addr) (gn gc:Nat) (ta:Option Addr) (tn tc:Nat) (ha:Option Addr) (hn hc:Nat):Nat→Value→World→Prop
  | 0,u,_=>u=.agg #[.int .i64 sa.k,.int .i64 sa.w,.int .i64 sa.h,.int .i64 sa.x,.int .i64 sa.y,.string sa.t,.slice ra rn rc,.int .i64 sa.n,.int .i64 sa.c,.slice ga gn gc]
  | 1,u,_=>u=.int .i64 Sm
  | 2,u,_=>u=.pointer (some ⟨rb+1,0,none⟩)
  | 3,u,_=>u=.int .i64 sb.k
  | 4,u,_=>u=.pointer (some ⟨rb+1,1,none⟩)
  | 5,u,_=>u=.int .i64 sb.w
  | 6,u,_=>u=.pointer (some ⟨rb+1,2,none⟩)
  | 7,u,_=>u=.int .i64 sb.h
  | 8,u,_=>u=.pointer (some ⟨rb+1,3,none⟩)
  | 9,u,_=>u=.int .i64 sb.x
  | 10,u,_=>u=.pointer (some ⟨rb+1,4,none⟩)
  | 11,u,_=>u=.int .i64 sb.y
  | 12,u,w=>∃ X,u=.slice (some ⟨X,0,none⟩) 6 6∧X≠o∧w.heap[X]?=some (.cells #[.int .i64 Sm,.int .i64 sb.k,.int .i64 sb.w,.int .i64 sb.h,.int .i64 sb.x,.int .i64 sb.y] 3 (0,0))
  | 13,u,_=>u=.pointer (some ⟨o,0,none⟩)
  | 14,u,_=>u=.pointer (some ⟨rb+1,5,none⟩)
  | 15,u,_=>u=.string sb.t
  | 16,u,w=>∃ X,u=.slice (some ⟨X,0,none⟩) 1 1∧X≠o∧w.heap[X]?=some (.cells #[.string sb.t] 9 (0,0))
  | 17,u,_=>u=.pointer (some ⟨o,0,none⟩)
  | 18,u,_=>u=.pointer (some ⟨rb+1,7,none⟩)
  | 19,u,_=>u=.int .i64 sb.n
  | 20,u,_=>u=.pointer (some ⟨rb+1,8,none⟩)
  | 21,u,_=>u=.int .i64 sb.c
  | 22,u,w=>∃ X,u=.slice (some ⟨X,0,none⟩) 2 2∧X≠o∧w.heap[X]?=some (.cells #[.int .i64 sb.n,.int .i64 sb.c] 3 (0,0))
  | 23,u,_=>u=.pointer (some ⟨o,0,none⟩)
  | 24,u,_=>u=.pointer (some ⟨rb+1,9,none⟩)
  | 25,u,_=>u=.slice ha hn hc
  | 26,u,_=>u=.string (pgB sb)
  | 27,u,w=>∃ X,u=.slice (some ⟨X,0,none⟩) 1 1∧X≠o∧w.heap[X]?=some (.cells #[.string (pgB sb)] 9 (0,0))
  | 28,u,_=>u=.pointer (some ⟨o,0,none⟩)
  | _,_,_=>True
structure DfI (rb o:Nat) (sa sb:Sn) (ra:Option Addr) (rn rc:Nat) (ga:Option Addr) (gn gc:Nat) (ta:Option Addr) (tn tc:Nat) (ha:Option Addr) (hn hc:Nat) (w:World) (bs:List UInt8) (m:Nat) (V:World):Prop where
 out:Boxed V o 68 (.slice none 0 0)
 rows:OutAt rb (o+1) bs V
 cnt:Boxed V (o+2) 3 (.int .i64 (m:Int))
 ba:V.heap[rb]?=some (.cells (snA sa ra rn rc ga gn gc) 25 (0,0))
 bb:V.heap[rb+1]?=some (.cells (snA sb ta tn tc ha hn hc) 25 (0,0))
 b:Below rb w V
section
variable {rb o:Nat} {sa sb:Sn} {ra:Option Addr} {rn rc:Nat} {ga:Option Addr} {gn gc:Nat} {ta:Option Addr} {tn tc:Nat} {ha:Option Addr} {hn hc:Nat} {w:World}
theorem DfI.below {bs:List UInt8} {m:Nat} {V V':World} (h:DfI rb o sa sb ra rn rc ga gn gc ta tn tc ha hn hc w bs m V) (hb:Below V.heap.size V V'):DfI rb o sa sb ra rn rc ga gn gc ta tn tc ha hn hc w bs m V' :=
 ⟨(hb.block _ h.out.lt).trans h.out,outAt_below h.rows hb,(hb.block _ h.cnt.lt).trans h.cnt,(hb.block _ (gSx.1 h.ba).1).trans h.ba,(hb.block _ (gSx.1 h.bb).1).trans h.bb,h.b.trans (hb.mono (Nat.le_of_lt (gSx.1 h.ba).1))⟩
theorem DfI.own {α:Type} {C:Nat} (f:List α→List UInt8) (hC:rb≤C):OwnFrom C (fun (pre:List α) V=>DfI rb o sa sb ra rn rc ga gn gc ta tn tc ha hn hc w (f pre) pre.length V):=fun s V V' row h hg hr=>by
 have hne:∀ (q:Nat) (cs:Array Value) (T:TypeId),V.heap[q]?=some (.cells cs T (0,0))→V'.heap[q]?=some (.cells cs T (0,0)):=fun q cs T hq=>(hg.block q (gSx.1 hq).1 (fun e=>by
  obtain ⟨-,ob,ho,hc⟩ := hr q e.symm;rw [hq] at ho;cases ho;cases hc)).trans hq
 refine ⟨hne _ _ _ h.out,?_,hne _ _ _ h.cnt,hne _ _ _ h.ba,hne _ _ _ h.bb,h.b.grown hg (Nat.le_of_lt (gSx.1 h.ba).1) (fun q e=>Nat.le_trans hC (hr q e).1)⟩;have h1:=own_outAt rb (o+1) [] (f s) V V' row (by simpa using h.rows) hg (fun q e=>(hr q e).2)
 simpa using h1
theorem DfI.wrote {bs bs2:List UInt8} {m:Nat} {V V':World} (h:DfI rb o sa sb ra rn rc ga gn gc ta tn tc ha hn hc w bs m V) (ho:rb+1<o) (hO:OutAt rb (o+1) bs2 V') (hb:Below rb V V') (hk:Keeps (o+1) V V'):DfI rb o sa sb ra rn rc ga gn gc ta tn tc ha hn hc w bs2 m V' :=
 ⟨hk.block o _ h.out (by omega) (fun cur fr e=>by injection e with _ e2; revert e2; decide),hO,hk.block (o+2) _ h.cnt (by omega) (fun cur fr e=>by injection e with _ e2; revert e2; decide),
   hk.block rb _ h.ba (by omega) (fun cur fr e=>by injection e with _ e2; revert e2; decide),hk.block (rb+1) _ h.bb (by omega) (fun cur fr e=>by injection e with _ e2; revert e2; decide),h.b.trans hb⟩
theorem DfI.count {bs:List UInt8} {m m2:Nat} {V:World} (h:DfI rb o sa sb ra rn rc ga gn gc ta tn tc ha hn hc w bs m V) (ho:rb+1<o):DfI rb o sa sb ra rn rc ga gn gc ta tn tc ha hn hc w bs m2 (V.setCell ⟨o+2,0,none⟩ (.int .i64 (m2:Int))):=by
 refine ⟨Boxed.other h.out (by omega) _,?_,h.cnt.set _,(Below.heap_setCell _ _ _ _ (by show rb≠o+2; omega)).trans h.ba,(Below.heap_setCell _ _ _ _ (by show rb+1≠o+2; omega)).trans h.bb,h.b.setCell (p:=⟨o+2,0,none⟩) (by show rb≤o+2; omega) _⟩;obtain ⟨v,h1,h2⟩ := h.rows;exact ⟨v,Boxed.other h1 (by omega) _,h2.kept (grownBy_setCell' V (o+2) _) (.inr (h.cnt.not_row (by decide) h2).symm)⟩
end
def rwB (bs:List UInt8) (y:Int) (r:Ro):Nat→List UInt8
  | 0=>bs
  | 1=>bs++numB y
  | _=>(bs++numB y)++packR r
structure RwSt (rb o:Nat) (V:World) (Bx:Nat) (cr:Array Value) (bs:List UInt8) (v:World):Prop where
 ot:OutAt rb (o+1) bs v
 bx:v.heap[Bx]?=some (.cells cr 57 (0,0))
 k:Keeps (o+1) V v
 b:Below rb V v
theorem RwSt.below {rb o:Nat} {V:World} {Bx:Nat} {cr:Array Value} {bs:List UInt8} {v v':World} (h:RwSt rb o V Bx cr bs v) (hr:rb≤v.heap.size) (hb:Below v.heap.size v v'):RwSt rb o V Bx cr bs v' :=
 ⟨outAt_below h.ot hb,(hb.block _ (gSx.1 h.bx).1).trans h.bx,h.k.trans (keeps_below hb),h.b.trans (hb.mono hr)⟩
theorem RwSt.wrote {rb o:Nat} {V:World} {Bx:Nat} {cr:Array Value} {bs bs2:List UInt8} {v v':World} (h:RwSt rb o V Bx cr bs v) (hO:OutAt rb (o+1) bs2 v') (hb:Below rb v v') (hk:Keeps (o+1) v v') (hn:Bx≠o+1):RwSt rb o V Bx cr bs2 v' :=
 ⟨hO,hk.block Bx _ h.bx hn (fun cur fr e=>by injection e with _ e2; revert e2; decide),h.k.trans hk,h.b.trans hb⟩
def RwC (rb o:Nat) (V:World) (Bx:Nat) (cr:Array Value) (bs:List UInt8) (y:Int) (r:Ro) (listed:Array Bool) (v:World):Prop :=
 ∃ k,listed.getD 2 false=decide (1≤k)∧listed.getD 6 false=decide (2≤k)∧RwSt rb o V Bx cr (rwB bs y r k) v
section
variable {rb o:Nat} {V:World} {Bx:Nat} {cr:Array Value} {bs:List UInt8} {y:Int} {r:Ro}
theorem RwC.below {l:Array Bool} {v v':World} (h:RwC rb o V Bx cr bs y r l v) (hr:rb≤v.heap.size) (hb:Below v.heap.size v v') {i:Nat} (h2:i≠2) (h6:i≠6):RwC rb o V Bx cr bs y r (l.setIfInBounds i true) v':=by
 obtain ⟨k,k2,k6,hs⟩ := h;exact ⟨k,by rw [Go.Proofs.YtagolklnjhpbdaaDoor.I.getD_set_ne h2]; exact k2,by rw [Go.Proofs.YtagolklnjhpbdaaDoor.I.getD_set_ne h6]; exact k6,hs.below hr hb⟩
theorem RwC.zero {l:Array Bool} {v:World} (h:RwC rb o V Bx cr bs y r l v) (hu:l.getD 2 false=false):RwSt rb o V Bx cr bs v∧l.getD 6 false=false:=by
 obtain ⟨k,k2,k6,hs⟩ := h;rw [hu] at k2;have hk:k=0:=by have:=of_decide_eq_false k2.symm; omega
 subst hk;exact ⟨hs,by rw [k6]; rfl⟩
theorem RwC.one {l:Array Bool} {v:World} (h:RwC rb o V Bx cr bs y r l v) (hu:l.getD 6 false=false) (h2:l.getD 2 false=true):RwSt rb o V Bx cr (bs++numB y) v:=by
 obtain ⟨k,k2,k6,hs⟩ := h;rw [hu] at k6;rw [h2] at k2;have hk:k=1:=by have h1:=of_decide_eq_false k6.symm; have h2:=of_decide_eq_true k2.symm; omega
 subst hk;exact hs
theorem RwC.all {l:Array Bool} {v:World} (h:RwC rb o V Bx cr bs y r l v) (hu:l.getD 6 false=true):RwSt rb o V Bx cr ((bs++numB y)++packR r) v:=by
 obtain ⟨k,k2,k6,hs⟩ := h;rw [hu] at k6;have hk:2≤k:=of_decide_eq_true k6.symm
 match k,hk with
 | k+2,_=>exact hs
theorem RwC.step2 {l:Array Bool} {v v':World} (h:RwC rb o V Bx cr bs y r l v) (hu:l.getD 2 false=false) (hs:l.size=7) (h':RwSt rb o V Bx cr (bs++numB y) v'):RwC rb o V Bx cr bs y r (l.setIfInBounds 2 true) v' :=
 ⟨1,by rw [Go.Proofs.YtagolklnjhpbdaaDoor.I.getD_set_self (by omega)]; rfl,by rw [Go.Proofs.YtagolklnjhpbdaaDoor.I.getD_set_ne (by omega),(h.zero hu).2]; rfl,h'⟩
theorem RwC.step6 {l:Array Bool} {v v':World} (hs:l.size=7) (h2:l.getD 2 false=true) (h':RwSt rb o V Bx cr ((bs++numB y)++packR r) v'):RwC rb o V Bx cr bs y r (l.setIfInBounds 6 true) v' :=
 ⟨2,by rw [Go.Proofs.YtagolklnjhpbdaaDoor.I.getD_set_ne (by omega),h2]; rfl,by rw [Go.Proofs.YtagolklnjhpbdaaDoor.I.getD_set_self (by omega)]; rfl,h'⟩
theorem RwC.size {l:Array Bool} {v:World} (h:RwC rb o V Bx cr bs y r l v):V.heap.size≤v.heap.size:=by
 obtain ⟨k,k2,k6,hs⟩ := h;exact hs.k.size
theorem RwC.bx {l:Array Bool} {v:World} (h:RwC rb o V Bx cr bs y r l v):v.heap[Bx]?=some (.cells cr 57 (0,0)):=by
 obtain ⟨k,k2,k6,hs⟩ := h;exact hs.bx
theorem RwC.b {l:Array Bool} {v:World} (h:RwC rb o V Bx cr bs y r l v):Below rb V v:=by
 obtain ⟨k,k2,k6,hs⟩ := h;exact hs.b
theorem RwC.lt {l:Array Bool} {v:World} (h:RwC rb o V Bx cr bs y r l v):o+1<v.heap.size:=by
 obtain ⟨k,k2,k6,hs⟩ := h;exact hs.ot.lt
end
def RwOk (o:Nat) (y:Int) (rv:Value) (pr:ByteArray):Nat→Value→World→Prop
  | 0,u,_=>u=.int .i64 y
  | 1,u,w=>∃ X,u=.slice (some ⟨X,0,none⟩) 1 1∧X≠o+1∧w.heap[X]?=some (.cells #[.int .i64 y] 3 (0,0))
  | 2,u,_=>u=.pointer (some ⟨o+1,0,none⟩)
  | 3,u,_=>u=rv
  | 4,u,_=>u=.string pr
  | 5,u,w=>∃ X,u=.slice (some ⟨X,0,none⟩) 1 1∧X≠o+1∧w.heap[X]?=some (.cells #[.string pr] 9 (0,0))
  | _,_,_=>True
theorem RwOk.keep {o:Nat} {y:Int} {rv:Value} {pr:ByteArray} {v v':World} (hk:Keeps (o+1) v v'):∀ (j:Nat) (u:Value),RwOk o y rv pr j u v→RwOk o y rv pr j u v':=fun j u h=>by
 unfold RwOk at h ⊢
 split <;> first | exact True.intro | exact h | (obtain ⟨X,e,hn,hc⟩ := h; exact ⟨X,e,hn,hk.block X _ hc hn (fun cur fr e=>by injection e with _ e2; revert e2; decide)⟩)
def DfK (p q N:Nat) (sa sb:Sn) (ra:Option Addr) (rn rc:Nat) (ga:Option Addr) (gn gc:Nat) (ta:Option Addr) (tn tc:Nat) (ha:Option Addr) (hn hc:Nat) (V:World):Prop :=
 N≤V.heap.size∧V.heap[p]?=some (.cells (snA sa ra rn rc ga gn gc) 25 (0,0))∧V.heap[q]?=some (.cells (snA sb ta tn tc ha hn hc) 25 (0,0))
section
variable {p q N:Nat} {sa sb:Sn} {ra:Option Addr} {rn rc:Nat} {ga:Option Addr} {gn gc:Nat} {ta:Option Addr} {tn tc:Nat} {ha:Option Addr} {hn hc:Nat}
theorem DfK.own {α:Type} {C:Nat}:OwnFrom C (fun (_:List α) V=>DfK p q N sa sb ra rn rc ga gn gc ta tn tc ha hn hc V):=fun _ V V' row h hg hr=>by
 have hne:∀ (b:Nat) (cs:Array Value) (T:TypeId),V.heap[b]?=some (.cells cs T (0,0))→V'.heap[b]?=some (.cells cs T (0,0)):=fun b cs T hq=>(hg.block b (gSx.1 hq).1 (fun e=>by
  obtain ⟨-,ob,ho,hc⟩ := hr b e.symm;rw [hq] at ho;cases ho;cases hc)).trans hq
 exact ⟨Nat.le_trans h.1 hg.size,hne _ _ _ h.2.1,hne _ _ _ h.2.2⟩
theorem DfK.below {V V':World} (h:DfK p q N sa sb ra rn rc ga gn gc ta tn tc ha hn hc V) (hb:Below V.heap.size V V'):DfK p q N sa sb ra rn rc ga gn gc ta tn tc ha hn hc V' :=
 ⟨Nat.le_trans h.1 hb.size,(hb.block _ (gSx.1 h.2.1).1).trans h.2.1,(hb.block _ (gSx.1 h.2.2).1).trans h.2.2⟩
theorem DfK.kept {B:Nat} {V V':World} (h:DfK p q N sa sb ra rn rc ga gn gc ta tn tc ha hn hc V) (hk:Keeps B V V') (h1:p≠B) (h2:q≠B):DfK p q N sa sb ra rn rc ga gn gc ta tn tc ha hn hc V' :=
 ⟨Nat.le_trans h.1 hk.size,hk.block p _ h.2.1 h1 (fun cur fr e=>by injection e with _ e2; revert e2; decide),hk.block q _ h.2.2 h2 (fun cur fr e=>by injection e with _ e2; revert e2; decide)⟩
theorem DfK.set {V:World} (h:DfK p q N sa sb ra rn rc ga gn gc ta tn tc ha hn hc V) {b:Nat} (h1:p≠b) (h2:q≠b) (u:Value):DfK p q N sa sb ra rn rc ga gn gc ta tn tc ha hn hc (V.setCell ⟨b,0,none⟩ u) :=
 ⟨Nat.le_trans h.1 (KeepsWalks.setCell V _ u).size,(Below.heap_setCell _ _ _ _ h1).trans h.2.1,(Below.heap_setCell _ _ _ _ h2).trans h.2.2⟩
end
def rvC (u:Rv):Array Value:=match u with
  | ⟨a,n,c,b⟩=>#[.slice a n c,.bool b]
def prD {Pr:Ro→Prop} {W:World} (x:ItD Pr W):Nat × Ro:=(x.1.1,x.1.2.2)
theorem grown_belowE {o:Nat} {V V':World} (h:BelowE V.heap.size o V V'):V.grownBy V' (some o):=⟨h.os,h.tape,h.output,h.size,fun k hk hn=>h.block k hk (fun e=>hn (by rw [e]))⟩
theorem outAt_belowE {rb o:Nat} {bs:List UInt8} {V V':World} {u:Value} (h:OutAt rb (o+1) bs V) (ho:Boxed V o 68 u) (hE:BelowE V.heap.size o V V'):OutAt rb (o+1) bs V':=by
 obtain ⟨v,h1,h2⟩ := h;exact ⟨v,(hE.block _ h1.lt (by omega)).trans h1,h2.kept (grown_belowE hE) (.inr (ho.not_row (by decide) h2).symm)⟩
def DiPost (sa sb:Sn) (w:World) (e:Ending) (w':World):Prop:=e=.returned (.string ⟨(diffN sa sb).toArray⟩)∧Below w.heap.size w w'
set_option maxRecDepth 100000 in
set_option maxHeartbeats 16000000 in
theorem diff_in (n:Nat) (hn6:9≤n) (sa sb:Sn) (ra:Option Addr) (rn rc:Nat) (ga:Option Addr) (gn gc:Nat) (ta:Option Addr) (tn tc:Nat) (ha:Option Addr) (hn hc:Nat) (w:World) (hA:SnIn .i32 ra rn rc ga gn gc sa w) (hAB:SnB sa) (hBi:SnIn .i32 ta tn tc ha hn hc sb w) (hBB:SnB sb) (hT:Go.Proofs.YtagolklnjhpbdaaDoor.S.Tab w)
    (L:Nat) (hL:∀ x ∈ difL sa 0 sb.R,(packR x.2).length≤L) (hfew:(difL sa 0 sb.R).length*(9+L)≤900000) :
    CallsIn Fence.wide n Tryd.prog 10 #[.agg (snA sa ra rn rc ga gn gc),.agg (snA sb ta tn tc ha hn hc)] w (DiPost sa sb w):=by
 have h1n:1≤n:=by omega
 obtain ⟨P,hP⟩ : ∃ P,DiPost sa sb w=P:=⟨_,rfl⟩;rw [hP];have HP:=hDx hP;obtain ⟨rb,hrb⟩ : ∃ rb,w.heap.size=rb:=⟨_,rfl⟩;obtain ⟨w2,hw2⟩ : ∃ w2,(w.alloc (.cells (snA sa ra rn rc ga gn gc) 25)).alloc (.cells (snA sb ta tn tc ha hn hc) 25)=w2:=⟨_,rfl⟩;have b1:Below rb w (w.alloc (.cells (snA sa ra rn rc ga gn gc) 25)):=by rw [← hrb]; exact (Below.refl _ _).alloc (Nat.le_refl _) _
 have hb2:Below rb w w2:=by rw [← hw2]; exact b1.alloc (by rw [World.size_alloc]; omega) _
 have hs2:w2.heap.size=rb+2:=by rw [← hw2,World.size_alloc,World.size_alloc,hrb]
 have hz1:w2.heap[rb]?=some (.cells (snA sa ra rn rc ga gn gc) 25 (0,0)):=by
  rw [← hw2,Below.heap_alloc _ _ _ (by rw [World.size_alloc]; omega),← hrb];exact heap_alloc_new w _
 have hz2:w2.heap[rb+1]?=some (.cells (snA sb ta tn tc ha hn hc) 25 (0,0)):=by
  have h:=heap_alloc_new (w.alloc (.cells (snA sa ra rn rc ga gn gc) 25)) (.cells (snA sb ta tn tc ha hn hc) 25);rw [World.size_alloc,hw2,hrb] at h;exact h
 have HCk:=hDx (ncheck_any sa ra rn rc ga gn gc w2 (hA.belowAll (by rw [hrb]; exact hb2)) hAB);have HFl:Hid (∀ v,Below rb w v→Calls Tryd.prog 28 #[.agg (snA sb ta tn tc ha hn hc)] v fun e w'=>e=.returned (.bool (decide (FullN sb)))∧Below v.heap.size v w'):=hDx (fun v hb=>full_any sb ta tn tc ha hn hc v (hBi.belowAll (by rw [hrb]; exact hb)) hBB);have HKp:Hid (∀ w4 w5,Below rb w w4→w4.heap[rb]?=some (.cells (snA sa ra rn rc ga gn gc) 25 (0,0))→w4.heap[rb+1]?=some (.cells (snA sb ta tn tc ha hn hc) 25 (0,0))→Below w4.heap.size w4 w5→Below rb w w5∧w5.heap[rb]?=some (.cells (snA sa ra rn rc ga gn gc) 25 (0,0))∧w5.heap[rb+1]?=some (.cells (snA sb ta tn tc ha hn hc) 25 (0,0))):=hDx (fun w4 w5 b h1 h2 hb=>by
  have hlt:=(gSx.1 h1).1;have hlt2:=(gSx.1 h2).1;exact ⟨b.trans (hb.mono (by omega)),(hb.block _ hlt).trans h1,(hb.block _ hlt2).trans h2⟩)
 have HNil:Hid (¬ (MayN sa∧FullN sb)→∀ v,Below rb w v→P (.returned (.string ⟨#[]⟩)) v):=hDx (fun hn v b=>by rw [← hP]; exact ⟨by unfold diffN; rw [if_neg hn],by rw [hrb]; exact b⟩);have HA:=hDx hA;have HAB:=hDx hAB;have HBi:=hDx hBi;have HBB:=hDx hBB;have HT:=hDx hT;have HFew:=hDx hfew;have HL:=hDx hL;have HW2:=hDx hw2;have HRb:=hDx hrb;have HB2:=hDx hb2;have HS2:=hDx hs2;have HZ1:=hDx hz1;have HZ2:=hDx hz2;obtain ⟨c0,c1,c2,c3,c4,c5,c6,c7,c8,c9⟩ := ten_cells hz1;clear hP hA hAB hBi hBB hT hL hfew hrb hw2 b1 hb2 hs2 hz1 hz2;unfold snA at HW2 HCk HFl;unfold snA;by_cases hma:MayN sa
 rotate_left
 · have hck:((chkN sa:Nat):Int)=1:=by unfold chkN; rw [if_neg hma]; rfl
   rw [hck] at HCk;have hend:=hDx (HNil.out (fun h=>hma h.1));clear hck hma;refine callsIn_wide.2 ?_
   go_enter Tryd.func10,Tryd.ntmps10
   go_upto_region 1 with fail
   rw [HW2.out,HRb.out]
   go_wp2_with fail
   refine HCk.out.mono ?_;rintro e w4 ⟨rfl,hb4⟩;obtain ⟨b4,z41,z42⟩ := HKp.out w2 w4 HB2.out HZ1.out HZ2.out hb4;have hfin:=hDx (hend.out w4 b4);clear hb4 b4 z41 z42 c0 c1 c2 c3 c4 c5 c6 c7 c8 c9
   go_wp2_with fail
   exact hfin.out
 have hck:((chkN sa:Nat):Int)=0:=by unfold chkN; rw [if_pos hma]; rfl
 rw [hck] at HCk;clear hck;by_cases hfb:FullN sb
 rotate_left
 · rw [decide_eq_false hfb] at HFl;have hend:=hDx (HNil.out (fun h=>hfb h.2));clear hfb hma;refine callsIn_wide.2 ?_
   go_enter Tryd.func10,Tryd.ntmps10
   go_upto_region 1 with fail
   rw [HW2.out,HRb.out]
   go_wp2_with fail
   refine HCk.out.mono ?_;rintro e w4 ⟨rfl,hb4⟩;obtain ⟨b4,z41,z42⟩ := HKp.out w2 w4 HB2.out HZ1.out HZ2.out hb4;have HF4:=hDx (HFl.out w4 b4);have B4:=hDx b4;have Z41:=hDx z41;have Z42:=hDx z42;clear hb4 b4 c0 c1 c2 c3 c4 c5 c6 c7 c8 c9;obtain ⟨c0,c1,c2,c3,c4,c5,c6,c7,c8,c9⟩ := ten_cells z42;clear z41 z42
   go_wp2_with fail
   refine HF4.out.mono ?_;rintro e w5 ⟨rfl,hb5⟩;have hfin:=hDx (hend.out w5 (HKp.out w4 w5 B4.out Z41.out Z42.out hb5).1);clear hb5 c0 c1 c2 c3 c4 c5 c6 c7 c8 c9
   go_wp2_with fail
   exact hfin.out
 rw [decide_eq_true hfb] at HFl;have hdn:diffN sa sb=rawD ((Go.Proofs.YtagolklnjhpbdaaDoor.S.sumOf (packN sa):Nat):Int) sb (difL sa 0 sb.R):=by unfold diffN; rw [if_pos ⟨hma,hfb⟩]
 obtain ⟨hst,hct,hsh,hbg⟩ := hfb.1.resolve_left hfb.2;obtain ⟨us,hU,hV,-⟩ := HBi.out.rows.ex;obtain ⟨cs,hcs⟩ : ∃ cs:List (ItD (fun r=>AllC okC r.l∧(packR r).length≤L) w),cs.map Subtype.val=difZ sa 0 sb.R us:=dif_all hV HBB.out (fun x hx=>⟨fun c hc=>(hsh.2 x.2 (difL_mem sa _ _ x hx)).2 c hc,HL.out x hx⟩);have hcl:cs.map prD=difL sa 0 sb.R:=by
  rw [← difZ_L sa sb.R us 0 hV.1,← hcs,List.map_map]
  rfl
 have hcn:(difL sa 0 sb.R).length=cs.length:=by rw [← hcl,List.length_map]
 have HBd:Hid (sb.t.size≤200∧sb.B.length≤1024):=hDx ⟨hct.2.2.2,hbg.2⟩;have HRng:Hid (RngG sb.B):=hDx HBB.out.brng;have HGn:Hid (hn≤1024):=hDx (by rw [HBi.out.beg.len]; exact hbg.2);have hfew:=HFew.out;rw [hcn] at hfew;have HCn:Hid (cs.length*(9+L)≤900000):=hDx hfew;have HDn:=hDx hdn;have HU:=hDx hU;have HV:=hDx hV;have HCs:=hDx hcs;have HCl:=hDx hcl;have HLn:=hDx hcn;clear hdn hst hct hsh hbg hU hV hcs hcl hcn hfew hma hfb;rw [← HW2.out,← HRb.out] at c0 c1 c2 c3 c4 c5 c6 c7 c8 c9;refine callsIn_of_wp_marks Tryd.func10 rfl trivial ?_ rfl;simp only [Tryd.ntmps10,List.size_toArray,List.length_cons,List.length_nil,Nat.reduceAdd,Nat.reduceSub,Array.replicate_succ,Array.replicate_zero,List.push_toArray,List.append_toArray,List.nil_append,List.cons_append]
 gi_wp2_with fail
 refine ⟨by first | trivial | omega,?_⟩;clear c0 c1 c2 c3 c4 c5 c6 c7 c8 c9;rw [HW2.out,HRb.out];refine (callsIn_wide.2 HCk.out).mono ?_;rintro e w4 ⟨rfl,hb4⟩;obtain ⟨b4,z41,z42⟩ := HKp.out w2 w4 HB2.out HZ1.out HZ2.out hb4;have HF4:=hDx (HFl.out w4 b4);have B4:=hDx b4;have Z41:=hDx z41;have Z42:=hDx z42;clear hb4 b4;obtain ⟨c0,c1,c2,c3,c4,c5,c6,c7,c8,c9⟩ := ten_cells z42;clear z41 z42
 gi_wp2_with fail
 refine ⟨by first | trivial | omega,?_⟩;clear c0 c1 c2 c3 c4 c5 c6 c7 c8 c9;refine (callsIn_wide.2 HF4.out).mono ?_;rintro e w5 ⟨rfl,hb5⟩;obtain ⟨b5,z51,z52⟩ := HKp.out w4 w5 B4.out Z41.out Z42.out hb5;have hs45:w4.heap.size≤w5.heap.size:=hb5.size;have hlt5:rb+1<w5.heap.size:=(gSx.1 z52).1;obtain ⟨o,ho⟩ : ∃ o,w5.heap.size=o:=⟨_,rfl⟩;obtain ⟨w6,hw6⟩ : ∃ w6,((w5.alloc (.cells #[.slice none 0 0] 68)).alloc (.cells #[.slice none 0 0] 68)).alloc (.cells #[.int .i64 0] 3)=w6:=⟨_,rfl⟩;have hO1:=Go.Proofs.YtagolklnjhpbdaaDoor.I.out_new rb (w5.alloc (.cells #[.slice none 0 0] 68));have hb6:Below w5.heap.size w5 w6:=by
  rw [← hw6];exact (((Below.refl _ _).alloc (Nat.le_refl _) _).alloc (by rw [World.size_alloc]; omega) _).alloc (by rw [World.size_alloc,World.size_alloc]; omega) _
 have hs6:w6.heap.size=o+3:=by rw [← hw6,World.size_alloc,World.size_alloc,World.size_alloc,ho]
 have hout6:Boxed w6 o 68 (.slice none 0 0):=by
  rw [← hw6,← ho];exact ((Boxed.new w5 68 _).alloc _).alloc _
 have hrows6:OutAt rb (o+1) [] w6:=by
  rw [← hw6,← ho];rw [World.size_alloc] at hO1;exact hO1.alloc _
 have hcnt6:Boxed w6 (o+2) 3 (.int .i64 ((0:Nat):Int)):=by
  have h:=Boxed.new ((w5.alloc (.cells #[.slice none 0 0] 68)).alloc (.cells #[.slice none 0 0] 68)) 3 (.int .i64 0);rw [hw6,World.size_alloc,World.size_alloc,ho] at h;exact h
 have z61:=(hb6.block _ (by omega)).trans z51;have z62:=(hb6.block _ (by omega)).trans z52;have hI6:DfI rb o sa sb ra rn rc ga gn gc ta tn tc ha hn hc w [] 0 w6:=⟨hout6,hrows6,hcnt6,z61,z62,b5.trans (hb6.mono (by omega))⟩;have HDf:=hDx (dif_any sa sb ra rn rc ga gn gc ta tn tc ha hn hc w6);have HI6:=hDx hI6;have HS6:=hDx hs6;have HOo:=hDx ho;have HLo:Hid (rb+1<o):=hDx (by omega);obtain ⟨a0,a1,a2,a3,a4,a5,a6,a7,a8,a9⟩ := ten_cells z61;obtain ⟨d0,d1,d2,d3,d4,d5,d6,d7,d8,d9⟩ := ten_cells z62;have HW6:=hDx hw6;clear hO1 hb5 hb6 hs6 hout6 hrows6 hcnt6 z61 z62 z51 z52 hI6 b5 hs45 hlt5 hw6 ho;rw [← HW6.out] at a0 a1 a2 a3 a4 a5 a6 a7 a8 a9 d0 d1 d2 d3 d4 d5 d6 d7 d8 d9;unfold snA at HDf
 gi_wp2_with fail
 refine ⟨by first | trivial | omega,?_⟩;clear a0 a1 a2 a3 a4 a5 a6 a7 a8 a9 d0 d1 d2 d3 d4 d5 d6 d7 d8 d9;rw [HW6.out,HOo.out];refine (callsIn_wide.2 HDf.out).mono ?_;rintro e w7 ⟨rfl,hb7,hs7,hz7,hz8⟩;have hI7:=HI6.out.below hb7;have hb07:Below rb w w7:=hI7.b;have HS7:Hid (w7.heap.size=o+5∧w6.heap.size=o+3):=hDx ⟨by rw [hs7,HS6.out],HS6.out⟩;have HL7:Hid (DfAt sa sb ra rn rc ga gn gc ta tn tc ha hn hc w w6.heap.size (w6.heap.size+1) w7):=hDx ⟨by rw [HRb.out]; exact hb07,by unfold snA; exact hz7,by unfold snA; exact hz8⟩;have HI7:=hDx hI7;clear hI7 hb07 hb7 hs7 hz7 hz8 HI6 HDf HW6 HKp HFl HF4 HZ1 HZ2 Z41 Z42 B4 HCk HNil
 gi_wp2_with fail
 refine wpIn_rangeFunc_ownH rfl h1n (gf:=64) (lb:=#[.pointer (some ⟨w6.heap.size+1,0,none⟩),.pointer (some ⟨w6.heap.size,0,none⟩)]) rfl trivial (enters_of Tryd.func64 (by kernel_rfl) rfl)
   (dif_stops (n - 1) (by omega) sa sb ra rn rc ga gn gc ta tn tc ha hn hc us w w6.heap.size (w6.heap.size+1) HA.out HAB.out HU.out HV.out HBB.out cs HCs.out w7 HL7.out) (fun h1 h2=>KpD.trans h1 h2) ?hKb (Below.refl _ _) (fun _=>rfl)
   (fun pre V=>DfI rb o sa sb ra rn rc ga gn gc ta tn tc ha hn hc w (rowsD (pre.map prD)) pre.length V∧DfK w6.heap.size (w6.heap.size+1) w7.heap.size sa sb ra rn rc ga gn gc ta tn tc ha hn hc V)
   (fun _ _ _=>False)
   (OwnFrom.and (DfI.own (fun pre=>rowsD (pre.map prD)) (by have:=HS7.out; have:=HLo.out; omega)) DfK.own)
   (fun _ _ _ _ _ hs _ _=>hs)
   ⟨HI7.out,Nat.le_refl _,HL7.out.2.1,HL7.out.2.2⟩
   (fun x a' V=>∃ Bx,V.heap[Bx]?=some (.cells (rvC x.1.2.1) 57 (0,0))∧a'={ tmps:=#[.agg #[.int .i64 sa.k,.int .i64 sa.w,.int .i64 sa.h,.int .i64 sa.x,.int .i64 sa.y,.string sa.t,.slice ra rn rc,.int .i64 sa.n,.int .i64 sa.c,.slice ga gn gc],.agg #[.int .i64 sb.k,.int .i64 sb.w,.int .i64 sb.h,.int .i64 sb.x,.int .i64 sb.y,.string sb.t,.slice ta tn tc,.int .i64 sb.n,.int .i64 sb.c,.slice ha hn hc],.pointer (some ⟨rb,0,none⟩),.pointer (some ⟨rb+1,0,none⟩),.string ⟨#[]⟩,.pointer (some ⟨o,0,none⟩),.pointer (some ⟨o+1,0,none⟩),.pointer (some ⟨o+1+1,0,none⟩),.int .i64 (x.1.1:Int),.pointer (some ⟨Bx,0,none⟩),.agg #[.int .i64 sa.k,.int .i64 sa.w,.int .i64 sa.h,.int .i64 sa.x,.int .i64 sa.y,.string sa.t,.slice ra rn rc,.int .i64 sa.n,.int .i64 sa.c,.slice ga gn gc],.int .i64 0,.bool false,.bool false,.agg #[.int .i64 sb.k,.int .i64 sb.w,.int .i64 sb.h,.int .i64 sb.x,.int .i64 sb.y,.string sb.t,.slice ta tn tc,.int .i64 sb.n,.int .i64 sb.c,.slice ha hn hc],.bool true,.bool false,.bool false,.agg #[.int .i64 sa.k,.int .i64 sa.w,.int .i64 sa.h,.int .i64 sa.x,.int .i64 sa.y,.string sa.t,.slice ra rn rc,.int .i64 sa.n,.int .i64 sa.c,.slice ga gn gc],.agg #[.int .i64 sb.k,.int .i64 sb.w,.int .i64 sb.h,.int .i64 sb.x,.int .i64 sb.y,.string sb.t,.slice ta tn tc,.int .i64 sb.n,.int .i64 sb.c,.slice ha hn hc],.func (.func 64) #[] #[.pointer (some ⟨w6.heap.size+1,0,none⟩),.pointer (some ⟨w6.heap.size,0,none⟩)],.int .i64 (x.1.1:Int),x.1.2.1.val,undef,undef,undef,undef,undef,undef,undef,undef,undef,undef,undef,undef,undef,undef,undef,undef,undef,undef,undef,undef,undef,undef,undef,undef,undef,undef,undef,undef,undef,undef,undef,undef,undef,undef,undef,undef,undef,undef,undef,undef,undef,undef,undef,undef,undef],defers:=[] })
   (fun x a' s X Y row hs hg hr=>by
    obtain ⟨Bx,hb2,hb3⟩ := hs;refine ⟨Bx,(hg.block Bx (gSx.1 hb2).1 (fun e=>?_)).trans hb2,hb3⟩;obtain ⟨_,o,ho,hc⟩ := hr Bx e.symm;rw [hb2] at ho;cases ho;cases hc)
   ?assign ?body ?done ?stop
 case hKb =>
  intro V l o1 o' hl ho hc1 hc2;have hsz:=HS7.out;exact ⟨belowK_b (w:=w7) (by have:=HLo.out; have:=HRb.out; omega) V l o1 o' hl ho hc1 hc2,by simp,World.putObj_heap_other (by omega),World.putObj_heap_other (by omega)⟩
 case assign =>
  rintro l pre x V K ⟨hI,hJ⟩ hK;have hs7:=HS7.out;have hsz:=hJ.1;obtain ⟨⟨y,⟨xa,xn,xc,xb⟩,r⟩,hx⟩ := x;have hba:Below V.heap.size V (V.alloc (.cells #[.slice xa xn xc,.bool xb] 57)):=(Below.refl _ _).alloc (Nat.le_refl _) _;have hK':=hK _ _ ((keepsOthers_below hba).from _) (KpD.of_below hba (by have:=HLo.out; have:=HRb.out; omega) (by omega) (by omega)) ⟨hI.below hba,hJ.below hba⟩ ⟨V.heap.size,heap_alloc_new V _,rfl⟩;simp only [Rv.val] at hK';have HK:=hDx hK';unfold encD Rv.val;simp only;clear hK hK' hba hI hJ hsz hs7
  gi_wp2
  exact HK.out
 case body =>
  rintro l pre x a' V hls hlr ⟨hI,hJ⟩ ⟨Bx,hBx,rfl⟩ hltp;clear hls hlr;have hs7:=HS7.out;have hsz:=hJ.1;have hsn:rowsD ((pre++[x]).map prD)=(rowsD (pre.map prD)++numB (x.1.1:Int))++packR x.1.2.2:=by
   rw [List.map_append,List.map_cons,List.map_nil,rowsD_snoc,List.append_assoc]
   rfl
  obtain ⟨⟨y,⟨xa,xn,xc,xb⟩,r⟩,hrv,hrl,hrr,hy,hok,hrp⟩ := x;simp only [rvC,Rv.val] at hBx hsn ⊢;have hRv0:=hrv;have hok0:=hok;have hrp0:=hrp;simp only [Rv.val] at hRv0 hok0 hrp0;have hrl0:r.l.length≤1000:=hrl;have hnx:Bx≠o+1:=fun e=>by
   obtain ⟨v,h1,-⟩ := hI.rows;rw [e,show V.heap[o+1]?=_ from h1] at hBx;cases hBx
  have hbase:rb≤V.heap.size:=by have:=HLo.out; omega
  have hRv:RowV .i32 (.agg #[.slice xa xn xc,.bool xb]) r w:=hRv0;have HPR:Hid (∀ v,Below rb w v→Calls Tryd.prog 32 #[.agg #[.slice xa xn xc,.bool xb]] v fun e w'=>e=.returned (.string ⟨(packR r).toArray⟩)∧Below v.heap.size v w'):=hDx (fun v hb=>packRow_any xa xn xc xb r v (hRv.belowAll (by rw [HRb.out]; exact hb)) hok0 (by have:=hRv.of.2.2.2.2.2; omega));have hbl:(rowsD (pre.map prD)).length+9+L≤900000:=by
   have h1:=rowsD_len (L:=L) (pre.map prD) (fun q hq=>by
    obtain ⟨z,-,rfl⟩ := List.mem_map.1 hq;exact z.2.2.2.2.2.2)
   rw [List.length_map] at h1;have h2:(pre.length+1)*(9+L)≤cs.length*(9+L):=Nat.mul_le_mul_right _ hltp;have h3:=HCn.out;rw [Nat.add_mul,Nat.one_mul] at h2;omega
  have HRl:Hid ((packR r).length≤L):=hDx hrp0;have HSt0:Hid (RwSt rb o V Bx #[.slice xa xn xc,.bool xb] (rowsD (pre.map prD)) V):=hDx ⟨hI.rows,hBx,Keeps.refl _ _,Below.refl _ _⟩;have HSn:=hDx hsn;have HI:=hDx hI;have HJ:=hDx hJ;have HNx:=hDx hnx;have HBs:=hDx hbase;have HOb:Hid (∀ ob,V.heap[o+1]?=some ob→ob.isCells=true):=hDx (fun ob ho=>by
   obtain ⟨v,h1,-⟩ := hI.rows;rw [show V.heap[o+1]?=_ from h1] at ho;cases ho
   rfl)
  have hpt:(pre.length:Int)≤1000000:=by
   have h1:pre.length*9≤cs.length*(9+L):=Nat.mul_le_mul (Nat.le_of_lt hltp) (by omega);have h2:=HCn.out;omega
  have HPt:=hDx hpt;obtain ⟨bs,hbs⟩ : ∃ bs,rowsD (pre.map prD)=bs:=⟨_,rfl⟩;rw [hbs] at HSt0 HSn hbl HI;have HBl:=hDx hbl;clear hsn hI hJ hsz hRv0 hok0 hrp0 hrl0 hnx hbase hbl hltp hBx hbs hRv hpt hs7
  gi_wp2_with fail
  refine Go.Proofs.YtagolklnjhpbdaaDoor.I.wpIn_region_rel (by kernel_rfl) (RwC rb o V Bx #[.slice xa xn xc,.bool xb] bs (y:Int) r) (RwOk o (y:Int) (.agg #[.slice xa xn xc,.bool xb]) ⟨(packR r).toArray⟩) (by rfl) (by kernel_rfl) (by kernel_rfl) ?hop ?hdone ?h0
  case h0=>exact ⟨0,rfl,rfl,HSt0.out.below HBs.out ((Below.refl _ _).drew)⟩
  case hop =>
   refine ⟨?_,?_,?_,?_,?_,?_,?_,trivial⟩
   · intro listed z1 v1 hC hlsz hun hdl hag hdep;refine .inl ⟨rfl,fun K hK=>?_⟩;have d8:z1.tmps.getD 8 undef=.int .i64 (y:Int):=hag.2.2 8 (by kernel_rfl);have e8:=gEx d8;have HC:=hDx hC;clear hC hdep hag hdl;go_simp;exact hK _ _ (HC.out.below (Nat.le_trans HBs.out HC.out.size) (Below.refl _ _) (by omega) (by omega)) (fun _ _ _ _ h=>h) rfl
   · intro listed z1 v1 hC hlsz hun hdl hag hdep;refine .inl ⟨rfl,fun K hK=>?_⟩;have d23:z1.tmps.getD 23 undef=.int .i64 (y:Int):=hdep ⟨0,.data⟩ (by simp) rfl _ _ rfl rfl;have e23:=gEx d23;have hb:Below v1.heap.size v1 (v1.alloc (.cells #[.int .i64 (y:Int)] 3)):=(Below.refl _ _).alloc (Nat.le_refl _) _;have HB:=hDx hb;have HC:=hDx hC;clear hC hdep hag hdl hb;go_simp;exact hK _ _ (HC.out.below (Nat.le_trans HBs.out HC.out.size) HB.out (by omega) (by omega)) (fun j u _ _ h=>RwOk.keep (keeps_below HB.out) j u h) ⟨v1.heap.size,rfl,(by have:=HC.out.lt; omega),heap_alloc_new v1 _⟩
   · intro listed z1 v1 hC hlsz hun hdl hag hdep;refine .inl ⟨rfl,fun K hK=>?_⟩;have d6:z1.tmps.getD 6 undef=.pointer (some ⟨o+1,0,none⟩):=hag.2.2 6 (by kernel_rfl);have e6:=gEx d6;obtain ⟨X,d24,hX1,hX2⟩ := hdep ⟨1,.data⟩ (by simp) rfl _ _ rfl rfl;have e24:=gEx d24;have hst:=(hC.zero hun).1;have hr1:rb≤v1.heap.size:=Nat.le_trans HBs.out hC.size;have HCC:=hDx (Go.Proofs.YtagolklnjhpbdaaDoor.I.num_any rb (o+1) X 0 1 [(y:Int)] bs v1 (by have:=HBl.out; simp; omega) (by have:=HLo.out; omega) hst.ot (fun w' _ hk i hi=>by
      rw [cell_block (hk.block X _ hX2 hX1 (fun cur fr e=>by injection e with _ e2; revert e2; decide))]
      match i,hi with
      | 0,_=>rfl
      | i+1,hi=>simp at hi) hr1)
     have HC:=hDx hC;have HSt:=hDx hst;clear hC hdep hag hdl hst hr1;go_simp;refine ⟨trivial,fun _=>by omega,(CallsIn.inRound l (callsIn_wide.2 HCC.out)).mono ?_⟩;rintro e V2 ⟨rfl,hO',hb',hk'⟩;exact hK _ _ (HC.out.step2 hun hlsz (HSt.out.wrote (by simpa [numsOf,numB] using hO') hb' hk' HNx.out)) (fun j u _ _ h=>RwOk.keep hk' j u h) rfl
   · intro listed z1 v1 hC hlsz hun hdl hag hdep;refine .inl ⟨rfl,fun K hK=>?_⟩;have d9:z1.tmps.getD 9 undef=.pointer (some ⟨Bx,0,none⟩):=hag.2.2 9 (by kernel_rfl);have e9:=gEx d9;have k0:v1.cell? ⟨Bx,0,none⟩=some (.slice xa xn xc):=by rw [cell_block hC.bx]; rfl
     have k1:v1.cell? ⟨Bx,1,none⟩=some (.bool xb):=by rw [cell_block hC.bx]; rfl
     have HC:=hDx hC;clear hC hdep hag hdl;go_simp;exact hK _ _ (HC.out.below (Nat.le_trans HBs.out HC.out.size) (Below.refl _ _) (by omega) (by omega)) (fun _ _ _ _ h=>h) rfl
   · intro listed z1 v1 hC hlsz hun hdl hag hdep;refine .inl ⟨rfl,fun K hK=>?_⟩;have d26:z1.tmps.getD 26 undef=.agg #[.slice xa xn xc,.bool xb]:=hdep ⟨3,.data⟩ (by simp) rfl _ _ rfl rfl;have e26:=gEx d26;have HCC:=hDx (HPR.out v1 (HI.out.b.trans hC.b));have HC:=hDx hC;clear hC hdep hag hdl;go_simp;refine ⟨trivial,fun _=>by omega,(CallsIn.inRound l (callsIn_wide.2 HCC.out)).mono ?_⟩;rintro e V2 ⟨rfl,hb'⟩;exact hK _ _ (HC.out.below (Nat.le_trans HBs.out HC.out.size) hb' (by omega) (by omega)) (fun j u _ _ h=>RwOk.keep (keeps_below hb') j u h) rfl
   · intro listed z1 v1 hC hlsz hun hdl hag hdep;refine .inl ⟨rfl,fun K hK=>?_⟩;have d27:z1.tmps.getD 27 undef=.string ⟨(packR r).toArray⟩ := hdep ⟨4,.data⟩ (by simp) rfl _ _ rfl rfl;have e27:=gEx d27;have hb:Below v1.heap.size v1 (v1.alloc (.cells #[.string ⟨(packR r).toArray⟩] 9)):=(Below.refl _ _).alloc (Nat.le_refl _) _;have HB:=hDx hb;have HC:=hDx hC;clear hC hdep hag hdl hb;go_simp;exact hK _ _ (HC.out.below (Nat.le_trans HBs.out HC.out.size) HB.out (by omega) (by omega)) (fun j u _ _ h=>RwOk.keep (keeps_below HB.out) j u h) ⟨v1.heap.size,rfl,(by have:=HC.out.lt; omega),heap_alloc_new v1 _⟩
   · intro listed z1 v1 hC hlsz hun hdl hag hdep;refine .inl ⟨rfl,fun K hK=>?_⟩;have d25:z1.tmps.getD 25 undef=.pointer (some ⟨o+1,0,none⟩):=hdep ⟨2,.data⟩ (by simp) rfl _ _ rfl rfl;have e25:=gEx d25;obtain ⟨X,d28,hX1,hX2⟩ := hdep ⟨5,.data⟩ (by simp) rfl _ _ rfl rfl;have e28:=gEx d28;have h2:listed.getD 2 false=true:=hdl ⟨2,.data⟩ (by simp) rfl;have hst:=hC.one hun h2;have hr1:rb≤v1.heap.size:=Nat.le_trans HBs.out hC.size;have HCC:=hDx (Go.Proofs.YtagolklnjhpbdaaDoor.I.raw_any rb (o+1) X 0 1 [⟨(packR r).toArray⟩] (bs++numB (y:Int)) v1 (by simp) (fun j hj=>by
      have h1:=HBl.out;have h2:=numB_len (y:Int);have h3:=HRl.out
      match j,hj with
      | 0,_=>simp [bytesOf]; omega
      | 1,_=>simp [bytesOf]; omega
      | j+2,hj=>simp at hj) (by have:=HLo.out; omega) hst.ot (fun w' _ hk i hi=>by
      rw [cell_block (hk.block X _ hX2 hX1 (fun cur fr e=>by injection e with _ e2; revert e2; decide))]
      match i,hi with
      | 0,_=>rfl
      | i+1,hi=>simp at hi) hr1)
     have HC:=hDx hC;have HSt:=hDx hst;clear hC hdep hag hdl hst hr1;go_simp;refine ⟨trivial,fun _=>by omega,(CallsIn.inRound l (callsIn_wide.2 HCC.out)).mono ?_⟩;rintro e V2 ⟨rfl,hO',hb',hk'⟩;exact hK _ _ (RwC.step6 (v:=v1) hlsz h2 (HSt.out.wrote (by simpa [bytesOf] using hO') hb' hk' HNx.out)) (fun j u _ _ h=>RwOk.keep hk' j u h) True.intro
  case hdone =>
   intro listed z v hC hall hag hok9;have H5:=hDx (hC.all (hall 6 (by decide)));clear hC hall;obtain ⟨uu,hu,hzz⟩ := agree_frame [23,24,25,26,27,28,29] rfl hag;subst hzz;simp only [List.foldl_cons,List.foldl_nil];clear hu hag hok9
   try dsimp only [Exit.then]
   simp only [List.setIfInBounds_toArray,List.set_cons_succ,List.set_cons_zero];generalize uu 23=u23',uu 24=u24',uu 25=u25',uu 26=u26',uu 27=u27',uu 28=u28',uu 29=u29';clear uu;rename_i K hK;refine hK _ _ ?_;have hI8:=HI.out.wrote HLo.out H5.out.ot H5.out.b H5.out.k;have hJ8:=HJ.out.kept H5.out.k (by have:=HS7.out; omega) (by have:=HS7.out; omega);have hKO:=keepsOthers_of H5.out.k HOb.out;have hc8:v.cell? ⟨o+1+1,0,none⟩=some (.int .i64 (pre.length:Int)):=hI8.cnt.cell;have hf8:v.frozen? ⟨o+1+1,0,none⟩=false:=hI8.cnt.frozen;have hp8:=HPt.out;have HI8:=hDx hI8;have HJ8:=hDx hJ8;have HKO:=hDx hKO;clear hI8 hJ8 hKO
   gi_wp2_with fail
   have hs7:=HS7.out;have hls:=(KeepsWalks.setCell v ⟨o+1+1,0,none⟩ (.int .i64 ((pre.length:Int)+1))).size;have hI9:=HI8.out.count (m2:=pre.length+1) HLo.out;have hJ9:=HJ8.out.set (b:=o+1+1) (by omega) (by omega) (.int .i64 ((pre.length:Int)+1));refine ⟨((HKO.out.trans (KeepsOthers.setCell _ _ _))).from _,⟨(H5.out.b.setCell (p:=⟨o+1+1,0,none⟩) (by have:=HLo.out; show rb≤o+1+1; omega) _).mono (by rw [HRb.out]; exact Nat.le_refl _),Nat.le_trans H5.out.k.size hls,hJ9.2.1.trans HJ.out.2.1.symm,hJ9.2.2.trans HJ.out.2.2.symm⟩,?_,hJ9⟩;rw [HSn.out,List.length_append];exact hI9
 case done =>
  rintro D ys V hD hS ⟨hI,hJ⟩ hK;subst hS;have hs7:=HS7.out;have hsz:=hJ.1;obtain ⟨b2,hb2e⟩ : ∃ b2,V.heap.size=b2:=⟨_,rfl⟩;obtain ⟨W1,hW1⟩ : ∃ W1,V=W1:=⟨_,rfl⟩;obtain ⟨Sm,hSm⟩ : ∃ Sm:Int,((Go.Proofs.YtagolklnjhpbdaaDoor.S.sumOf (packN sa):Nat):Int)=Sm:=⟨_,rfl⟩;rw [hSm] at HDn;have HBel:Hid (∀ v,BelowE b2 o W1 v→Below rb w v):=hDx (fun v h=>by
   rw [← hW1] at h;exact hI.b.trans (h.below (by have:=HLo.out; omega) (by have:=HLo.out; omega)))
  have HSu:Hid (∀ v,BelowE b2 o W1 v→Calls Tryd.prog 33 #[.agg (snA sa ra rn rc ga gn gc)] v fun e w'=>e=.returned (.int .i64 Sm)∧Below v.heap.size v w'):=hDx (fun v h=>by
   rw [← hSm];exact nsum_any sa ra rn rc ga gn gc v (HA.out.belowAll (by rw [HRb.out]; exact HBel.out v h)) HAB.out (Go.Proofs.YtagolklnjhpbdaaDoor.S.tab_of HT.out (by rw [HRb.out]; exact HBel.out v h)))
  have HBeg:Hid (∀ v,BelowE b2 o W1 v→PairsIn .i32 ha hn hc sb.B v):=hDx (fun v h=>HBi.out.beg.belowAll (by rw [HRb.out]; exact HBel.out v h));unfold snA at HSu;have HZA:Hid (W1.heap[rb]?=some (.cells (snA sa ra rn rc ga gn gc) 25 (0,0))):=hDx (by rw [← hW1]; exact hI.ba);have HZB:Hid (W1.heap[rb+1]?=some (.cells (snA sb ta tn tc ha hn hc) 25 (0,0))):=hDx (by rw [← hW1]; exact hI.bb);have HLo:Hid (rb+1<o∧o+5≤b2):=hDx ⟨HLo.out,by omega⟩;have HP0:Hid (DgSt b2 o Sm sb W1 0 V):=hDx ⟨⟨_,hI.out,World.ownsRow_nil _ _ _ _⟩,by rw [hW1]; exact BelowE.refl _ _ _,by omega⟩;have hle:(ys.length:Int)≤1000000:=by
   have h1:ys.length*9≤ys.length*(9+L):=Nat.mul_le_mul_left _ (by omega);have h2:=HCn.out;omega
  have HRwl:Hid ((rowsD (ys.map prD)).length≤900000):=hDx (by
   have h1:=rowsD_len (L:=L) (ys.map prD) (fun q hq=>by
    obtain ⟨z,-,rfl⟩ := List.mem_map.1 hq;exact z.2.2.2.2.2.2)
   rw [List.length_map] at h1;exact Nat.le_trans h1 HCn.out)
  have HRow:Hid (∀ v,BelowE b2 o W1 v→OutAt rb (o+1) (rowsD (ys.map prD)) v∧Boxed v (o+2) 3 (.int .i64 (ys.length:Int))∧v.heap[D]?=some (.deferred (some []))):=hDx (fun v h=>by
   rw [← hW1,← hb2e] at h;exact ⟨outAt_belowE hI.rows hI.out h,(h.block _ hI.cnt.lt (by omega)).trans hI.cnt,(h.block _ (gSx.1 hK).1 (by omega)).trans hK⟩)
  have HD:=hDx hD;have HLe:=hDx hle;have HB2e:=hDx hb2e;clear hI hJ hK hD hsz hs7 hb2e hW1 hSm hle
  gi_wp2_with fail
  rw [wpIn_wide];refine wp_region_due [13,17,23,28] [0,0,0,0,0,0,0,0,0,0,0,0,0,1,1,1,1,2,2,2,2,2,2,3,3,3,3,3,4] (by kernel_rfl) (fun k _ u=>DgSt b2 o Sm sb W1 k u) (fun u v=>Keeps o u v) (DgOk rb o Sm sa sb ra rn rc ga gn gc ta tn tc ha hn hc) (by rfl) (by kernel_rfl) (by kernel_rfl) (by kernel_rfl) (by kernel_rfl) ?hcong ?hOk ?hop ?hdone ?h0
  case hcong=>exact fun k f f2 u hs hst=>hst
  case hOk=>intro i u w3 w4 h hr; unfold DgOk at h ⊢; split <;> first | exact True.intro | exact h | (obtain ⟨X,e,hn,hc⟩ := h; exact ⟨X,e,hn,hr.block X _ hc hn (fun cur fr e=>by injection e with _ e2; revert e2; decide)⟩)
  case h0=>exact HP0.out.below ((Below.refl _ _).drew)
  case hop =>
   refine ⟨?_,?_,?_,?_,?_,?_,?_,?_,?_,?_,?_,?_,?_,?_,?_,?_,?_,?_,?_,?_,?_,?_,?_,?_,?_,?_,?_,?_,?_,trivial⟩
   · intro k z v hk hst hag hdep;refine .inl ⟨rfl,fun K hK=>?_⟩;have d2:z.tmps.getD 2 undef=.pointer (some ⟨rb,0,none⟩):=hag.2.2 2 (by kernel_rfl);have e2:=gEx d2;have h0:DgSt b2 o Sm sb W1 k v:=hst;obtain ⟨l0,l1,l2,l3,l4,l5,l6,l7,l8,l9⟩ := ten_cells (h0.at_ HZA.out (by have:=HLo.out; omega) (by have:=HLo.out; omega));have HSt:=hDx hst;clear hdep hag hst;go_simp;exact hK _ _ (Keeps.refl _ _) rfl HSt.out
   · intro k z v hk hst hag hdep;refine .inl ⟨rfl,fun K hK=>?_⟩;have d32:z.tmps.getD 32 undef=.agg #[.int .i64 sa.k,.int .i64 sa.w,.int .i64 sa.h,.int .i64 sa.x,.int .i64 sa.y,.string sa.t,.slice ra rn rc,.int .i64 sa.n,.int .i64 sa.c,.slice ga gn gc]:=hdep ⟨0,.data⟩ (by simp) rfl _ _ rfl rfl;have e32:=gEx d32;have h0:DgSt b2 o Sm sb W1 k v:=hst;have HC:=hDx (HSu.out v h0.e);have HSt:=hDx h0;clear hdep hag hst h0;go_simp;refine HC.out.mono ?_;rintro e w' ⟨rfl,hbq⟩;exact hK _ _ (keeps_below hbq) rfl (HSt.out.below hbq)
   · intro k z v hk hst hag hdep;refine .inl ⟨rfl,fun K hK=>?_⟩;have d3:z.tmps.getD 3 undef=.pointer (some ⟨rb+1,0,none⟩):=hag.2.2 3 (by kernel_rfl);have e3:=gEx d3;have HSt:=hDx hst;clear hdep hag hst;go_simp;exact hK _ _ (Keeps.refl _ _) rfl HSt.out
   · intro k z v hk hst hag hdep;refine .inl ⟨rfl,fun K hK=>?_⟩;have d34:z.tmps.getD 34 undef=.pointer (some ⟨rb+1,0,none⟩):=hdep ⟨2,.data⟩ (by simp) rfl _ _ rfl rfl;have e34:=gEx d34;have h0:DgSt b2 o Sm sb W1 k v:=hst;obtain ⟨l0,l1,l2,l3,l4,l5,l6,l7,l8,l9⟩ := ten_cells (h0.at_ HZB.out (by have:=HLo.out; omega) (by have:=HLo.out; omega));have HSt:=hDx hst;clear hdep hag hst;go_simp;exact hK _ _ (Keeps.refl _ _) rfl HSt.out
   · intro k z v hk hst hag hdep;refine .inl ⟨rfl,fun K hK=>?_⟩;have d3:z.tmps.getD 3 undef=.pointer (some ⟨rb+1,0,none⟩):=hag.2.2 3 (by kernel_rfl);have e3:=gEx d3;have HSt:=hDx hst;clear hdep hag hst;go_simp;exact hK _ _ (Keeps.refl _ _) rfl HSt.out
   · intro k z v hk hst hag hdep;refine .inl ⟨rfl,fun K hK=>?_⟩;have d36:z.tmps.getD 36 undef=.pointer (some ⟨rb+1,1,none⟩):=hdep ⟨4,.data⟩ (by simp) rfl _ _ rfl rfl;have e36:=gEx d36;have h0:DgSt b2 o Sm sb W1 k v:=hst;obtain ⟨l0,l1,l2,l3,l4,l5,l6,l7,l8,l9⟩ := ten_cells (h0.at_ HZB.out (by have:=HLo.out; omega) (by have:=HLo.out; omega));have HSt:=hDx hst;clear hdep hag hst;go_simp;exact hK _ _ (Keeps.refl _ _) rfl HSt.out
   · intro k z v hk hst hag hdep;refine .inl ⟨rfl,fun K hK=>?_⟩;have d3:z.tmps.getD 3 undef=.pointer (some ⟨rb+1,0,none⟩):=hag.2.2 3 (by kernel_rfl);have e3:=gEx d3;have HSt:=hDx hst;clear hdep hag hst;go_simp;exact hK _ _ (Keeps.refl _ _) rfl HSt.out
   · intro k z v hk hst hag hdep;refine .inl ⟨rfl,fun K hK=>?_⟩;have d38:z.tmps.getD 38 undef=.pointer (some ⟨rb+1,2,none⟩):=hdep ⟨6,.data⟩ (by simp) rfl _ _ rfl rfl;have e38:=gEx d38;have h0:DgSt b2 o Sm sb W1 k v:=hst;obtain ⟨l0,l1,l2,l3,l4,l5,l6,l7,l8,l9⟩ := ten_cells (h0.at_ HZB.out (by have:=HLo.out; omega) (by have:=HLo.out; omega));have HSt:=hDx hst;clear hdep hag hst;go_simp;exact hK _ _ (Keeps.refl _ _) rfl HSt.out
   · intro k z v hk hst hag hdep;refine .inl ⟨rfl,fun K hK=>?_⟩;have d3:z.tmps.getD 3 undef=.pointer (some ⟨rb+1,0,none⟩):=hag.2.2 3 (by kernel_rfl);have e3:=gEx d3;have HSt:=hDx hst;clear hdep hag hst;go_simp;exact hK _ _ (Keeps.refl _ _) rfl HSt.out
   · intro k z v hk hst hag hdep;refine .inl ⟨rfl,fun K hK=>?_⟩;have d40:z.tmps.getD 40 undef=.pointer (some ⟨rb+1,3,none⟩):=hdep ⟨8,.data⟩ (by simp) rfl _ _ rfl rfl;have e40:=gEx d40;have h0:DgSt b2 o Sm sb W1 k v:=hst;obtain ⟨l0,l1,l2,l3,l4,l5,l6,l7,l8,l9⟩ := ten_cells (h0.at_ HZB.out (by have:=HLo.out; omega) (by have:=HLo.out; omega));have HSt:=hDx hst;clear hdep hag hst;go_simp;exact hK _ _ (Keeps.refl _ _) rfl HSt.out
   · intro k z v hk hst hag hdep;refine .inl ⟨rfl,fun K hK=>?_⟩;have d3:z.tmps.getD 3 undef=.pointer (some ⟨rb+1,0,none⟩):=hag.2.2 3 (by kernel_rfl);have e3:=gEx d3;have HSt:=hDx hst;clear hdep hag hst;go_simp;exact hK _ _ (Keeps.refl _ _) rfl HSt.out
   · intro k z v hk hst hag hdep;refine .inl ⟨rfl,fun K hK=>?_⟩;have d42:z.tmps.getD 42 undef=.pointer (some ⟨rb+1,4,none⟩):=hdep ⟨10,.data⟩ (by simp) rfl _ _ rfl rfl;have e42:=gEx d42;have h0:DgSt b2 o Sm sb W1 k v:=hst;obtain ⟨l0,l1,l2,l3,l4,l5,l6,l7,l8,l9⟩ := ten_cells (h0.at_ HZB.out (by have:=HLo.out; omega) (by have:=HLo.out; omega));have HSt:=hDx hst;clear hdep hag hst;go_simp;exact hK _ _ (Keeps.refl _ _) rfl HSt.out
   · intro k z v hk hst hag hdep;refine .inl ⟨rfl,fun K hK=>?_⟩;have d33:z.tmps.getD 33 undef=.int .i64 Sm:=hdep ⟨1,.data⟩ (by simp) rfl _ _ rfl rfl;have e33:=gEx d33;have d35:z.tmps.getD 35 undef=.int .i64 sb.k:=hdep ⟨3,.data⟩ (by simp) rfl _ _ rfl rfl;have e35:=gEx d35;have d37:z.tmps.getD 37 undef=.int .i64 sb.w:=hdep ⟨5,.data⟩ (by simp) rfl _ _ rfl rfl;have e37:=gEx d37;have d39:z.tmps.getD 39 undef=.int .i64 sb.h:=hdep ⟨7,.data⟩ (by simp) rfl _ _ rfl rfl;have e39:=gEx d39;have d41:z.tmps.getD 41 undef=.int .i64 sb.x:=hdep ⟨9,.data⟩ (by simp) rfl _ _ rfl rfl;have e41:=gEx d41;have d43:z.tmps.getD 43 undef=.int .i64 sb.y:=hdep ⟨11,.data⟩ (by simp) rfl _ _ rfl rfl;have e43:=gEx d43;have HSt:=hDx hst;clear hdep hag hst;go_simp
     have hb:Below v.heap.size v (v.alloc (.cells #[.int .i64 Sm,.int .i64 sb.k,.int .i64 sb.w,.int .i64 sb.h,.int .i64 sb.x,.int .i64 sb.y] 3)):=(Below.refl _ _).alloc (Nat.le_refl _) _;exact hK _ _ (Keeps.alloc _ _ _) ⟨v.heap.size,rfl,(by have:=HSt.out.ot.lt; omega),heap_alloc_new v _⟩ (HSt.out.below hb)
   · intro z v hst hag hdep;refine ⟨rfl,fun K hK=>?_⟩;have d5:z.tmps.getD 5 undef=.pointer (some ⟨o,0,none⟩):=hag.2.2 5 (by kernel_rfl);have e5:=gEx d5;have d44':DgOk rb o Sm sa sb ra rn rc ga gn gc ta tn tc ha hn hc 12 (z.tmps.getD 44 undef) v:=hdep ⟨12,.data⟩ (by simp) rfl _ _ rfl rfl;simp only [DgOk] at d44';obtain ⟨X44,d44,hn44,hc44⟩ := d44';have e44:=gEx d44;have h0:DgSt b2 o Sm sb W1 0 v:=hst;have hll:=dgk_len (Sm:=Sm) HBd.out 0;have HC:=hDx (Go.Proofs.YtagolklnjhpbdaaDoor.X.num_any b2 o X44 0 6 [Sm,sb.k,sb.w,sb.h,sb.x,sb.y] _ v (by have:=hll; simp; omega) h0.ot (fun w' _ hk i hi=>by
      rw [cell_block (hk.block X44 _ hc44 hn44 (fun cur fr e=>by injection e with _ e2; revert e2; decide))]
      match i,hi with
      | 0,_=>rfl
      | 1,_=>rfl
      | 2,_=>rfl
      | 3,_=>rfl
      | 4,_=>rfl
      | 5,_=>rfl
      | i+6,hi=>simp at hi; omega) h0.sz)
     have HSt:=hDx h0;clear hdep hag hst h0;go_simp;refine HC.out.mono ?_;rintro e w' ⟨rfl,hO',hB',hK'⟩;exact hK _ _ hK' rfl (HSt.out.wrote (k2:=1) (by simpa [dgB,hBk,hB1,numsOf,numB] using hO') hB')
   · intro k z v hk hst hag hdep;refine .inl ⟨rfl,fun K hK=>?_⟩;have d3:z.tmps.getD 3 undef=.pointer (some ⟨rb+1,0,none⟩):=hag.2.2 3 (by kernel_rfl);have e3:=gEx d3;have HSt:=hDx hst;clear hdep hag hst;go_simp;exact hK _ _ (Keeps.refl _ _) rfl HSt.out
   · intro k z v hk hst hag hdep;refine .inl ⟨rfl,fun K hK=>?_⟩;have d46:z.tmps.getD 46 undef=.pointer (some ⟨rb+1,5,none⟩):=hdep ⟨14,.data⟩ (by simp) rfl _ _ rfl rfl;have e46:=gEx d46;have h0:DgSt b2 o Sm sb W1 k v:=hst;obtain ⟨l0,l1,l2,l3,l4,l5,l6,l7,l8,l9⟩ := ten_cells (h0.at_ HZB.out (by have:=HLo.out; omega) (by have:=HLo.out; omega));have HSt:=hDx hst;clear hdep hag hst;go_simp;exact hK _ _ (Keeps.refl _ _) rfl HSt.out
   · intro k z v hk hst hag hdep;refine .inl ⟨rfl,fun K hK=>?_⟩;have d47:z.tmps.getD 47 undef=.string sb.t:=hdep ⟨15,.data⟩ (by simp) rfl _ _ rfl rfl;have e47:=gEx d47;have HSt:=hDx hst;clear hdep hag hst;go_simp;have hb:Below v.heap.size v (v.alloc (.cells #[.string sb.t] 9)):=(Below.refl _ _).alloc (Nat.le_refl _) _;exact hK _ _ (Keeps.alloc _ _ _) ⟨v.heap.size,rfl,(by have:=HSt.out.ot.lt; omega),heap_alloc_new v _⟩ (HSt.out.below hb)
   · intro z v hst hag hdep;refine ⟨rfl,fun K hK=>?_⟩;have d45:z.tmps.getD 45 undef=.pointer (some ⟨o,0,none⟩):=hdep ⟨13,.data⟩ (by simp) rfl _ _ rfl rfl;have e45:=gEx d45;have d48':DgOk rb o Sm sa sb ra rn rc ga gn gc ta tn tc ha hn hc 16 (z.tmps.getD 48 undef) v:=hdep ⟨16,.data⟩ (by simp) rfl _ _ rfl rfl;simp only [DgOk] at d48';obtain ⟨X48,d48,hn48,hc48⟩ := d48';have e48:=gEx d48;have h0:DgSt b2 o Sm sb W1 1 v:=hst;have hll:=dgk_len (Sm:=Sm) HBd.out 1;have HC:=hDx (Go.Proofs.YtagolklnjhpbdaaDoor.X.text_any b2 o X48 0 1 [sb.t] _ v (by simp) (fun j hj=>by
      match j,hj with
      | 0,_=>have:=hll; simp [textsOf]; omega
      | 1,_=>have h1:=hll; have h2:=textB_len sb.t; have h3:=HBd.out.1; simp [textsOf]; omega
      | j+2,hj=>simp at hj) h0.ot (fun w' _ hk i hi=>by
      rw [cell_block (hk.block X48 _ hc48 hn48 (fun cur fr e=>by injection e with _ e2; revert e2; decide))]
      match i,hi with
      | 0,_=>rfl
      | i+1,hi=>simp at hi) h0.sz)
     have HSt:=hDx h0;clear hdep hag hst h0;go_simp;refine HC.out.mono ?_;rintro e w' ⟨rfl,hO',hB',hK'⟩;exact hK _ _ hK' rfl (HSt.out.wrote (k2:=2) (by simpa [dgB,hBk,hB1,hB2,textsOf,numB] using hO') hB')
   · intro k z v hk hst hag hdep;refine .inl ⟨rfl,fun K hK=>?_⟩;have d3:z.tmps.getD 3 undef=.pointer (some ⟨rb+1,0,none⟩):=hag.2.2 3 (by kernel_rfl);have e3:=gEx d3;have HSt:=hDx hst;clear hdep hag hst;go_simp;exact hK _ _ (Keeps.refl _ _) rfl HSt.out
   · intro k z v hk hst hag hdep;refine .inl ⟨rfl,fun K hK=>?_⟩;have d50:z.tmps.getD 50 undef=.pointer (some ⟨rb+1,7,none⟩):=hdep ⟨18,.data⟩ (by simp) rfl _ _ rfl rfl;have e50:=gEx d50;have h0:DgSt b2 o Sm sb W1 k v:=hst;obtain ⟨l0,l1,l2,l3,l4,l5,l6,l7,l8,l9⟩ := ten_cells (h0.at_ HZB.out (by have:=HLo.out; omega) (by have:=HLo.out; omega));have HSt:=hDx hst;clear hdep hag hst;go_simp;exact hK _ _ (Keeps.refl _ _) rfl HSt.out
   · intro k z v hk hst hag hdep;refine .inl ⟨rfl,fun K hK=>?_⟩;have d3:z.tmps.getD 3 undef=.pointer (some ⟨rb+1,0,none⟩):=hag.2.2 3 (by kernel_rfl);have e3:=gEx d3;have HSt:=hDx hst;clear hdep hag hst;go_simp;exact hK _ _ (Keeps.refl _ _) rfl HSt.out
   · intro k z v hk hst hag hdep;refine .inl ⟨rfl,fun K hK=>?_⟩;have d52:z.tmps.getD 52 undef=.pointer (some ⟨rb+1,8,none⟩):=hdep ⟨20,.data⟩ (by simp) rfl _ _ rfl rfl;have e52:=gEx d52;have h0:DgSt b2 o Sm sb W1 k v:=hst;obtain ⟨l0,l1,l2,l3,l4,l5,l6,l7,l8,l9⟩ := ten_cells (h0.at_ HZB.out (by have:=HLo.out; omega) (by have:=HLo.out; omega));have HSt:=hDx hst;clear hdep hag hst;go_simp;exact hK _ _ (Keeps.refl _ _) rfl HSt.out
   · intro k z v hk hst hag hdep;refine .inl ⟨rfl,fun K hK=>?_⟩;have d51:z.tmps.getD 51 undef=.int .i64 sb.n:=hdep ⟨19,.data⟩ (by simp) rfl _ _ rfl rfl;have e51:=gEx d51;have d53:z.tmps.getD 53 undef=.int .i64 sb.c:=hdep ⟨21,.data⟩ (by simp) rfl _ _ rfl rfl;have e53:=gEx d53;have HSt:=hDx hst;clear hdep hag hst;go_simp;have hb:Below v.heap.size v (v.alloc (.cells #[.int .i64 sb.n,.int .i64 sb.c] 3)):=(Below.refl _ _).alloc (Nat.le_refl _) _;exact hK _ _ (Keeps.alloc _ _ _) ⟨v.heap.size,rfl,(by have:=HSt.out.ot.lt; omega),heap_alloc_new v _⟩ (HSt.out.below hb)
   · intro z v hst hag hdep;refine ⟨rfl,fun K hK=>?_⟩;have d49:z.tmps.getD 49 undef=.pointer (some ⟨o,0,none⟩):=hdep ⟨17,.data⟩ (by simp) rfl _ _ rfl rfl;have e49:=gEx d49;have d54':DgOk rb o Sm sa sb ra rn rc ga gn gc ta tn tc ha hn hc 22 (z.tmps.getD 54 undef) v:=hdep ⟨22,.data⟩ (by simp) rfl _ _ rfl rfl;simp only [DgOk] at d54';obtain ⟨X54,d54,hn54,hc54⟩ := d54';have e54:=gEx d54;have h0:DgSt b2 o Sm sb W1 2 v:=hst;have hll:=dgk_len (Sm:=Sm) HBd.out 2;have HC:=hDx (Go.Proofs.YtagolklnjhpbdaaDoor.X.num_any b2 o X54 0 2 [sb.n,sb.c] _ v (by have:=hll; simp; omega) h0.ot (fun w' _ hk i hi=>by
      rw [cell_block (hk.block X54 _ hc54 hn54 (fun cur fr e=>by injection e with _ e2; revert e2; decide))]
      match i,hi with
      | 0,_=>rfl
      | 1,_=>rfl
      | i+2,hi=>simp at hi; omega) h0.sz)
     have HSt:=hDx h0;clear hdep hag hst h0;go_simp;refine HC.out.mono ?_;rintro e w' ⟨rfl,hO',hB',hK'⟩;exact hK _ _ hK' rfl (HSt.out.wrote (k2:=3) (by simpa [dgB,hBk,hB1,hB2,hB3,numsOf,numB] using hO') hB')
   · intro k z v hk hst hag hdep;refine .inl ⟨rfl,fun K hK=>?_⟩;have d3:z.tmps.getD 3 undef=.pointer (some ⟨rb+1,0,none⟩):=hag.2.2 3 (by kernel_rfl);have e3:=gEx d3;have HSt:=hDx hst;clear hdep hag hst;go_simp;exact hK _ _ (Keeps.refl _ _) rfl HSt.out
   · intro k z v hk hst hag hdep;refine .inl ⟨rfl,fun K hK=>?_⟩;have d56:z.tmps.getD 56 undef=.pointer (some ⟨rb+1,9,none⟩):=hdep ⟨24,.data⟩ (by simp) rfl _ _ rfl rfl;have e56:=gEx d56;have h0:DgSt b2 o Sm sb W1 k v:=hst;obtain ⟨l0,l1,l2,l3,l4,l5,l6,l7,l8,l9⟩ := ten_cells (h0.at_ HZB.out (by have:=HLo.out; omega) (by have:=HLo.out; omega));have HSt:=hDx hst;clear hdep hag hst;go_simp;exact hK _ _ (Keeps.refl _ _) rfl HSt.out
   · intro k z v hk hst hag hdep;refine .inl ⟨rfl,fun K hK=>?_⟩;have d57:z.tmps.getD 57 undef=.slice ha hn hc:=hdep ⟨25,.data⟩ (by simp) rfl _ _ rfl rfl;have e57:=gEx d57;have h0:DgSt b2 o Sm sb W1 k v:=hst;have HC:=hDx (pack_any ha hn hc sb.B v (HBeg.out v h0.e) HRng.out HGn.out);have HSt:=hDx h0;clear hdep hag hst h0;go_simp;refine HC.out.mono ?_;rintro e w' ⟨tq,rfl,htq,hbq⟩;obtain rfl:tq=pgB sb:=bytes_eqN (by rw [htq]; simp [pgB]);exact hK _ _ (keeps_below hbq) rfl (HSt.out.below hbq)
   · intro k z v hk hst hag hdep;refine .inl ⟨rfl,fun K hK=>?_⟩;have d58:z.tmps.getD 58 undef=.string (pgB sb):=hdep ⟨26,.data⟩ (by simp) rfl _ _ rfl rfl;have e58:=gEx d58;have HSt:=hDx hst;clear hdep hag hst;go_simp;have hb:Below v.heap.size v (v.alloc (.cells #[.string (pgB sb)] 9)):=(Below.refl _ _).alloc (Nat.le_refl _) _;exact hK _ _ (Keeps.alloc _ _ _) ⟨v.heap.size,rfl,(by have:=HSt.out.ot.lt; omega),heap_alloc_new v _⟩ (HSt.out.below hb)
   · intro z v hst hag hdep;refine ⟨rfl,fun K hK=>?_⟩;have d55:z.tmps.getD 55 undef=.pointer (some ⟨o,0,none⟩):=hdep ⟨23,.data⟩ (by simp) rfl _ _ rfl rfl;have e55:=gEx d55;have d59':DgOk rb o Sm sa sb ra rn rc ga gn gc ta tn tc ha hn hc 27 (z.tmps.getD 59 undef) v:=hdep ⟨27,.data⟩ (by simp) rfl _ _ rfl rfl;simp only [DgOk] at d59';obtain ⟨X59,d59,hn59,hc59⟩ := d59';have e59:=gEx d59;have h0:DgSt b2 o Sm sb W1 3 v:=hst;have hll:=dgk_len (Sm:=Sm) HBd.out 3;have HC:=hDx (Go.Proofs.YtagolklnjhpbdaaDoor.X.raw_any b2 o X59 0 1 [pgB sb] _ v (by simp) (fun j hj=>by
      match j,hj with
      | 0,_=>have:=hll; simp [bytesOf]; omega
      | 1,_=>have h1:=hll; have h2:=packG_len sb.B; have h3:=HBd.out.2; simp [bytesOf,pgB]; omega
      | j+2,hj=>simp at hj) h0.ot (fun w' _ hk i hi=>by
      rw [cell_block (hk.block X59 _ hc59 hn59 (fun cur fr e=>by injection e with _ e2; revert e2; decide))]
      match i,hi with
      | 0,_=>rfl
      | i+1,hi=>simp at hi) h0.sz)
     have HSt:=hDx h0;clear hdep hag hst h0;go_simp;refine HC.out.mono ?_;rintro e w' ⟨rfl,hO',hB',hK'⟩;exact hK _ _ hK' rfl (HSt.out.wrote (k2:=4) (by simpa [dgB,hBk,hB1,hB2,hB3,hB4,bytesOf,pgB,numB] using hO') hB')
  case hdone =>
   intro z v hst hag hok;have hst:DgSt b2 o Sm sb W1 4 v:=hst;have H5:=hDx hst;clear hst;obtain ⟨uu,hu,hzz⟩ := agree_frame [32,33,34,35,36,37,38,39,40,41,42,43,44,45,46,47,48,49,50,51,52,53,54,55,56,57,58,59,60] rfl hag;subst hzz;simp only [List.foldl_cons,List.foldl_nil];clear hu hag hok
   try dsimp only [Exit.then]
   simp only [List.setIfInBounds_toArray,List.set_cons_succ,List.set_cons_zero];generalize uu 32=u32',uu 33=u33',uu 34=u34',uu 35=u35',uu 36=u36',uu 37=u37',uu 38=u38',uu 39=u39',uu 40=u40',uu 41=u41',uu 42=u42',uu 43=u43',uu 44=u44',uu 45=u45',uu 46=u46',uu 47=u47',uu 48=u48',uu 49=u49',uu 50=u50',uu 51=u51',uu 52=u52',uu 53=u53',uu 54=u54',uu 55=u55',uu 56=u56',uu 57=u57',uu 58=u58',uu 59=u59',uu 60=u60';clear uu;rename_i K hK;refine hK _ _ ?_;obtain ⟨hro,hcn,hdf⟩ := HRow.out v H5.out.e;have hc8:v.cell? ⟨o+1+1,0,none⟩=some (.int .i64 (ys.length:Int)):=hcn.cell;have hO0:OutAt b2 o (numB Sm++headB sb) v:=by
    have h:=H5.out.ot;rw [show dgB Sm sb 4=numB Sm++hB4 sb from rfl,hB4_head] at h;exact h
   have hlen:(numB Sm++headB sb).length≤20009:=by
    have h:=dgk_len (Sm:=Sm) HBd.out 4;rw [show dgB Sm sb 4=numB Sm++hB4 sb from rfl,hB4_head] at h;exact h
   have HHl:=hDx hlen;have HN:=hDx (Go.Proofs.YtagolklnjhpbdaaDoor.X.num_one b2 o (ys.length:Int) (numB Sm++headB sb) v (by omega) hO0 H5.out.sz);clear hro hcn hdf hO0 hlen
   gi_wp2_with fail
   refine ⟨by first | trivial | omega,?_⟩;refine (callsIn_wide.2 HN.out).mono ?_;rintro e v5 ⟨rfl,hO5,hE5,hK5⟩;have hE5':BelowE b2 o W1 v5:=(H5.out.e.alloc H5.out.sz _).trans hE5;have hs5:b2≤v5.heap.size:=Nat.le_trans H5.out.sz (Nat.le_trans (by rw [World.size_alloc]; omega) hE5.size);have HBy:=hDx (Go.Proofs.YtagolklnjhpbdaaDoor.I.bytes_any rb (o+1) _ v5 (HRow.out v5 hE5').1);have HE5:=hDx hE5';have hsz9:(⟨(rowsD (ys.map prD)).toArray⟩ : ByteArray).size=(rowsD (ys.map prD)).length:=by show ((rowsD (ys.map prD)).toArray).size=_; simp
   have hRaw:=Go.Proofs.YtagolklnjhpbdaaDoor.X.raw_one b2 o ⟨(rowsD (ys.map prD)).toArray⟩ _ v5 (by
    rw [hsz9,List.length_append];have h1:=HHl.out;have h2:=HRwl.out;have h3:=numB_len (ys.length:Int);unfold numB at h3;omega) hO5 hs5
   have HRaw:=hDx hRaw;have HS5:=hDx hs5;clear hO5 hE5 hK5 hE5' hs5 hsz9 hRaw HN hc8
   gi_wp2_with fail
   refine ⟨by first | trivial | omega,?_⟩;refine (callsIn_wide.2 HBy.out).mono ?_;rintro e v6 ⟨rfl,rfl⟩;clear HBy
   gi_wp2_with fail
   refine ⟨by first | trivial | omega,?_⟩;refine (callsIn_wide.2 HRaw.out).mono ?_;rintro e v7 ⟨rfl,hO7,hE7,hK7⟩;have hE7':BelowE b2 o W1 v7:=(HE5.out.alloc HS5.out _).trans hE7;have HBy:=hDx (Go.Proofs.YtagolklnjhpbdaaDoor.I.bytes_any b2 o _ v7 hO7);have HE7:=hDx hE7';clear hO7 hE7 hK7 hE7' HRaw
   gi_wp2_with fail
   refine ⟨by first | trivial | omega,?_⟩;refine (callsIn_wide.2 HBy.out).mono ?_;rintro e v8 ⟨rfl,rfl⟩;clear HBy
   gi_wp2
   have hdf:=(HRow.out v7 HE7.out).2.2;have hfin:(numB Sm++(headB sb++(digs (clipN (ys.length:Int))++rowsD (ys.map prD))))=diffN sa sb:=by
    rw [HDn.out];unfold rawD;rw [HLn.out,← HCl.out,List.append_assoc]
    rfl
   refine ⟨by simp,.inl ⟨_,_,rfl,run_takeDeferred hdf,?_⟩⟩;rw [← HP.out];refine ⟨_,results_tmp rfl _ _ _,?_,?_⟩
   · rw [← hfin]
     rfl
   · rw [HRb.out];exact (HBel.out v7 HE7.out).trans (belowK_b (w:=w7) (by have:=HS7.out; have:=HLo.out; omega) v7 D _ _ HD.out hdf rfl rfl)
 case stop =>
  rintro D c pre V hD _ h;exact h.elim
theorem diff_any (sa sb:Sn) (ra:Option Addr) (rn rc:Nat) (ga:Option Addr) (gn gc:Nat) (ta:Option Addr) (tn tc:Nat) (ha:Option Addr) (hn hc:Nat) (w:World) (hA:SnIn .i32 ra rn rc ga gn gc sa w) (hAB:SnB sa) (hBi:SnIn .i32 ta tn tc ha hn hc sb w) (hBB:SnB sb) (hT:Go.Proofs.YtagolklnjhpbdaaDoor.S.Tab w)
    (L:Nat) (hL:∀ x ∈ difL sa 0 sb.R,(packR x.2).length≤L) (hfew:(difL sa 0 sb.R).length*(9+L)≤900000) :
    Calls Tryd.prog 10 #[.agg (snA sa ra rn rc ga gn gc),.agg (snA sb ta tn tc ha hn hc)] w (DiPost sa sb w) :=
 (callsIn_wide (n:=9)).1 (diff_in 9 (Nat.le_refl _) sa sb ra rn rc ga gn gc ta tn tc ha hn hc w hA hAB hBi hBB hT L hL hfew)
end Go.Proofs.YtagolklnjhpbdaaDoor.K
