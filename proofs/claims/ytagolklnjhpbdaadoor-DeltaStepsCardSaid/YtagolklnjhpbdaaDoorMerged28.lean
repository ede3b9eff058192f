import Derived.Test.YtagolklnjhpbdaaDoorMerged0
import Derived.Test.YtagolklnjhpbdaaDoorMerged23
import Derived.Test.YtagolklnjhpbdaaDoorMerged3
import Derived.Test.YtagolklnjhpbdaaDoorNRdRow
import Derived.Test.YtagolklnjhpbdaaDoorMerged8
import Derived.Test.YtagolklnjhpbdaaDoorMerged24
import Derived.Test.YtagolklnjhpbdaaDoorNRfM
import Derived.Test.YtagolklnjhpbdaaDoorMerged26
namespace Go.Proofs.YtagolklnjhpbdaaDoor.K
open Go.RowKit Go.Proofs.YtagolklnjhpbdaaDoor.I
end Go.Proofs.YtagolklnjhpbdaaDoor.K

namespace Go.Proofs.YtagolklnjhpbdaaDoor.K
open Go.RowKit Go.Proofs.YtagolklnjhpbdaaDoor.I
structure RfR (rb:Nat) (s:ByteArray) (e:Nat) (w wr:World):Prop where
 b:Below rb w wr
 i:wr.heap[rb]?=some (.cells #[.string s,.int .i64 (e:Int)] 98 (0,0))
 o:wr.heap[rb+1]?=some (.cells #[.string ⟨#[]⟩,.int .i64 0] 98 (0,0))
 r:wr.heap[rb+2]?=some (.cells #[.slice none 0 0,.bool false] 63 (0,0))
section
variable {rb:Nat} {s s':ByteArray} {e e':Nat} {w wr w':World}
theorem RfR.size (h:RfR rb s e w wr):rb+3≤wr.heap.size:=(gSx.1 h.r).1
theorem RfR.more (h:RfR rb s e w wr) (hb:Below (rb+3) wr w'):RfR rb s e w w' :=
 ⟨h.b.trans (hb.mono (by omega)),(hb.block rb (by omega)).trans h.i,(hb.block (rb+1) (by omega)).trans h.o,(hb.block (rb+2) (by omega)).trans h.r⟩
theorem RfR.below (h:RfR rb s e w wr) (hb:Below wr.heap.size wr w'):RfR rb s e w w':=h.more (hb.mono h.size)
theorem RfR.set (h:RfR rb s e w wr) (s':ByteArray) (e':Nat):RfR rb s' e' w ((wr.setCell ⟨rb,0,none⟩ (.string s')).setCell ⟨rb,1,none⟩ (.int .i64 (e':Int))):=by
 refine ⟨(h.b.setCell (p:=⟨rb,0,none⟩) (Nat.le_refl _) _).setCell (p:=⟨rb,1,none⟩) (Nat.le_refl _) _,by simp [World.setCell,Array.getElem?_modify,h.i],?_,?_⟩
 · rw [Below.heap_setCell _ _ _ _ (by show rb+1≠rb; omega),Below.heap_setCell _ _ _ _ (by show rb+1≠rb; omega)];exact h.o
 · rw [Below.heap_setCell _ _ _ _ (by show rb+2≠rb; omega),Below.heap_setCell _ _ _ _ (by show rb+2≠rb; omega)];exact h.r
theorem RfR.i0 (h:RfR rb s e w wr):wr.cell? ⟨rb,0,none⟩=some (.string s):=by rw [cell_block h.i]; rfl
theorem RfR.i1 (h:RfR rb s e w wr):wr.cell? ⟨rb,1,none⟩=some (.int .i64 (e:Int)):=by rw [cell_block h.i]; rfl
theorem RfR.outB (h:RfR rb s e w wr) (v0 v1 v2 v3:Value):Below rb w ((((wr.setCell ⟨rb+1,0,none⟩ v0).setCell ⟨rb+1,1,none⟩ v1).setCell ⟨rb+2,0,none⟩ v2).setCell ⟨rb+2,1,none⟩ v3) :=
 (((h.b.setCell (p:=⟨rb+1,0,none⟩) (by show rb≤rb+1; omega) _).setCell (p:=⟨rb+1,1,none⟩) (by show rb≤rb+1; omega) _).setCell (p:=⟨rb+2,0,none⟩) (by show rb≤rb+2; omega) _).setCell (p:=⟨rb+2,1,none⟩) (by show rb≤rb+2; omega) _
end
structure RfS (rb cb:Nat) (s:ByteArray) (e:Nat) (a b c:Int) (v:Value) (l:List Cel) (w u:World):Prop where
 r:RfR rb s e w u
 k:u.heap[cb]?=some (.cells #[.int .i64 a,.int .i64 b,.int .i64 c] 87 (0,0))
 p:rb+3≤cb
 o:OwnC .i64 87 (rb+3) v l u
 n:∀ q,v.ownBlock=some q→q≠cb
section
variable {rb cb:Nat} {s:ByteArray} {e:Nat} {a b c:Int} {v:Value} {l:List Cel} {w u u':World}
theorem RfS.lt (h:RfS rb cb s e a b c v l w u):cb<u.heap.size:=(gSx.1 h.k).1
theorem RfS.below (h:RfS rb cb s e a b c v l w u) (hb:Below u.heap.size u u'):RfS rb cb s e a b c v l w u' :=
 ⟨h.r.below hb,(hb.block cb h.lt).trans h.k,h.p,h.o.belowAll hb,h.n⟩
theorem RfS.set (h:RfS rb cb s e a b c v l w u) (s':ByteArray) (e':Nat):RfS rb cb s' e' a b c v l w ((u.setCell ⟨rb,0,none⟩ (.string s')).setCell ⟨rb,1,none⟩ (.int .i64 (e':Int))) :=
 ⟨h.r.set s' e',by rw [Below.heap_setCell _ _ _ _ (by show cb≠rb; have:=h.p; omega),Below.heap_setCell _ _ _ _ (by show cb≠rb; have:=h.p; omega)]; exact h.k,h.p,h.o.set2 (by omega) _ _,h.n⟩
theorem RfS.cell (h:RfS rb cb s e a b c v l w u) (i:Nat) (z:Int) {a' b' c':Int} (hz:(#[Value.int .i64 a,.int .i64 b,.int .i64 c]).setIfInBounds i (.int .i64 z)=#[.int .i64 a',.int .i64 b',.int .i64 c']):RfS rb cb s e a' b' c' v l w (u.setCell ⟨cb,i,none⟩ (.int .i64 z)):=by
 have hg:Below (rb+3) u (u.setCell ⟨cb,i,none⟩ (.int .i64 z)):=(Below.refl _ _).setCell (p:=⟨cb,i,none⟩) h.p _;refine ⟨h.r.more hg,?_,h.p,h.o.setCell h.n i _,h.n⟩;have hk:=h.k;unfold World.setCell;simp only [Array.getElem?_modify,hk];simp [← hz]
theorem RfS.k0 (h:RfS rb cb s e a b c v l w u):u.cell? ⟨cb,0,none⟩=some (.int .i64 a):=by rw [cell_block h.k]; rfl
theorem RfS.k1 (h:RfS rb cb s e a b c v l w u):u.cell? ⟨cb,1,none⟩=some (.int .i64 b):=by rw [cell_block h.k]; rfl
theorem RfS.k2 (h:RfS rb cb s e a b c v l w u):u.cell? ⟨cb,2,none⟩=some (.int .i64 c):=by rw [cell_block h.k]; rfl
end
theorem rowS_end {f m:Nat} {st:Sta} {pr:Option Cel} (h:m=0∨st.2≠0):rowS f m st pr=(st,[]):=by
 cases f with
 | zero=>rfl
 | succ f=>rw [rowS,if_pos h]
theorem last_rep (L:List Cel) (n:Nat) (c:Cel) (h:1≤n):(L++List.replicate n c).getLast?=some c:=by
 obtain ⟨k,rfl⟩ : ∃ k,n=k+1:=⟨n - 1,by omega⟩;rw [List.getLast?_append,List.replicate_succ',List.getLast?_append]
 rfl
structure RfI (rb m0:Nat) (tot:Sta × List (Nat × Cel)) (u:Value) (L:List Cel) (t:ByteArray) (sj:Sta) (w wr:World):Prop where
 r:RfR rb t sj.2 w wr
 t:t.data.toList=sj.1∧(t.size:Int)≤1000000
 o:OwnC .i64 87 (rb+3) u L wr
 ok:InOk sj
 run:∃ m f pr,(sj.2=0→L.length+m=m0∧pr=L.getLast?)∧(m<f∨sj.2≠0)∧(rowS f m sj pr).1=tot.1∧(tot.1.2=0→L++expR (rowS f m sj pr).2=expR tot.2)
 len:L.length≤m0
theorem RfS.push {rb cb:Nat} {s:ByteArray} {e:Nat} {a b c:Int} {v v':Value} {l l':List Cel} {w u u1 u2:World} {n:Nat} {out:List Value} (h:RfS rb cb s e a b c v l w u) (hb:Below u.heap.size u u1) (ho:OwnC .i64 87 (rb+3) v' l' u2) (hg:U.Grew (rb+3) 87 3 v n out u1 v' u2):RfS rb cb s e a b c v' l' w u2:=by
 have h1:=h.below hb;have hb2:Below (rb+3) u1 u2:=(Below.refl _ _).grown hg.grown h1.r.size (fun q hq=>(h1.o.ownBlock q hq).1);refine ⟨h1.r.more hb2,(hg.grown.block cb h1.lt (fun e=>h1.n cb e.symm rfl)).trans h1.k,h.p,ho,fun q hq=>?_⟩;rcases hg.block q hq with h2 | h2
 · exact h1.n q h2
 · have:=h1.lt; omega
theorem RfI.next {rb cb m0 m gq x2 j lj2:Nat} {tot:Sta × List (Nat × Cel)} {t:ByteArray} {lk:List UInt8} {ek:Nat} {a b c:Int} {va:Option Addr} {vc:Nat} {L:List Cel} {w wr:World}
    (h:RfS rb cb t ek a b c (.slice va lj2 vc) (L++List.replicate j ⟨a,b,c⟩) w wr) (ht:t.data.toList=((lk,ek):Sta).1∧(t.size:Int)≤1000000) (hok:InOk (lk,ek)) (hj:(ek=0→j=x2)∧(ek≠0→j=0)) (hx:ek=0→1≤x2∧x2≤m) (hlm:L.length+m=m0)
    (hrun:(rowS gq (m - x2) (lk,ek) (some ⟨a,b,c⟩)).1=tot.1∧(tot.1.2=0→L++expR ((x2,(⟨a,b,c⟩ : Cel))::(rowS gq (m - x2) (lk,ek) (some ⟨a,b,c⟩)).2)=expR tot.2)) (hf:m<gq+1):RfI rb m0 tot (.slice va lj2 vc) (L++List.replicate j ⟨a,b,c⟩) t (lk,ek) w wr:=by
 refine ⟨h.r,ht,h.o,hok,⟨m - x2,gq,some ⟨a,b,c⟩,fun h0=>?_,?_,hrun.1,fun h0=>?_⟩,?_⟩
 · have h1:=hx h0;have h2:=hj.1 h0;subst h2;exact ⟨by rw [List.length_append,List.length_replicate]; omega,(last_rep L j _ h1.1).symm⟩
 · by_cases h0:ek=0
   · have:=hx h0; exact .inl (by omega)
   · exact .inr h0
 · have h1:ek=0:=by
    by_cases h1:ek=0
    · exact h1
    · have h2:=hrun.1;rw [rowS_end (.inr h1)] at h2;have h3:(lk,ek)=tot.1:=h2;rw [← h3] at h0;exact h0
   rw [hj.1 h1,← hrun.2 h0];unfold expR;rw [List.flatMap_cons,List.append_assoc]
 · rw [List.length_append,List.length_replicate];by_cases h0:ek=0
   · have:=hx h0; have:=hj.1 h0; omega
   · have:=hj.2 h0; omega
end Go.Proofs.YtagolklnjhpbdaaDoor.K

namespace Go.Proofs.YtagolklnjhpbdaaDoor.K
open Go.RowKit Go.Proofs.YtagolklnjhpbdaaDoor.I
def IBlkN (p:Nat) (s:ByteArray) (e:Nat) (w:World):Prop:=w.heap[p]?=some (.cells #[.string s,.int .i64 e] 98 (0,0))
theorem IBlkN.lt {p:Nat} {s:ByteArray} {e:Nat} {w:World} (h:IBlkN p s e w):p<w.heap.size:=(gSx.1 h).1
theorem IBlkN.c0 {p:Nat} {s:ByteArray} {e:Nat} {w:World} (h:IBlkN p s e w):w.cell? ⟨p,0,none⟩=some (.string s):=by rw [Lib.cell_of_heap h]; rfl
theorem IBlkN.c1 {p:Nat} {s:ByteArray} {e:Nat} {w:World} (h:IBlkN p s e w):w.cell? ⟨p,1,none⟩=some (.int .i64 e):=by rw [Lib.cell_of_heap h]; rfl
theorem IBlkN.fr {p:Nat} {s:ByteArray} {e:Nat} {w:World} (h:IBlkN p s e w) (o:Nat):w.frozen? ⟨p,o,none⟩=false:=by simp [World.frozen?,show w.heap[p]?=_ from h]
theorem IBlkN.set {p:Nat} {s:ByteArray} {e:Nat} {w:World} (h:IBlkN p s e w) (s':ByteArray) (e':Nat):IBlkN p s' e' ((w.setCell ⟨p,0,none⟩ (.string s')).setCell ⟨p,1,none⟩ (.int .i64 e')):=by
 have h':w.heap[p]?=_:=h;unfold IBlkN;simp [World.setCell,Array.getElem?_modify,h']
theorem IBlkN.other {p g o:Nat} {s:ByteArray} {e:Nat} {w:World} (h:IBlkN p s e w) (hne:p≠g) (v:Value):IBlkN p s e (w.setCell ⟨g,o,none⟩ v):=(Below.heap_setCell _ _ _ _ hne).trans h
theorem IBlkN.below {p:Nat} {s:ByteArray} {e:Nat} {w w':World} (h:IBlkN p s e w) (hb:Below w.heap.size w w'):IBlkN p s e w':=(hb.block p h.lt).trans h
theorem IBlkN.grown {p:Nat} {s:ByteArray} {e:Nat} {w w':World} {row:Option Nat} (h:IBlkN p s e w) (hg:w.grownBy w' row) (hne:some p≠row):IBlkN p s e w':=(hg.block p h.lt hne).trans h
end Go.Proofs.YtagolklnjhpbdaaDoor.K

namespace Go.Proofs.YtagolklnjhpbdaaDoor.K
open Go.RowKit Go.Proofs.YtagolklnjhpbdaaDoor.I
structure PfB (rb ib xb:Nat) (t:ByteArray) (e:Nat) (cs:Array Value) (w wr:World):Prop where
 b:Below rb w wr
 o:wr.heap[rb]?=some (.cells #[.int .i64 0,.int .i64 0,.int .i64 0,.int .i64 0,.int .i64 0,.string ⟨#[]⟩,.slice none 0 0,.int .i64 0,.int .i64 0,.slice none 0 0] 32 (0,0))
 i:wr.heap[ib]?=some (.cells #[.string t,.int .i64 (e:Int)] 98 (0,0))
 x:wr.heap[xb]?=some (.cells cs 32 (0,0))
 lt:rb<ib∧ib<xb
section
variable {rb ib xb:Nat} {t t':ByteArray} {e:Nat} {cs cs':Array Value} {w wr w':World}
theorem PfB.size (h:PfB rb ib xb t e cs w wr):xb+1≤wr.heap.size:=(gSx.1 h.x).1
theorem PfB.more (h:PfB rb ib xb t e cs w wr) (hb:Below (xb+1) wr w'):PfB rb ib xb t e cs w w' :=
 have hl:=h.lt
 ⟨h.b.trans (hb.mono (by omega)),(hb.block rb (by omega)).trans h.o,(hb.block ib (by omega)).trans h.i,(hb.block xb (by omega)).trans h.x,h.lt⟩
theorem PfB.below (h:PfB rb ib xb t e cs w wr) (hb:Below wr.heap.size wr w'):PfB rb ib xb t e cs w w':=h.more (hb.mono h.size)
theorem PfB.set (h:PfB rb ib xb t e cs w wr) (t':ByteArray) (e':Nat):PfB rb ib xb t' e' cs w ((wr.setCell ⟨ib,0,none⟩ (.string t')).setCell ⟨ib,1,none⟩ (.int .i64 (e':Int))):=by
 have hl:=h.lt;refine ⟨(h.b.setCell (p:=⟨ib,0,none⟩) (by show rb≤ib; omega) _).setCell (p:=⟨ib,1,none⟩) (by show rb≤ib; omega) _,?_,by simp [World.setCell,Array.getElem?_modify,h.i],?_,hl⟩
 · rw [Below.heap_setCell _ _ _ _ (by show rb≠ib; omega),Below.heap_setCell _ _ _ _ (by show rb≠ib; omega)];exact h.o
 · rw [Below.heap_setCell _ _ _ _ (by show xb≠ib; omega),Below.heap_setCell _ _ _ _ (by show xb≠ib; omega)];exact h.x
theorem PfB.cell (h:PfB rb ib xb t e cs w wr) (i:Nat) (v:Value) (hz:cs.setIfInBounds i v=cs'):PfB rb ib xb t e cs' w (wr.setCell ⟨xb,i,none⟩ v):=by
 have hl:=h.lt;refine ⟨h.b.setCell (p:=⟨xb,i,none⟩) (by show rb≤xb; omega) _,?_,?_,?_,hl⟩
 · rw [Below.heap_setCell _ _ _ _ (by show rb≠xb; omega)]; exact h.o
 · rw [Below.heap_setCell _ _ _ _ (by show ib≠xb; omega)]; exact h.i
 · have hk:=h.x;unfold World.setCell;simp only [Array.getElem?_modify,hk];simp [← hz]
theorem PfB.i0 (h:PfB rb ib xb t e cs w wr):wr.cell? ⟨ib,0,none⟩=some (.string t):=by rw [cell_block h.i]; rfl
theorem PfB.i1 (h:PfB rb ib xb t e cs w wr):wr.cell? ⟨ib,1,none⟩=some (.int .i64 (e:Int)):=by rw [cell_block h.i]; rfl
theorem PfB.xc (h:PfB rb ib xb t e cs w wr) (i:Nat):wr.cell? ⟨xb,i,none⟩=cs[i]?:=by rw [cell_block h.x]
end
theorem ownP_keepB {rk:IntKind} {T:TypeId} {base:Nat} {v:Value} {l:List (Int × Int)} {L:List Nat} {w w':World} (h:OwnP rk T base v l w) (hk:KeepB L w w') (hv:∀ q,v.ownBlock=some q→q ∉ L):OwnP rk T base v l w':=by
 unfold OwnP at h ⊢;refine ⟨h.1,?_⟩;rcases h.2 with h0 | ⟨g',c',cur,he,hbase,hgb,hc,hmx,hsz,ht⟩
 · exact .inl h0
 · exact .inr ⟨g',c',cur,he,hbase,(hk.block g' (gSx.1 hgb).1 (hv g' (by rw [he]; rfl))).trans hgb,hc,hmx,hsz,ht⟩
structure PfL (rb ib xb:Nat) (t:ByteArray) (st:Sta) (cs:Array Value) (v vb:Value) (rs:List Ro) (B:List (Int × Int)) (w wr:World):Prop where
 p:PfB rb ib xb t st.2 cs w wr
 t:t.data.toList=st.1∧(t.size:Int)≤1000000
 g:Gath 63 [rb,ib,xb] (xb+1) v rs wr
 q:OwnP .i64 85 (xb+1) vb B wr
section
variable {rb ib xb:Nat} {t t':ByteArray} {st st':Sta} {cs cs':Array Value} {v v' vb:Value} {rs:List Ro} {B:List (Int × Int)} {w wr w2 w' wB w5:World} {r:Ro}
theorem PfL.ni (h:PfL rb ib xb t st cs v vb rs B w wr):(∀ q,v.ownBlock=some q→q ∉ [rb,ib,xb])∧∀ q,vb.ownBlock=some q→q ∉ [rb,ib,xb]:=by
 have hl:=h.p.lt;refine ⟨fun q hq hm=>?_,fun q hq hm=>?_⟩
 · have:=(h.g.own q hq).1;simp at hm;omega
 · have:=(h.q.ownBlock q hq).1;simp at hm;omega
theorem PfL.below (h:PfL rb ib xb t st cs v vb rs B w wr) (hb:Below wr.heap.size wr w'):PfL rb ib xb t st cs v vb rs B w w':=⟨h.p.below hb,h.t,h.g.belowAll hb,h.q.belowAll hb⟩
theorem PfL.row (h:PfL rb ib xb t st cs v vb rs B w wr) (hb:Below (wr.heap.size+1) (wr.alloc (.cells #[.slice none 0 0,.bool false] 63)) w2) (ht:t'.data.toList=st'.1∧(t'.size:Int)≤1000000) (x:Value) (y:Bool) :
    PfL rb ib xb t' st' cs v vb rs B w ((((w2.setCell ⟨ib,0,none⟩ (.string t')).setCell ⟨ib,1,none⟩ (.int .i64 (st'.2:Int))).setCell ⟨wr.heap.size,0,none⟩ x).setCell ⟨wr.heap.size,1,none⟩ (.bool y)) ∧
    RoB 63 wr.heap.size x y ((((w2.setCell ⟨ib,0,none⟩ (.string t')).setCell ⟨ib,1,none⟩ (.int .i64 (st'.2:Int))).setCell ⟨wr.heap.size,0,none⟩ x).setCell ⟨wr.heap.size,1,none⟩ (.bool y)):=by
 have hl:=h.p.lt;have hz:=h.p.size;have ha:Below wr.heap.size wr (wr.alloc (.cells #[.slice none 0 0,.bool false] 63)):=(Below.refl _ _).alloc (Nat.le_refl _) _;have h2:PfB rb ib xb t st.2 cs w w2:=(h.p.below ha).below (by rw [World.size_alloc]; exact hb);have hr0:w2.heap[wr.heap.size]?=some (.cells #[.slice none 0 0,.bool false] 63 (0,0)):=(hb.block _ (by omega)).trans (heap_alloc_new wr _);have hk:KeepB [rb,ib,xb] wr ((((w2.setCell ⟨ib,0,none⟩ (.string t')).setCell ⟨ib,1,none⟩ (.int .i64 (st'.2:Int))).setCell ⟨wr.heap.size,0,none⟩ x).setCell ⟨wr.heap.size,1,none⟩ (.bool y)):=by
  refine KeepB.strike (q:=wr.heap.size) ?_ (Nat.le_refl _);have k1:KeepB [wr.heap.size,rb,ib,xb] wr w2:=(KeepB.of_below ha).trans (KeepB.of_below (by rw [World.size_alloc]; exact hb));exact (((k1.trans ((KeepB.setCell (q:=ib) (o:=0) _).mono (by simp))).trans ((KeepB.setCell (q:=ib) (o:=1) _).mono (by simp))).trans ((KeepB.setCell (q:=wr.heap.size) (o:=0) _).mono (by simp))).trans ((KeepB.setCell (q:=wr.heap.size) (o:=1) _).mono (by simp))
 refine ⟨⟨(h2.set t' st'.2).more ?_,ht,h.g.keptB hk h.ni.1,ownP_keepB h.q hk h.ni.2⟩,?_⟩
 · exact ((Below.refl _ _).setCell (p:=⟨wr.heap.size,0,none⟩) (by show xb+1≤wr.heap.size; omega) _).setCell (p:=⟨wr.heap.size,1,none⟩) (by show xb+1≤wr.heap.size; omega) _
 · have hr1:((w2.setCell ⟨ib,0,none⟩ (.string t')).setCell ⟨ib,1,none⟩ (.int .i64 (st'.2:Int))).heap[wr.heap.size]?=some (.cells #[.slice none 0 0,.bool false] 63 (0,0)):=by
    rw [Below.heap_setCell _ _ _ _ (by show wr.heap.size≠ib; omega),Below.heap_setCell _ _ _ _ (by show wr.heap.size≠ib; omega)];exact hr0
   unfold RoB;generalize (w2.setCell ⟨ib,0,none⟩ (.string t')).setCell ⟨ib,1,none⟩ (.int .i64 (st'.2:Int))=W at hr1;unfold World.setCell;simp only [Array.getElem?_modify,hr1];simp
theorem PfL.push (h:PfL rb ib xb t st cs v vb rs B w wB) (hg:Gath 63 [rb,ib,xb] (xb+1) v' (rs++[r]) w5) (hgr:wB.grownBy w5 v.ownBlock) (hz:cs.setIfInBounds 6 v'=cs'):PfL rb ib xb t st cs' v' vb (rs++[r]) B w (w5.setCell ⟨xb,6,none⟩ v'):=by
 have hl:=h.p.lt;have hs:=h.p.size;have hb:Below (xb+1) wB w5:=(Below.refl _ _).grown hgr (by omega) (fun q hq=>(h.g.own q hq).1);have h5:=h.p.more hb;have hk:KeepB [rb,ib,xb] w5 (w5.setCell ⟨xb,6,none⟩ v'):=(KeepB.setCell (q:=xb) (o:=6) _).mono (by simp);have hx:PfB rb ib xb t st.2 cs' w (w5.setCell ⟨xb,6,none⟩ v'):=h5.cell 6 v' hz;have hq5:OwnP .i64 85 (xb+1) vb B w5:=ownP_of h.q hgr (fun q hq=>by
  obtain ⟨-,h2,cs2,h3⟩ := h.g.own q hq;exact .inr ⟨cs2,63,h3,by decide⟩)
 refine ⟨hx,h.t,hg.keptB hk (fun q hq hm=>?_),ownP_keepB hq5 hk h.ni.2⟩;have:=(hg.own q hq).1;simp at hm;omega
theorem PfL.snIn {s:Sn} {xa:Option Addr} {xn xc:Nat} {ya:Option Addr} {yn yc:Nat} (h:PfL rb ib xb t st cs (.slice xa xn xc) (.slice ya yn yc) s.R s.B w wr):SnIn .i64 xa xn xc ya yn yc s wr:=by
 obtain ⟨a,c,e,h3,-,h4⟩ := h.q.shape;injection e with e1 e2 e3
 subst e1 e2 e3;exact ⟨h.g.rowsL (fun p hp=>by cases hp) (fun p hp=>by cases hp),h3,h4⟩
theorem PfL.out {s:Sn} {xa:Option Addr} {xn xc:Nat} {ya:Option Addr} {yn yc:Nat} (h:PfL rb ib xb t st cs (.slice xa xn xc) (.slice ya yn yc) s.R s.B w wr) (hk:KeepB [rb] wr w'):SnIn .i64 xa xn xc ya yn yc s w':=by
 have hk':KeepB [rb,ib,xb] wr w':=hk.mono (by simp);have hq:=ownP_keepB h.q hk' h.ni.2;have hg:=h.g.keptB hk' h.ni.1;obtain ⟨a,c,e,h3,-,h4⟩ := hq.shape;injection e with e1 e2 e3
 subst e1 e2 e3;exact ⟨hg.rowsL (fun p hp=>by cases hp) (fun p hp=>by cases hp),h3,h4⟩
end
end Go.Proofs.YtagolklnjhpbdaaDoor.K
