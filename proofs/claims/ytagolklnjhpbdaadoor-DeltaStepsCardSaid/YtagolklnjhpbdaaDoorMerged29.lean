import Derived.Test.YtagolklnjhpbdaaDoorMerged0
import Derived.Test.YtagolklnjhpbdaaDoorNCutS
import Derived.Test.YtagolklnjhpbdaaDoorNTolS
import Derived.Test.YtagolklnjhpbdaaDoorMerged3
import Derived.Test.YtagolklnjhpbdaaDoorMerged22
import Derived.Test.YtagolklnjhpbdaaDoorMerged27
namespace Go.Proofs.YtagolklnjhpbdaaDoor.K
open Go.RowKit Go.Proofs.YtagolklnjhpbdaaDoor.I
theorem set10 {v:World} {p:Nat} {T:TypeId} {o0 o1 o2 o3 o4 o5 o6 o7 o8 o9:Value} (h:v.heap[p]?=some (.cells #[o0,o1,o2,o3,o4,o5,o6,o7,o8,o9] T (0,0))) (x0 x1 x2 x3 x4 x5 x6 x7 x8 x9:Value):v.grownBy ((((((((((v.setCell ⟨p,0,none⟩ (x0)).setCell ⟨p,1,none⟩ (x1)).setCell ⟨p,2,none⟩ (x2)).setCell ⟨p,3,none⟩ (x3)).setCell ⟨p,4,none⟩ (x4)).setCell ⟨p,5,none⟩ (x5)).setCell ⟨p,6,none⟩ (x6)).setCell ⟨p,7,none⟩ (x7)).setCell ⟨p,8,none⟩ (x8)).setCell ⟨p,9,none⟩ (x9)) (some p)∧((((((((((v.setCell ⟨p,0,none⟩ (x0)).setCell ⟨p,1,none⟩ (x1)).setCell ⟨p,2,none⟩ (x2)).setCell ⟨p,3,none⟩ (x3)).setCell ⟨p,4,none⟩ (x4)).setCell ⟨p,5,none⟩ (x5)).setCell ⟨p,6,none⟩ (x6)).setCell ⟨p,7,none⟩ (x7)).setCell ⟨p,8,none⟩ (x8)).setCell ⟨p,9,none⟩ (x9)).heap[p]?=some (.cells #[x0,x1,x2,x3,x4,x5,x6,x7,x8,x9] T (0,0)):=by
 have hg:∀ (u:World) (o:Nat) (x:Value),u.grownBy (u.setCell ⟨p,o,none⟩ x) (some p):=fun u o x=>grown_set u p o x
 refine ⟨grown_trans (grown_trans (grown_trans (grown_trans (grown_trans (grown_trans (grown_trans (grown_trans (grown_trans (hg v 0 _) (hg _ 1 _)) (hg _ 2 _)) (hg _ 3 _)) (hg _ 4 _)) (hg _ 5 _)) (hg _ 6 _)) (hg _ 7 _)) (hg _ 8 _)) (hg _ 9 _),?_⟩;simp [World.setCell,Array.getElem?_modify,h]
theorem cutN_b {s:Sn} (hr:∀ r ∈ s.R,AllC Rng r.l) (hg:∀ g ∈ s.B,-2147483648≤g.1∧g.1≤2147483647):SnB (cutN s):=by
 unfold cutN;refine ⟨?_,fun r hm=>?_,fun r hm=>?_,?_,fun g hm=>hg g (List.mem_of_mem_take hm)⟩
 · show ((s.R.take 8).map cutR).length≤1000;rw [List.length_map,List.length_take];omega
 all_goals first
   | (obtain ⟨q,hq,rfl⟩ := List.mem_map.1 hm
      first
      | (have:=cutR_len40 q; omega)
      | exact fun c hc=>hr q (List.mem_of_mem_take hq) c (List.mem_of_mem_take hc))
   | (show (s.B.take 30).length≤_
      rw [List.length_take];omega)
def AO (m p:Nat) (s:Sn) (u:World):Prop:=∃ xa xn xc ya yn yc,u.heap[p]?=some (.cells (snA s xa xn xc ya yn yc) 25 (0,0))∧SnO m xa xn xc ya yn yc s u
def AV (m:Nat) (v:Value) (s:Sn) (u:World):Prop:=∃ xa xn xc ya yn yc,v=.agg (snA s xa xn xc ya yn yc)∧SnO m xa xn xc ya yn yc s u
theorem AV.below {m:Nat} {v:Value} {s:Sn} {u u':World} (h:AV m v s u) (hb:Below u.heap.size u u'):AV m v s u':=by
 obtain ⟨xa,xn,xc,ya,yn,yc,e,h⟩ := h;exact ⟨xa,xn,xc,ya,yn,yc,e,h.below hb⟩
theorem AV.grown {m p:Nat} {v:Value} {s:Sn} {u u':World} (h:AV m v s u) (hg:u.grownBy u' (some p)) (hp:p<m):AV m v s u':=by
 obtain ⟨xa,xn,xc,ya,yn,yc,e,h⟩ := h;exact ⟨xa,xn,xc,ya,yn,yc,e,h.grown hg hp⟩
theorem AO.grown {m p q:Nat} {s:Sn} {u u':World} (h:AO m p s u) (hg:u.grownBy u' (some q)) (hp:q<m) (hne:p≠q):AO m p s u':=by
 obtain ⟨xa,xn,xc,ya,yn,yc,e,h⟩ := h;exact ⟨xa,xn,xc,ya,yn,yc,(hg.block p (gSx.1 e).1 (fun e2=>hne (Option.some.inj e2))).trans e,h.grown hg hp⟩
theorem AO.below {m p:Nat} {s:Sn} {u u':World} (h:AO m p s u) (hb:Below u.heap.size u u'):AO m p s u':=by
 obtain ⟨xa,xn,xc,ya,yn,yc,e,h⟩ := h;exact ⟨xa,xn,xc,ya,yn,yc,(hb.block p (gSx.1 e).1).trans e,h.below hb⟩
def TV (v:Value) (s:Sn) (u:World):Prop:=∃ xa xn xc ya yn yc,v=.agg (snA s xa xn xc ya yn yc)∧SnT xa xn xc ya yn yc s u
def TO (p:Nat) (s:Sn) (u:World):Prop:=∃ xa xn xc ya yn yc,u.heap[p]?=some (.cells (snA s xa xn xc ya yn yc) 32 (0,0))∧SnT xa xn xc ya yn yc s u
theorem TV.below {v:Value} {s:Sn} {u u':World} (h:TV v s u) (hb:Below u.heap.size u u'):TV v s u':=by
 obtain ⟨xa,xn,xc,ya,yn,yc,e,h⟩ := h;exact ⟨xa,xn,xc,ya,yn,yc,e,h.below hb⟩
theorem TV.wrote {v:Value} {s:Sn} {u u':World} {p:Nat} {cs:Array Value} (h:TV v s u) (hg:u.grownBy u' (some p)) (hp:u.heap[p]?=some (.cells cs 32 (0,0))):TV v s u':=by
 obtain ⟨xa,xn,xc,ya,yn,yc,e,h⟩ := h;exact ⟨xa,xn,xc,ya,yn,yc,e,h.wrote hg hp⟩
theorem TO.below {p:Nat} {s:Sn} {u u':World} (h:TO p s u) (hb:Below u.heap.size u u'):TO p s u':=by
 obtain ⟨xa,xn,xc,ya,yn,yc,e,h⟩ := h;exact ⟨xa,xn,xc,ya,yn,yc,(hb.block p (gSx.1 e).1).trans e,h.below hb⟩
theorem TO.wrote {p q:Nat} {s:Sn} {u u':World} {cs:Array Value} (h:TO p s u) (hg:u.grownBy u' (some q)) (hq:u.heap[q]?=some (.cells cs 32 (0,0))) (hne:p≠q):TO p s u':=by
 obtain ⟨xa,xn,xc,ya,yn,yc,e,h⟩ := h;exact ⟨xa,xn,xc,ya,yn,yc,(hg.block p (gSx.1 e).1 (fun e2=>hne (Option.some.inj e2))).trans e,h.wrote hg hq⟩
structure Al (p q m:Nat) (L:Nat→Bool) (f:Nat→Value) (u:World):Prop where
 a:L 4=true→∃ z,f p=.pointer (some ⟨z,0,none⟩)∧m≤z∧u.heap[z]?=some (.cells #[.int .i64 0,.int .i64 0,.int .i64 0,.int .i64 0,.int .i64 0,.string ⟨#[]⟩,.slice none 0 0,.int .i64 0,.int .i64 0,.slice none 0 0] 32 (0,0))
 b:L 5=true→∃ z,f q=.pointer (some ⟨z,0,none⟩)∧m≤z∧u.heap[z]?=some (.cells #[.int .i64 0,.int .i64 0,.int .i64 0,.int .i64 0,.int .i64 0,.string ⟨#[]⟩,.slice none 0 0,.int .i64 0,.int .i64 0,.slice none 0 0] 32 (0,0))
 n:L 4=true→L 5=true→f p≠f q
theorem Al.below {p q m:Nat} {L:Nat→Bool} {f:Nat→Value} {u u':World} (h:Al p q m L f u) (hb:Below u.heap.size u u'):Al p q m L f u' :=
 ⟨fun e=>by obtain ⟨z,h1,h2,h3⟩ := h.a e; exact ⟨z,h1,h2,(hb.block z (gSx.1 h3).1).trans h3⟩,fun e=>by obtain ⟨z,h1,h2,h3⟩ := h.b e; exact ⟨z,h1,h2,(hb.block z (gSx.1 h3).1).trans h3⟩,h.n⟩
def B4 (p q a b m:Nat) (S1 S2:Sn) (wD:World):Nat→(Nat→Bool)→(Nat→Value)→World→Prop
  | 0,L,f,u=>Below m wD u∧Al p q m L f u
  | 1,L,f,u=>Below m wD u∧Al p q m L f u∧TV (f a) S1 u
  | 2,L,f,u=>Below m wD u∧Al p q m L f u∧TV (f a) S1 u∧TV (f b) S2 u
  | 3,_,f,u=>Below m wD u∧∃ p5 p6,f p=.pointer (some ⟨p5,0,none⟩)∧f q=.pointer (some ⟨p6,0,none⟩)∧m≤p6∧p5≠p6∧TO p5 S1 u∧u.heap[p6]?=some (.cells #[.int .i64 0,.int .i64 0,.int .i64 0,.int .i64 0,.int .i64 0,.string ⟨#[]⟩,.slice none 0 0,.int .i64 0,.int .i64 0,.slice none 0 0] 32 (0,0))∧TV (f b) S2 u
  | _,_,f,u=>Below m wD u∧∃ p5 p6,f p=.pointer (some ⟨p5,0,none⟩)∧f q=.pointer (some ⟨p6,0,none⟩)∧TO p5 S1 u∧TO p6 S2 u
theorem B4.base {p q a b m k:Nat} {S1 S2:Sn} {wD u:World} {L:Nat→Bool} {f:Nat→Value} (h:B4 p q a b m S1 S2 wD k L f u):Below m wD u:=by
 match k,h with
 | 0,h=>exact h.1
 | 1,h=>exact h.1
 | 2,h=>exact h.1
 | 3,h=>exact h.1
 | _+4,h=>exact h.1
theorem B4.al {p q a b m k:Nat} {S1 S2:Sn} {wD u:World} {L:Nat→Bool} {f:Nat→Value} (hk:k≤2) (h:B4 p q a b m S1 S2 wD k L f u):Al p q m L f u:=by
 match k,hk,h with
 | 0,_,h=>exact h.2
 | 1,_,h=>exact h.2.1
 | 2,_,h=>exact h.2.1
theorem B4.cong {p q a b m k:Nat} {S1 S2:Sn} {wD u:World} {L L2:Nat→Bool} {f f2:Nat→Value} (hk:k≤2) (hb:Al p q m L2 f2 u) (e14:f a=f2 a) (e16:f b=f2 b) (h:B4 p q a b m S1 S2 wD k L f u):B4 p q a b m S1 S2 wD k L2 f2 u:=by
 match k,hk,h with
 | 0,_,h=>exact ⟨h.1,hb⟩
 | 1,_,h=>exact ⟨h.1,hb,by rw [← e14]; exact h.2.2⟩
 | 2,_,h=>exact ⟨h.1,hb,by rw [← e14]; exact h.2.2.1,by rw [← e16]; exact h.2.2.2⟩
theorem B4.more {p q a b m k:Nat} {S1 S2:Sn} {wD u u':World} {L:Nat→Bool} {f:Nat→Value} (hm:m≤wD.heap.size) (hk:k≤2) (h:B4 p q a b m S1 S2 wD k L f u) (hb:Below u.heap.size u u'):B4 p q a b m S1 S2 wD k L f u':=by
 have h0:Below m wD u':=h.base.trans (hb.mono (Nat.le_trans hm h.base.size));have hA:=(h.al hk).below hb
 match k,hk,h with
 | 0,_,h=>exact ⟨h0,hA⟩
 | 1,_,h=>exact ⟨h0,hA,h.2.2.below hb⟩
 | 2,_,h=>exact ⟨h0,hA,h.2.2.1.below hb,h.2.2.2.below hb⟩
theorem Al.keep {p q m:Nat} {L L2:Nat→Bool} {f f2:Nat→Value} {u:World} (e4:L2 4=L 4) (e5:L2 5=L 5) (g5:f2 p=f p) (g6:f2 q=f q) (h:Al p q m L f u):Al p q m L2 f2 u :=
 ⟨fun e=>by rw [g5]; exact h.a (by rw [← e4]; exact e),fun e=>by rw [g6]; exact h.b (by rw [← e5]; exact e),fun e e'=>by rw [g5,g6]; exact h.n (by rw [← e4]; exact e) (by rw [← e5]; exact e')⟩
def C3 (a b c rb m:Nat) (S1 S2 S3:Sn) (w wB:World):Nat→(Nat→Value)→World→Prop
  | 0,_,u=>Below m wB u
  | 1,f,u=>Below m wB u∧AV m (f a) S1 u
  | 2,f,u=>Below m wB u∧AV m (f a) S1 u∧AV m (f b) S2 u
  | 3,f,u=>Below m wB u∧AV m (f a) S1 u∧AV m (f b) S2 u∧AV m (f c) S3 u
  | 4,f,u=>Below rb w u∧AO m rb S1 u∧u.heap[rb+1]?=wB.heap[rb+1]?∧u.heap[rb+2]?=wB.heap[rb+2]?∧AV m (f b) S2 u∧AV m (f c) S3 u
  | 5,f,u=>Below rb w u∧AO m rb S1 u∧AO m (rb+1) S2 u∧u.heap[rb+2]?=wB.heap[rb+2]?∧AV m (f c) S3 u
  | _,_,u=>Below rb w u∧AO m rb S1 u∧AO m (rb+1) S2 u∧AO m (rb+2) S3 u
theorem C3.base {a b c rb m k:Nat} {S1 S2 S3:Sn} {w wB u:World} {f:Nat→Value} (hk:k≤2) (h:C3 a b c rb m S1 S2 S3 w wB k f u):Below m wB u:=by
 match k,hk,h with
 | 0,_,h=>exact h
 | 1,_,h=>exact h.1
 | 2,_,h=>exact h.1
theorem C3.cong {a b c rb m k:Nat} {S1 S2 S3:Sn} {w wB u:World} {f f2:Nat→Value} (ea:k=1∨k=2∨k=3→f a=f2 a) (eb:k=2∨k=3∨k=4→f b=f2 b) (ec:k=3∨k=4∨k=5→f c=f2 c) (h:C3 a b c rb m S1 S2 S3 w wB k f u):C3 a b c rb m S1 S2 S3 w wB k f2 u:=by
 match k,h,ea,eb,ec with
 | 0,h,_,_,_=>exact h
 | 1,⟨h,h1⟩,ea,_,_=>exact ⟨h,by rw [← ea (.inl rfl)]; exact h1⟩
 | 2,⟨h,h1,h2⟩,ea,eb,_=>exact ⟨h,by rw [← ea (.inr (.inl rfl))]; exact h1,by rw [← eb (.inl rfl)]; exact h2⟩
 | 3,⟨h,h1,h2,h3⟩,ea,eb,ec=>exact ⟨h,by rw [← ea (.inr (.inr rfl))]; exact h1,by rw [← eb (.inr (.inl rfl))]; exact h2,by rw [← ec (.inl rfl)]; exact h3⟩
 | 4,⟨h,h1,h2,h3,h4,h5⟩,_,eb,ec=>exact ⟨h,h1,h2,h3,by rw [← eb (.inr (.inr rfl))]; exact h4,by rw [← ec (.inr (.inl rfl))]; exact h5⟩
 | 5,⟨h,h1,h2,h3,h4⟩,_,_,ec=>exact ⟨h,h1,h2,h3,by rw [← ec (.inr (.inr rfl))]; exact h4⟩
 | _+6,h,_,_,_=>exact h
end Go.Proofs.YtagolklnjhpbdaaDoor.K

namespace Go.Proofs.YtagolklnjhpbdaaDoor.K
open Go.RowKit Go.Proofs.YtagolklnjhpbdaaDoor.I
def Few (s:Sn):Prop:=s.R.length≤8∧∀ r ∈ s.R,r.l.length≤40
theorem cutN_few (s:Sn):Few (cutN s):=by
 refine ⟨?_,fun r hr=>?_⟩
 · show ((s.R.take 8).map cutR).length≤8;rw [List.length_map,List.length_take];omega
 · obtain ⟨q,hq,rfl⟩ := List.mem_map.1 (show r ∈ (s.R.take 8).map cutR from hr);exact cutR_len40 q
theorem difL_length (a:Sn):∀ (R:List Ro) (y:Nat),(difL a y R).length≤R.length
  | [],_=>Nat.le_refl _
  | r::R,y=>by
   have ih:=difL_length a R (y+1);unfold difL
   split
   · rw [List.length_cons]; omega
   · rw [List.length_cons,List.length_cons]; omega
theorem few_row {s:Sn} (h:Few s) (a:Sn):∀ x ∈ difL a 0 s.R,(packR x.2).length≤1449:=fun x hx=>by
 have h1:=packR_len x.2;have h2:=h.2 _ (difL_mem a s.R 0 x hx);omega
theorem few_all {s:Sn} (h:Few s) (a:Sn):(difL a 0 s.R).length*(9+1449)≤900000:=by
 have h1:=difL_length a s.R 0;have h2:=h.1;have h3:(difL a 0 s.R).length≤8:=by omega
 calc (difL a 0 s.R).length*(9+1449)≤8*(9+1449):=Nat.mul_le_mul_right _ h3
   _≤900000:=by decide
theorem diffN_len {s:Sn} (h:Few s) (a:Sn):(diffN a s).length≤1000000:=by
 unfold diffN
 split
 · next hh =>
   obtain ⟨h1,h2,h3,h4⟩ := hh.2.1.resolve_left hh.2.2;have a1:=headB_len h2.2.2.2 h4.2;have a2:=rowsD_len (L:=1449) (difL a 0 s.R) (few_row h a);have a3:=few_all h a;have a4:=numB_len ((Go.Proofs.YtagolklnjhpbdaaDoor.S.sumOf (packN a):Nat):Int);have a5:=numB_len ((difL a 0 s.R).length:Int);unfold rawD;rw [List.length_append,List.length_append,List.length_append];omega
 · exact Nat.zero_le _
theorem packN_full (s:Sn):packN s=[]↔¬ FullN s:=by
 rw [packN_nil];unfold FullN;constructor
 · rintro (h | h) ⟨h1,h2⟩
   · exact h2 h
   · exact h h1
 · intro h;by_cases h1:s=emptyN
   · exact .inl h1
   · exact .inr (fun h2=>h ⟨h2,h1⟩)
theorem mayN_empty:MayN emptyN:=.inl rfl
theorem toList_nil {b:ByteArray} (h:b.data.toList=[]):(b.toList == ([]:List UInt8))=true∧(b.toList == (⟨#[]⟩ : ByteArray).toList)=true:=by
 refine ⟨?_,?_⟩
 · rw [ByteArray.toList_eq,h]; rfl
 · rw [ByteArray.toList_eq,ByteArray.toList_eq,h]; rfl
theorem toList_some {b:ByteArray} (h:b.data.toList≠[]):(b.toList == ([]:List UInt8))=false∧(b.toList == (⟨#[]⟩ : ByteArray).toList)=false:=by
 refine ⟨?_,?_⟩
 · rw [ByteArray.toList_eq,beq_eq_false_iff_ne]; exact h
 · rw [ByteArray.toList_eq,ByteArray.toList_eq,beq_eq_false_iff_ne]; exact h
end Go.Proofs.YtagolklnjhpbdaaDoor.K

namespace Go.Proofs.YtagolklnjhpbdaaDoor.K
open Go.RowKit Go.Proofs.YtagolklnjhpbdaaDoor.I
def NoI (p:Nat) (w:World):Prop:=∃ cs T,w.heap[p]?=some (.cells cs T (0,0))∧∀ (i:Nat) (x:Value),cs[i]?=some x→(∀ z,x≠.int .i32 z)∧∀ b,x≠.bool b
theorem NoI.cell {p off:Nat} {w:World} {x:Value} (h:NoI p w) (hc:w.cell? ⟨p,off,none⟩=some x):(∀ z,x≠.int .i32 z)∧∀ b,x≠.bool b:=by
 obtain ⟨cs,T,h1,h2⟩ := h;rw [cell_block h1] at hc;exact h2 off x hc
theorem NoI.snap {p:Nat} {w:World} {s:Sn} {xa:Option Addr} {xn xc:Nat} {ya:Option Addr} {yn yc:Nat} {T:TypeId} (h:w.heap[p]?=some (.cells (snA s xa xn xc ya yn yc) T (0,0))):NoI p w:=by
 refine ⟨_,T,h,fun i x hx=>?_⟩;unfold snA at hx
 match i,hx with
 | 0,hx=>cases hx; exact ⟨nofun,nofun⟩
 | 1,hx=>cases hx; exact ⟨nofun,nofun⟩
 | 2,hx=>cases hx; exact ⟨nofun,nofun⟩
 | 3,hx=>cases hx; exact ⟨nofun,nofun⟩
 | 4,hx=>cases hx; exact ⟨nofun,nofun⟩
 | 5,hx=>cases hx; exact ⟨nofun,nofun⟩
 | 6,hx=>cases hx; exact ⟨nofun,nofun⟩
 | 7,hx=>cases hx; exact ⟨nofun,nofun⟩
 | 8,hx=>cases hx; exact ⟨nofun,nofun⟩
 | 9,hx=>cases hx; exact ⟨nofun,nofun⟩
 | _+10,hx=>simp at hx
theorem PairsIn.noI {p:Nat} {a:Option Addr} {n c:Nat} {l:List (Int × Int)} {u v:World} (h:PairsIn .i32 a n c l u) (hp:NoI p u) (hk:u.grownBy v (some p)):PairsIn .i32 a n c l v:=by
 refine ⟨h.len,h.fit,h.top,h.at_.imp id ?_⟩;rintro ⟨b,off,ha,hl,hi⟩;cases l with
 | nil=>exact ⟨b,off,ha,Nat.lt_of_lt_of_le hl hk.size,fun i g hg=>by cases hg⟩
 | cons g l =>
  have hne:b≠p:=fun e=>by
   subst e;exact (hp.cell (hi 0 g rfl).1).1 _ rfl
  have hb:=hk.block b hl (fun e=>hne (Option.some.inj e));exact ⟨b,off,ha,Nat.lt_of_lt_of_le hl hk.size,fun i g hg=>⟨(World.cell?_of_block (a:=⟨b,off+i*2,none⟩) hb).trans (hi i g hg).1,(World.cell?_of_block (a:=⟨b,off+i*2+1,none⟩) hb).trans (hi i g hg).2⟩⟩
theorem RowV.noI {p:Nat} {d:Rv} {r:Ro} {u v:World} (h:RowV .i32 d.val r u) (hp:NoI p u) (hk:u.grownBy v (some p)):RowV .i32 d.val r v:=by
 by_cases hn:d.n=0
 · obtain ⟨a',c',e,hi,h6⟩ := h;have e2:=Rv.val_inj (v:=⟨a',r.l.length,c',r.wrapped⟩) e;subst e2;exact ⟨a',c',e,⟨hi.len,.inl (List.eq_nil_of_length_eq_zero hn)⟩,h6⟩
 · refine h.moved hk.size (fun b off e hl=>hk.block b hl (fun e'=>?_));obtain ⟨a',c',e1,hce,-⟩ := h;have e2:=Rv.val_inj (v:=⟨a',r.l.length,c',r.wrapped⟩) e1;subst e2;rcases hce.at_ with h0 | ⟨b',off',ha,_,hc⟩
   · exact hn (by show r.l.length=0; rw [h0]; rfl)
   · rw [show a'=some ⟨b,off,none⟩ from e] at ha;cases ha;obtain ⟨rl,hrl⟩ : ∃ rl,r.l=rl:=⟨_,rfl⟩;have hn:r.l.length≠0:=hn;rw [hrl] at hc hn;cases rl with
     | nil=>exact hn rfl
     | cons d ds =>
      have hpb:b=p:=Option.some.inj e';subst hpb;exact (hp.cell (hc 0 d rfl).c0).1 _ rfl
theorem SnIn.noI {p:Nat} {ra:Option Addr} {rn rc:Nat} {ga:Option Addr} {gn gc:Nat} {s:Sn} {u v:World} (h:SnIn .i32 ra rn rc ga gn gc s u) (hp:NoI p u) (hk:u.grownBy v (some p)):SnIn .i32 ra rn rc ga gn gc s v:=by
 refine ⟨?_,h.beg.noI hp hk,h.nil⟩;obtain ⟨vs,h1,h2,h3⟩ := h.rows.ex;refine ⟨⟨vs,?_,⟨h2.1,fun i d r hd hr=>(h2.2 i d r hd hr).noI hp hk⟩,h3⟩,h.rows.nil,h.rows.off⟩;by_cases hn:rn=0
 · exact ⟨h1.len,h1.fit,h1.top,.inl (List.eq_nil_of_length_eq_zero (by rw [← h1.len]; exact hn))⟩
 · refine h1.blocks hk.size (fun b off e hl=>hk.block b hl (fun e'=>?_));rcases h1.at_ with h0 | ⟨b',off',ha,_,hi⟩
   · exact hn (by rw [h1.len,h0]; rfl)
   · rw [e] at ha;cases ha
     match vs,h1.len with
     | [],hl=>exact hn hl
     | d::ds,_ =>
      have hpb:b=p:=Option.some.inj e';subst hpb;exact (hp.cell (hi 0 d rfl).2).2 _ rfl
end Go.Proofs.YtagolklnjhpbdaaDoor.K
