import Derived.Test.YtagolklnjhpbdaaDoorMerged0
import Derived.Test.YtagolklnjhpbdaaDoorNCutS
import Derived.Test.YtagolklnjhpbdaaDoorNTolS
import Derived.Test.YtagolklnjhpbdaaDoorMerged3
import Derived.Test.YtagolklnjhpbdaaDoorMerged22
import Derived.Test.YtagolklnjhpbdaaDoorMerged27
import Derived.Test.YtagolklnjhpbdaaDoorRows
import Derived.WalkKit
import Derived.WalkLawsBesides
import Derived.WalkSpells
import Derived.Outline
import Derived.Lib.Hide
import Derived.Below
import Derived.IntWalk
import Derived.OwnWalk
import Derived.Laws.Cover4
import Derived.Laws.BytesArg
import Derived.Test.YtagolklnjhpbdaaDoorMerged12
import Derived.Test.YtagolklnjhpbdaaDoorMerged9
import Derived.Test.YtagolklnjhpbdaaDoorMerged8
import Derived.Test.YtagolklnjhpbdaaDoorMerged26
import Derived.Lib.QuietBelow
import Derived.BigQuiet
import Derived.Test.YtagolklnjhpbdaaDoorMerged15
import Derived.Test.YtagolklnjhpbdaaDoorMerged13
import Derived.Test.YtagolklnjhpbdaaDoorMerged14
namespace Go.Proofs.YtagolklnjhpbdaaDoor.K
open Go.RowKit Go.Proofs.YtagolklnjhpbdaaDoor.I
theorem set10 {v:World} {p:Nat} {T:TypeId} {o0 o1 o2 o3 o4 o5 o6 o7 o8 o9:Value} (h:v.heap[p]?=some (.cells #[o0,o1,o2,o3,o4,o5,o6,o7,o8,o9] T (0,0))) (x0 x1 x2 x3 x4 x5 x6 x7 x8 x9:Value):v.grownBy ((((((((((v.setCell ⟨p,0,none⟩ (x0)).setCell ⟨p,1,none⟩ (x1)).setCell ⟨p,2,none⟩ (x2)).setCell ⟨p,3,none⟩ (x3)).setCell ⟨p,4,none⟩ (x4)).setCell ⟨p,5,none⟩ (x5)).setCell ⟨p,6,none⟩ (x6)).setCell ⟨p,7,none⟩ (x7)).setCell ⟨p,8,none⟩ (x8)).setCell ⟨p,9,none⟩ (x9)) (some p)∧((((((((((v.setCell ⟨p,0,none⟩ (x0)).setCell ⟨p,1,none⟩ (x1)).setCell ⟨p,2,none⟩ (x2)).setCell ⟨p,3,none⟩ (x3)).setCell ⟨p,4,none⟩ (x4)).setCell ⟨p,5,none⟩ (x5)).setCell ⟨p,6,none⟩ (x6)).setCell ⟨p,7,none⟩ (x7)).setCell ⟨p,8,none⟩ (x8)).setCell ⟨p,9,none⟩ (x9)).heap[p]?=some (.cells #[x0,x1,x2,x3,x4,x5,x6,x7,x8,x9] T (0,0)):=by
 have hg:∀ (u:World) (o:Nat) (x:Value),u.grownBy (u.setCell ⟨p,o,none⟩ x) (some p):=fun u o x=>grown_set u p o x
 refine ⟨grown_trans (grown_trans (grown_trans (grown_trans (grown_trans (grown_trans (grown_trans (grown_trans (grown_trans (hg v 0 _) (hg _ 1 _)) (hg _ 2 _)) (hg _ 3 _)) (hg _ 4 _)) (hg _ 5 _)) (hg _ 6 _)) (hg _ 7 _)) (hg _ 8 _)) (hg _ 9 _),?_⟩;simp [World.setCell,Array.getElem?_modify,h]
theorem cutN_b {s:Sn} (hr:∀ r ∈ s.R,AllC Rng r.l) (hg:∀ g ∈ s.B,-2147483648≤g.1∧g.1≤2147483647):SnB (cutN s):=by
 unfold cutN;refine ⟨?_,fun r hm=>?_,fun r hm=>?_,?_,fun g hm=>hg g (List.mem_of_mem_take hm)⟩
 · show ((s.R.take 8).map cutR).length≤1000;rw [List.length_map,List.length_take];omega
 all_goals first
   | (obtain ⟨q,hq,rfl⟩ := List.mem_map.1 hm
      first
      | (have:=cutR_len40 q; omega)
      | exact fun c hc=>hr q (List.mem_of_mem_take hq) c (List.mem_of_mem_take hc))
   | (show (s.B.take 30).length≤_
      rw [List.length_take];omega)
def AO (m p:Nat) (s:Sn) (u:World):Prop:=∃ xa xn xc ya yn yc,u.heap[p]?=some (.cells (snA s xa xn xc ya yn yc) 25 (0,0))∧SnO m xa xn xc ya yn yc s u
def AV (m:Nat) (v:Value) (s:Sn) (u:World):Prop:=∃ xa xn xc ya yn yc,v=.agg (snA s xa xn xc ya yn yc)∧SnO m xa xn xc ya yn yc s u
theorem AV.below {m:Nat} {v:Value} {s:Sn} {u u':World} (h:AV m v s u) (hb:Below u.heap.size u u'):AV m v s u':=by
 obtain ⟨xa,xn,xc,ya,yn,yc,e,h⟩ := h;exact ⟨xa,xn,xc,ya,yn,yc,e,h.below hb⟩
theorem AV.grown {m p:Nat} {v:Value} {s:Sn} {u u':World} (h:AV m v s u) (hg:u.grownBy u' (some p)) (hp:p<m):AV m v s u':=by
 obtain ⟨xa,xn,xc,ya,yn,yc,e,h⟩ := h;exact ⟨xa,xn,xc,ya,yn,yc,e,h.grown hg hp⟩
theorem AO.grown {m p q:Nat} {s:Sn} {u u':World} (h:AO m p s u) (hg:u.grownBy u' (some q)) (hp:q<m) (hne:p≠q):AO m p s u':=by
 obtain ⟨xa,xn,xc,ya,yn,yc,e,h⟩ := h;exact ⟨xa,xn,xc,ya,yn,yc,(hg.block p (gSx.1 e).1 (fun e2=>hne (Option.some.inj e2))).trans e,h.grown hg hp⟩
theorem AO.below {m p:Nat} {s:Sn} {u u':World} (h:AO m p s u) (hb:Below u.heap.size u u'):AO m p s u':=by
 obtain ⟨xa,xn,xc,ya,yn,yc,e,h⟩ := h;exact ⟨xa,xn,xc,ya,yn,yc,(hb.block p (gSx.1 e).1).trans e,h.below hb⟩
def TV (v:Value) (s:Sn) (u:World):Prop:=∃ xa xn xc ya yn yc,v=.agg (snA s xa xn xc ya yn yc)∧SnT xa xn xc ya yn yc s u
def TO (p:Nat) (s:Sn) (u:World):Prop:=∃ xa xn xc ya yn yc,u.heap[p]?=some (.cells (snA s xa xn xc ya yn yc) 32 (0,0))∧SnT xa xn xc ya yn yc s u
theorem TV.below {v:Value} {s:Sn} {u u':World} (h:TV v s u) (hb:Below u.heap.size u u'):TV v s u':=by
 obtain ⟨xa,xn,xc,ya,yn,yc,e,h⟩ := h;exact ⟨xa,xn,xc,ya,yn,yc,e,h.below hb⟩
theorem TV.wrote {v:Value} {s:Sn} {u u':World} {p:Nat} {cs:Array Value} (h:TV v s u) (hg:u.grownBy u' (some p)) (hp:u.heap[p]?=some (.cells cs 32 (0,0))):TV v s u':=by
 obtain ⟨xa,xn,xc,ya,yn,yc,e,h⟩ := h;exact ⟨xa,xn,xc,ya,yn,yc,e,h.wrote hg hp⟩
theorem TO.below {p:Nat} {s:Sn} {u u':World} (h:TO p s u) (hb:Below u.heap.size u u'):TO p s u':=by
 obtain ⟨xa,xn,xc,ya,yn,yc,e,h⟩ := h;exact ⟨xa,xn,xc,ya,yn,yc,(hb.block p (gSx.1 e).1).trans e,h.below hb⟩
theorem TO.wrote {p q:Nat} {s:Sn} {u u':World} {cs:Array Value} (h:TO p s u) (hg:u.grownBy u' (some q)) (hq:u.heap[q]?=some (.cells cs 32 (0,0))) (hne:p≠q):TO p s u':=by
 obtain ⟨xa,xn,xc,ya,yn,yc,e,h⟩ := h;exact ⟨xa,xn,xc,ya,yn,yc,(hg.block p (gSx.1 e).1 (fun e2=>hne (Option.some.inj e2))).trans e,h.wrote hg hq⟩
structure Al (p q m:Nat) (L:Nat→Bool) (f:Nat→Value) (u:World):Prop where
 a:L 4=true→∃ z,f p=.pointer (some ⟨z,0,none⟩)∧m≤z∧u.heap[z]?=some (.cells #[.int .i64 0,.int .i64 0,.int .i64 0,.int .i64 0,.int .i64 0,.string ⟨#[]⟩,.slice none 0 0,.int .i64 0,.int .i64 0,.slice none 0 0] 32 (0,0))
 b:L 5=true→∃ z,f q=.pointer (some ⟨z,0,none⟩)∧m≤z∧u.heap[z]?=some (.cells #[.int .i64 0,.int .i64 0,.int .i64 0,.int .i64 0,.int .i64 0,.string ⟨#[]⟩,.slice none 0 0,.int .i64 0,.int .i64 0,.slice none 0 0] 32 (0,0))
 n:L 4=true→L 5=true→f p≠f q
theorem Al.below {p q m:Nat} {L:Nat→Bool} {f:Nat→Value} {u u':World} (h:Al p q m L f u) (hb:Below u.heap.size u u'):Al p q m L f u' :=
 ⟨fun e=>by obtain ⟨z,h1,h2,h3⟩ := h.a e; exact ⟨z,h1,h2,(hb.block z (gSx.1 h3).1).trans h3⟩,fun e=>by obtain ⟨z,h1,h2,h3⟩ := h.b e; exact ⟨z,h1,h2,(hb.block z (gSx.1 h3).1).trans h3⟩,h.n⟩
def B4 (p q a b m:Nat) (S1 S2:Sn) (wD:World):Nat→(Nat→Bool)→(Nat→Value)→World→Prop
  | 0,L,f,u=>Below m wD u∧Al p q m L f u
  | 1,L,f,u=>Below m wD u∧Al p q m L f u∧TV (f a) S1 u
  | 2,L,f,u=>Below m wD u∧Al p q m L f u∧TV (f a) S1 u∧TV (f b) S2 u
  | 3,_,f,u=>Below m wD u∧∃ p5 p6,f p=.pointer (some ⟨p5,0,none⟩)∧f q=.pointer (some ⟨p6,0,none⟩)∧m≤p6∧p5≠p6∧TO p5 S1 u∧u.heap[p6]?=some (.cells #[.int .i64 0,.int .i64 0,.int .i64 0,.int .i64 0,.int .i64 0,.string ⟨#[]⟩,.slice none 0 0,.int .i64 0,.int .i64 0,.slice none 0 0] 32 (0,0))∧TV (f b) S2 u
  | _,_,f,u=>Below m wD u∧∃ p5 p6,f p=.pointer (some ⟨p5,0,none⟩)∧f q=.pointer (some ⟨p6,0,none⟩)∧TO p5 S1 u∧TO p6 S2 u
theorem B4.base {p q a b m k:Nat} {S1 S2:Sn} {wD u:World} {L:Nat→Bool} {f:Nat→Value} (h:B4 p q a b m S1 S2 wD k L f u):Below m wD u:=by
 match k,h with
 | 0,h=>exact h.1
 | 1,h=>exact h.1
 | 2,h=>exact h.1
 | 3,h=>exact h.1
 | _+4,h=>exact h.1
theorem B4.al {p q a b m k:Nat} {S1 S2:Sn} {wD u:World} {L:Nat→Bool} {f:Nat→Value} (hk:k≤2) (h:B4 p q a b m S1 S2 wD k L f u):Al p q m L f u:=by
 match k,hk,h with
 | 0,_,h=>exact h.2
 | 1,_,h=>exact h.2.1
 | 2,_,h=>exact h.2.1
theorem B4.cong {p q a b m k:Nat} {S1 S2:Sn} {wD u:World} {L L2:Nat→Bool} {f f2:Nat→Value} (hk:k≤2) (hb:Al p q m L2 f2 u) (e14:f a=f2 a) (e16:f b=f2 b) (h:B4 p q a b m S1 S2 wD k L f u):B4 p q a b m S1 S2 wD k L2 f2 u:=by
 match k,hk,h with
 | 0,_,h=>exact ⟨h.1,hb⟩
 | 1,_,h=>exact ⟨h.1,hb,by rw [← e14]; exact h.2.2⟩
 | 2,_,h=>exact ⟨h.1,hb,by rw [← e14]; exact h.2.2.1,by rw [← e16]; exact h.2.2.2⟩
theorem B4.more {p q a b m k:Nat} {S1 S2:Sn} {wD u u':World} {L:Nat→Bool} {f:Nat→Value} (hm:m≤wD.heap.size) (hk:k≤2) (h:B4 p q a b m S1 S2 wD k L f u) (hb:Below u.heap.size u u'):B4 p q a b m S1 S2 wD k L f u':=by
 have h0:Below m wD u':=h.base.trans (hb.mono (Nat.le_trans hm h.base.size));have hA:=(h.al hk).below hb
 match k,hk,h with
 | 0,_,h=>exact ⟨h0,hA⟩
 | 1,_,h=>exact ⟨h0,hA,h.2.2.below hb⟩
 | 2,_,h=>exact ⟨h0,hA,h.2.2.1.below hb,h.2.2.2.below hb⟩
theorem Al.keep {p q m:Nat} {L L2:Nat→Bool} {f f2:Nat→Value} {u:World} (e4:L2 4=L 4) (e5:L2 5=L 5) (g5:f2 p=f p) (g6:f2 q=f q) (h:Al p q m L f u):Al p q m L2 f2 u :=
 ⟨fun e=>by rw [g5]; exact h.a (by rw [← e4]; exact e),fun e=>by rw [g6]; exact h.b (by rw [← e5]; exact e),fun e e'=>by rw [g5,g6]; exact h.n (by rw [← e4]; exact e) (by rw [← e5]; exact e')⟩
def C3 (a b c rb m:Nat) (S1 S2 S3:Sn) (w wB:World):Nat→(Nat→Value)→World→Prop
  | 0,_,u=>Below m wB u
  | 1,f,u=>Below m wB u∧AV m (f a) S1 u
  | 2,f,u=>Below m wB u∧AV m (f a) S1 u∧AV m (f b) S2 u
  | 3,f,u=>Below m wB u∧AV m (f a) S1 u∧AV m (f b) S2 u∧AV m (f c) S3 u
  | 4,f,u=>Below rb w u∧AO m rb S1 u∧u.heap[rb+1]?=wB.heap[rb+1]?∧u.heap[rb+2]?=wB.heap[rb+2]?∧AV m (f b) S2 u∧AV m (f c) S3 u
  | 5,f,u=>Below rb w u∧AO m rb S1 u∧AO m (rb+1) S2 u∧u.heap[rb+2]?=wB.heap[rb+2]?∧AV m (f c) S3 u
  | _,_,u=>Below rb w u∧AO m rb S1 u∧AO m (rb+1) S2 u∧AO m (rb+2) S3 u
theorem C3.base {a b c rb m k:Nat} {S1 S2 S3:Sn} {w wB u:World} {f:Nat→Value} (hk:k≤2) (h:C3 a b c rb m S1 S2 S3 w wB k f u):Below m wB u:=by
 match k,hk,h with
 | 0,_,h=>exact h
 | 1,_,h=>exact h.1
 | 2,_,h=>exact h.1
theorem C3.cong {a b c rb m k:Nat} {S1 S2 S3:Sn} {w wB u:World} {f f2:Nat→Value} (ea:k=1∨k=2∨k=3→f a=f2 a) (eb:k=2∨k=3∨k=4→f b=f2 b) (ec:k=3∨k=4∨k=5→f c=f2 c) (h:C3 a b c rb m S1 S2 S3 w wB k f u):C3 a b c rb m S1 S2 S3 w wB k f2 u:=by
 match k,h,ea,eb,ec with
 | 0,h,_,_,_=>exact h
 | 1,⟨h,h1⟩,ea,_,_=>exact ⟨h,by rw [← ea (.inl rfl)]; exact h1⟩
 | 2,⟨h,h1,h2⟩,ea,eb,_=>exact ⟨h,by rw [← ea (.inr (.inl rfl))]; exact h1,by rw [← eb (.inl rfl)]; exact h2⟩
 | 3,⟨h,h1,h2,h3⟩,ea,eb,ec=>exact ⟨h,by rw [← ea (.inr (.inr rfl))]; exact h1,by rw [← eb (.inr (.inl rfl))]; exact h2,by rw [← ec (.inl rfl)]; exact h3⟩
 | 4,⟨h,h1,h2,h3,h4,h5⟩,_,eb,ec=>exact ⟨h,h1,h2,h3,by rw [← eb (.inr (.inr rfl))]; exact h4,by rw [← ec (.inr (.inl rfl))]; exact h5⟩
 | 5,⟨h,h1,h2,h3,h4⟩,_,_,ec=>exact ⟨h,h1,h2,h3,by rw [← ec (.inr (.inr rfl))]; exact h4⟩
 | _+6,h,_,_,_=>exact h
end Go.Proofs.YtagolklnjhpbdaaDoor.K

namespace Go.Proofs.YtagolklnjhpbdaaDoor.K
open Go.RowKit Go.Proofs.YtagolklnjhpbdaaDoor.I
def Few (s:Sn):Prop:=s.R.length≤8∧∀ r ∈ s.R,r.l.length≤40
theorem cutN_few (s:Sn):Few (cutN s):=by
 refine ⟨?_,fun r hr=>?_⟩
 · show ((s.R.take 8).map cutR).length≤8;rw [List.length_map,List.length_take];omega
 · obtain ⟨q,hq,rfl⟩ := List.mem_map.1 (show r ∈ (s.R.take 8).map cutR from hr);exact cutR_len40 q
theorem difL_length (a:Sn):∀ (R:List Ro) (y:Nat),(difL a y R).length≤R.length
  | [],_=>Nat.le_refl _
  | r::R,y=>by
   have ih:=difL_length a R (y+1);unfold difL
   split
   · rw [List.length_cons]; omega
   · rw [List.length_cons,List.length_cons]; omega
theorem few_row {s:Sn} (h:Few s) (a:Sn):∀ x ∈ difL a 0 s.R,(packR x.2).length≤1449:=fun x hx=>by
 have h1:=packR_len x.2;have h2:=h.2 _ (difL_mem a s.R 0 x hx);omega
theorem few_all {s:Sn} (h:Few s) (a:Sn):(difL a 0 s.R).length*(9+1449)≤900000:=by
 have h1:=difL_length a s.R 0;have h2:=h.1;have h3:(difL a 0 s.R).length≤8:=by omega
 calc (difL a 0 s.R).length*(9+1449)≤8*(9+1449):=Nat.mul_le_mul_right _ h3
   _≤900000:=by decide
theorem diffN_len {s:Sn} (h:Few s) (a:Sn):(diffN a s).length≤1000000:=by
 unfold diffN
 split
 · next hh =>
   obtain ⟨h1,h2,h3,h4⟩ := hh.2.1.resolve_left hh.2.2;have a1:=headB_len h2.2.2.2 h4.2;have a2:=rowsD_len (L:=1449) (difL a 0 s.R) (few_row h a);have a3:=few_all h a;have a4:=numB_len ((Go.Proofs.YtagolklnjhpbdaaDoor.S.sumOf (packN a):Nat):Int);have a5:=numB_len ((difL a 0 s.R).length:Int);unfold rawD;rw [List.length_append,List.length_append,List.length_append];omega
 · exact Nat.zero_le _
theorem packN_full (s:Sn):packN s=[]↔¬ FullN s:=by
 rw [packN_nil];unfold FullN;constructor
 · rintro (h | h) ⟨h1,h2⟩
   · exact h2 h
   · exact h h1
 · intro h;by_cases h1:s=emptyN
   · exact .inl h1
   · exact .inr (fun h2=>h ⟨h2,h1⟩)
theorem toList_nil {b:ByteArray} (h:b.data.toList=[]):(b.toList == ([]:List UInt8))=true∧(b.toList == (⟨#[]⟩ : ByteArray).toList)=true:=by
 refine ⟨?_,?_⟩
 · rw [ByteArray.toList_eq,h]; rfl
 · rw [ByteArray.toList_eq,ByteArray.toList_eq,h]; rfl
theorem toList_some {b:ByteArray} (h:b.data.toList≠[]):(b.toList == ([]:List UInt8))=false∧(b.toList == (⟨#[]⟩ : ByteArray).toList)=false:=by
 refine ⟨?_,?_⟩
 · rw [ByteArray.toList_eq,beq_eq_false_iff_ne]; exact h
 · rw [ByteArray.toList_eq,ByteArray.toList_eq,beq_eq_false_iff_ne]; exact h
end Go.Proofs.YtagolklnjhpbdaaDoor.K

namespace Go.Proofs.YtagolklnjhpbdaaDoor.Y
abbrev Row:=Nat × Nat × Nat × Nat × Nat × Nat
def tab:List Row:=[(0,127,127,0,0,0),(194,223,31,1,128,191),(224,224,15,2,160,191),(225,236,15,2,128,191),(237,237,15,2,128,159),(238,239,15,2,128,191),(240,240,7,3,144,191),(241,243,7,3,128,191),(244,244,7,3,128,143)]
def look:List Row→Nat→Option Row
  | [],_=>none
  | x::t,b=>if x.1≤b∧b≤x.2.1 then some x else look t b
def leadS (b:Nat):Option Row:=look tab b
def zeroRow:Row:=(0,0,0,0,0,0)
def rest (k:Nat) (b:Nat):Option Row:=look (tab.drop k) b
theorem rest_end (b:Nat):rest 9 b=none:=rfl
theorem rest_step (k:Nat) (hk:k<9) (b:Nat):rest k b=if (tab.getD k zeroRow).1≤b∧b≤(tab.getD k zeroRow).2.1 then some (tab.getD k zeroRow) else rest (k+1) b:=by
 have hk':k<tab.length:=hk;have h:tab.drop k=tab.getD k zeroRow::tab.drop (k+1):=by
  rw [List.drop_eq_getElem_cons hk'];simp [List.getD_eq_getElem?_getD,hk']
 unfold rest;rw [h]
 rfl
def bad:Nat:=65533
structure St where
 lead:Nat
 rune:Nat
 need:Nat
deriving DecidableEq
def St.zero:St:=⟨0,0,0⟩
def mayS (d:St) (b:Nat):Bool:=match leadS d.lead with
  | some x=>if d.need=x.2.2.2.1 then decide (x.2.2.2.2.1≤b∧b≤x.2.2.2.2.2) else decide (128≤b∧b≤191)
  | none=>decide (128≤b∧b≤191)
def beginS (b:Nat):St × List Nat:=match leadS b with
  | none=>(.zero,[bad])
  | some x=>if x.2.2.2.1=0 then (.zero,[b % (x.2.2.1+1)]) else (⟨b,b % (x.2.2.1+1),x.2.2.2.1⟩,[])
def goS (d:St) (b:Nat):St × List Nat:=if d.need=1 then (.zero,[d.rune*64+b % 64]) else (⟨d.lead,d.rune*64+b % 64,d.need - 1⟩,[])
def stepS (d:St) (b:Nat):St × List Nat :=
 if d.need=0 then beginS b
 else if mayS d b then goS d b
 else ((beginS b).1,bad::(beginS b).2)
def runS:St→List UInt8→St × List Nat
  | d,[]=>(d,[])
  | d,b::l=>((runS (stepS d b.toNat).1 l).1,(stepS d b.toNat).2++(runS (stepS d b.toNat).1 l).2)
def endS (d:St):List Nat:=if d.need=0 then [] else [bad]
def needS (b:Nat):Nat × Nat × Nat :=
 if 194≤b∧b≤223 then (1,128,191)
 else if b=224 then (2,160,191)
 else if b=237 then (2,128,159)
 else if 225≤b∧b≤239 then (2,128,191)
 else if b=240 then (3,144,191)
 else if b=244 then (3,128,143)
 else if 241≤b∧b≤243 then (3,128,191)
 else (0,0,0)
def modS (n:Nat):Nat:=[0,32,16,8].getD n 0
def RuneOk (r n:Nat):Prop:=(r+1)*64 ^ n≤55296∨(57344≤r*64 ^ n∧(r+1)*64 ^ n≤1114112)
def Open (d:St):Prop:=128≤d.lead∧d.lead<256∧1≤d.need∧d.need≤(needS d.lead).1∧(needS d.lead).1≤3∧((d.need=(needS d.lead).1∧d.rune=d.lead % modS (needS d.lead).1)∨(d.need<(needS d.lead).1∧RuneOk d.rune d.need))
def validN (r:Nat):Prop:=r<55296∨(57344≤r∧r<1114112)
instance (r:Nat):Decidable (validN r):=by unfold validN; infer_instance
end Go.Proofs.YtagolklnjhpbdaaDoor.Y

namespace Go.Proofs.YtagolklnjhpbdaaDoor.Y
open Go.RowKit
end Go.Proofs.YtagolklnjhpbdaaDoor.Y

namespace Go.Proofs.YtagolklnjhpbdaaDoor.K
open Go.RowKit Go.Shelf
attribute [local go_sem] Oper.semAt_some
def runesR (r:Ro):List Int:=(glyphs r).map Prod.fst
def txt (r:Ro):ByteArray:=runesBytes (runesR r)
structure StrsIn (a:Option Addr) (n c:Nat) (l:List ByteArray) (w:World):Prop where
 len:n=l.length
 fit:n≤c
 top:(c:Int)≤9223372036854775807
 at_:l=[]∨∃ b off,a=some ⟨b,off,none⟩∧b<w.heap.size∧∀ i s,l[i]?=some s→w.cell? ⟨b,off+i,none⟩=some (.string s)
theorem StrsIn.belowAll {a:Option Addr} {n c:Nat} {l:List ByteArray} {w w':World} (h:StrsIn a n c l w) (hb:Below w.heap.size w w'):StrsIn a n c l w':=by
 refine ⟨h.len,h.fit,h.top,h.at_.imp id ?_⟩;rintro ⟨b,off,ha,hl,hi⟩;exact ⟨b,off,ha,Nat.lt_of_lt_of_le hl hb.size,fun i g hg=>(hb.cell (p:=⟨b,off+i,none⟩) hl).trans (hi i g hg)⟩
structure TxI (base:Nat) (w:World) (rs:List Ro) (V:World):Prop where
 ex:∃ v,Boxed V base 124 v∧V.ownsRow (base+2) 9 1 v rs.length ((rs.map txt).map Value.string)
 b:Below base w V
theorem ownsRow_grown {T:TypeId} {size base n:Nat} {v:Value} {xs:List Value} {V V':World} {row:Option Nat} (h:V.ownsRow base T size v n xs) (hg:V.grownBy V' row) (hr:∀ r,row=some r→∃ o:Obj,V.heap[r]?=some o∧o.isCells=false):V'.ownsRow base T size v n xs:=by
 refine h.kept hg ?_;cases hv:v.ownBlock with
 | none=>exact .inl rfl
 | some q =>
  right;intro e;obtain ⟨o,ho,hc⟩ := hr q e.symm;exact absurd (row_cellsV h hv ho) (by rw [hc]; decide)
theorem TxI.grown {base:Nat} {w:World} {rs:List Ro} {V V':World} {row:Option Nat} (h:TxI base w rs V) (hm:base≤V.heap.size) (hg:V.grownBy V' row) (hr:∀ r,row=some r→base≤r∧∃ o:Obj,V.heap[r]?=some o∧o.isCells=false):TxI base w rs V':=by
 obtain ⟨⟨v,h1,h2⟩,h3⟩ := h;exact ⟨⟨v,boxed_grown h1 hg (fun r e=>(hr r e).2),ownsRow_grown h2 hg (fun r e=>(hr r e).2)⟩,h3.grown hg hm (fun r e=>(hr r e).1)⟩
theorem KeepL.grown {L:List Nat} {A B:World} {row:Option Nat} (hg:A.grownBy B row) (hr:∀ r,row=some r→r ∉ L):KeepL L A B:=⟨hg.size,fun b hb hl=>hg.block b hl (fun e=>hr b e.symm hb)⟩
theorem KeepL.setCell {L:List Nat} {A:World} {B o:Nat} (h:B ∉ L) (v:Value):KeepL L A (A.setCell ⟨B,o,none⟩ v):=⟨(KeepsWalks.setCell A _ v).size,fun b hb _=>Below.heap_setCell _ _ _ b (fun e=>h (by rw [show B=b from e.symm]; exact hb))⟩
end Go.Proofs.YtagolklnjhpbdaaDoor.K

namespace Go.Proofs.YtagolklnjhpbdaaDoor.K
open Go.RowKit
end Go.Proofs.YtagolklnjhpbdaaDoor.K

namespace Go.Proofs.YtagolklnjhpbdaaDoor.K
open Go.RowKit
set_option maxRecDepth 100000 in
set_option maxHeartbeats 4000000 in
theorem lawRows_any {L L2:List Nat} {a1 a2:Option Addr} {n1 c1 n2 c2:Nat} {rs1 rs2:List Ro} (w:World) (h1:RowsL .i32 L a1 n1 c1 rs1 w) (h2:RowsL .i64 L2 a2 n2 c2 rs2 w) (hg:∀ r ∈ rs1,AllC Rng r.l) (hl1:∀ r ∈ rs1,r.l.length≤1000) (hl2:∀ r ∈ rs2,r.l.length≤1000) (hn1:n1≤1000) (hn2:n2≤1000) :
    Calls Tryd.prog 47 #[.slice a1 n1 c1,.slice a2 n2 c2] w fun e w'=>e=.returned (.bool (decide (rs1=rs2)))∧Below w.heap.size w w':=by
 have hm1:=h1.len;have hm2:=h2.len;obtain ⟨us1,i1,v1,-⟩ := h1.ex;obtain ⟨us2,i2,v2,-⟩ := h2.ex;obtain ⟨rb,hrb⟩ : ∃ rb,w.heap.size=rb:=⟨_,rfl⟩;rw [hrb];obtain ⟨D,hD⟩ : ∃ D,decide (rs1=rs2)=D:=⟨_,rfl⟩;obtain ⟨P,hP⟩ : ∃ P:Ending→World→Prop,(fun e w'=>e=.returned (.bool D)∧Below rb w w')=P:=⟨_,rfl⟩;rw [hD,hP];have HP:=hDx hP;have HD:=hDx hD;have HL1:=hDx hm1;have HL2:=hDx hm2;have H1:=hDx i1;have H2:=hDx i2;have HV1:=hDx v1;have HV2:=hDx v2;have HR1:=hDx hl1;have HR2:=hDx hl2;have HRg:=hDx hg;have HRb:=hDx hrb;by_cases hnn:n1=n2
 · subst hnn;have q1:((n1:Int) != (n1:Int))=false:=by simp
   clear hP hD h1 h2 i1 i2 v1 v2 hl1 hl2 hrb hn2 hm1 hm2 hg
   go_enter Tryd.func47,Tryd.ntmps47
   go_wp2_with fail
   go_loopw [13] (fun i wr=>∃ j:Nat,i=.int .i64 (j:Int)∧j≤n1∧Hid (rs1.take j=rs2.take j∧Below rb w wr)) (fun i _=>n1 - (intOf i).toNat)
   case atStart=>exact ⟨0,rfl,by omega,hDx ⟨by simp,Below.refl _ _⟩⟩
   case round =>
    obtain ⟨j,rfl,hj,HF⟩ := hrel;by_cases hlt:j<n1
    · have hd:decide (j<n1)=true:=by simp; omega
      have hj1:j<rs1.length:=by rw [← HL1.out]; exact hlt
      have hj2:j<rs2.length:=by rw [← HL2.out]; exact hlt
      have hu1:j<us1.length:=by rw [HV1.out.1]; exact hj1
      have hu2:j<us2.length:=by rw [HV2.out.1]; exact hj2
      obtain ⟨b1,o1,rfl,hb1,hA1⟩ := H1.out.at_.resolve_left (by intro e; rw [e] at hu1; simp at hu1);obtain ⟨b2,o2,rfl,hb2,hA2⟩ := H2.out.at_.resolve_left (by intro e; rw [e] at hu2; simp at hu2);have hbw:Below w.heap.size w wr:=by rw [HRb.out]; exact HF.out.2
      have hat1:=hA1 j us1[j] (List.getElem?_eq_getElem hu1);have hat2:=hA2 j us2[j] (List.getElem?_eq_getElem hu2);have hr1:=(HV1.out.2 j us1[j] rs1[j] (List.getElem?_eq_getElem hu1) (List.getElem?_eq_getElem hj1)).belowAll hbw;have hr2:=(HV2.out.2 j us2[j] rs2[j] (List.getElem?_eq_getElem hu2) (List.getElem?_eq_getElem hj2)).belowAll hbw;have hs1:=takeR_one rs1 j hj1;have hs2:=takeR_one rs2 j hj2;have hm1:=HR1.out rs1[j] (List.getElem_mem hj1);have hm2:=HR2.out rs2[j] (List.getElem_mem hj2);have hgg:=HRg.out rs1[j] (List.getElem_mem hj1);obtain ⟨⟨x1,m1,y1,g1⟩,hx1⟩ : ∃ k,us1[j]=k:=⟨_,rfl⟩;obtain ⟨⟨x2,m2,y2,g2⟩,hx2⟩ : ∃ k,us2[j]=k:=⟨_,rfl⟩;obtain ⟨r1,hre1⟩ : ∃ k,rs1[j]=k:=⟨_,rfl⟩;obtain ⟨r2,hre2⟩ : ∃ k,rs2[j]=k:=⟨_,rfl⟩;rw [hx1] at hat1 hr1;rw [hx2] at hat2 hr2;rw [hre1] at hr1 hs1 hm1 hgg;rw [hre2] at hr2 hs2 hm2
      have p0:wr.cell? ⟨b1,o1+j*2,none⟩=some (.slice x1 m1 y1):=(World.cell?_of_block (a:=⟨b1,o1+j*2,none⟩) (hbw.block b1 hb1)).trans hat1.1;have p1:wr.cell? ⟨b1,o1+j*2+1,none⟩=some (.bool g1):=(World.cell?_of_block (a:=⟨b1,o1+j*2+1,none⟩) (hbw.block b1 hb1)).trans hat1.2;have p2:wr.cell? ⟨b2,o2+j*2,none⟩=some (.slice x2 m2 y2):=(World.cell?_of_block (a:=⟨b2,o2+j*2,none⟩) (hbw.block b2 hb2)).trans hat2.1;have p3:wr.cell? ⟨b2,o2+j*2+1,none⟩=some (.bool g2):=(World.cell?_of_block (a:=⟨b2,o2+j*2+1,none⟩) (hbw.block b2 hb2)).trans hat2.2;unfold Rv.val at hr1 hr2;simp only at hr1 hr2;have cS:∀ d os,Calls Tryd.prog 76 #[.agg #[.slice x1 m1 y1,.bool g1],.agg #[.slice x2 m2 y2,.bool g2]] (Go.Sort.grow (redrawn wr d) os) fun en w''=>en=.returned (.bool (decide (r1=r2)))∧∃ p:Regrown,w''=Go.Sort.grow (redrawn wr p.d) p.os:=fun d os=>by
       have hb:=below_regrown wr d os;exact Calls.regrown_of (isRow_any (hr1.belowAll hb) (hr2.belowAll hb) hgg hm1 hm2)
      have z0:=fun d os=>cell_regrown p0 d os
      have z1:=fun d os=>cell_regrown p1 d os
      have z2:=fun d os=>cell_regrown p2 d os
      have z3:=fun d os=>cell_regrown p3 d os
      have HS1:=hDx hs1;have HS2:=hDx hs2;have HE1:=hDx hre1;have HE2:=hDx hre2;have HBw:=hDx hbw;have hbs:rb≤wr.heap.size:=by have:=hbw.size; have:=HRb.out; omega
      clear hA1 hA2 hat1 hat2 hr1 hr2 hs1 hs2 hm1 hm2 hx1 hx2 hre1 hre2 hb1 hb2 hbw hu1 hu2 hgg;by_cases hE:r1=r2
      · have hde:decide (r1=r2)=true:=decide_eq_true hE;rw [hde] at cS;have HE:=hDx hE;have CS:=hDx cS;clear hE hde cS
        go_upto_region 6 with fail
        clear p0 p1 p2 p3;refine wp_region_quiet_below (by kernel_rfl) (by kernel_rfl) ?_
        repeat (go_big_quiet_step (first | exact CS.out _ _))
        refine wpQuiet_nil ?_;intro _ hw';obtain ⟨⟨dq,osq⟩,hw''⟩ := hw';have HF3:Hid (rs1.take (j+1)=rs2.take (j+1)∧Below rb w (Go.Sort.grow (redrawn wr dq) osq)):=hDx ⟨by rw [HS1.out,HS2.out,HF.out.1,HE.out],HF.out.2.trans ((below_regrown _ _ _).mono hbs)⟩;rw [hw''];simp only;obtain ⟨w6,hw6⟩ : ∃ w6,Go.Sort.grow (redrawn wr dq) osq=w6:=⟨_,rfl⟩;rw [hw6] at HF3 ⊢;clear hw'' hw6 z0 z1 z2 z3 CS
        go_wp2
        go_roundw
        case rel=>exact ⟨j+1,by go_num,by omega,HF3⟩
        case measure=>simp [intOf]; omega
      · have hde:decide (r1=r2)=false:=decide_eq_false hE;rw [hde] at cS;have HE:=hDx hE;have CS:=hDx cS;clear hE hde cS;have hne:D=false:=by
         rw [← HD.out];refine decide_eq_false (fun e=>HE.out ?_);subst e;rw [← HE1.out,← HE2.out]
        have HNe:=hDx hne;clear hne
        go_upto_region 6 with fail
        clear p0 p1 p2 p3;refine wp_region_quiet_below (by kernel_rfl) (by kernel_rfl) ?_
        repeat (go_big_quiet_step (first | exact CS.out _ _))
        refine wpQuiet_nil ?_;intro _ hw';obtain ⟨⟨dq,osq⟩,hw''⟩ := hw';rw [hw''];simp only;have HF3:Hid (P (.returned (.bool false)) (Go.Sort.grow (redrawn wr dq) osq)):=hDx (by rw [← HP.out,HNe.out]; exact ⟨rfl,HF.out.2.trans ((below_regrown _ _ _).mono hbs)⟩);clear z0 z1 z2 z3 CS
        go_wp2
        exact HF3.out
    · obtain rfl:j=n1:=by omega
      have hd:decide (j<j)=false:=by simp
      have hd':decide ((j:Int)<(j:Int))=false:=by simp
      go_wp2
      rw [← HP.out];obtain ⟨h3,h4⟩ := HF.out;rw [List.take_of_length_le (by rw [← HL1.out]; exact Nat.le_refl _),List.take_of_length_le (by rw [← HL2.out]; exact Nat.le_refl _)] at h3;exact ⟨by rw [← HD.out,h3]; simp,h4⟩
 · have q1:((n1:Int) != (n2:Int))=true:=by simp; omega
   have hne:D=false:=by
    rw [← hD];refine decide_eq_false (fun e=>hnn ?_);rw [HL1.out,HL2.out,e]
   clear hP hD h1 h2 i1 i2 v1 v2 hl1 hl2 hrb hm1 hm2 hg
   go_enter Tryd.func47,Tryd.ntmps47
   go_wp2
   rw [← HP.out,hne];exact ⟨rfl,Below.refl _ _⟩
end Go.Proofs.YtagolklnjhpbdaaDoor.K

namespace Go.Proofs.YtagolklnjhpbdaaDoor.K
open Go.RowKit
set_option maxRecDepth 100000 in
set_option maxHeartbeats 8000000 in
theorem lawGlyphs_any (a1:Option Addr) (n1 c1:Nat) (l1:List (Int × Int)) (a2:Option Addr) (n2 c2:Nat) (l2:List (Int × Int)) (w:World) (h1:PairsIn .i32 a1 n1 c1 l1 w) (h2:PairsIn .i64 a2 n2 c2 l2 w) (hr:RngG l1) (hn:n1≤1000000) (hn2:n2≤1000000) :
    Calls Tryd.prog 48 #[.slice a1 n1 c1,.slice a2 n2 c2] w fun e w'=>e=.returned (.bool (decide (l1=l2)))∧Below w.heap.size w w':=by
 obtain ⟨P,hP⟩ : ∃ P:Ending→World→Prop,(fun e w'=>e=.returned (.bool (decide (l1=l2)))∧Below w.heap.size w w')=P:=⟨_,rfl⟩;rw [hP];have HP:=hDx hP;have HL1:=hDx h1.len;have HL2:=hDx h2.len;have H1:=hDx h1;have H2:=hDx h2;have HR:=hDx hr;have hnI:(n1:Int)≤1000000:=by omega
 clear hP h1 h2 hr;by_cases hne:n1=n2
 · subst hne;have q0:((n1:Int) != (n1:Int))=false:=by simp
   go_enter Tryd.func48,Tryd.ntmps48
   go_wp2_with fail
   go_loopw [14] (fun i wr=>∃ j:Nat,i=.int .i64 (j:Int)∧j≤n1∧Hid (l1.take j=l2.take j∧Below w.heap.size w wr)) (fun i _=>n1 - (intOf i).toNat)
   case atStart=>exact ⟨0,rfl,Nat.zero_le _,hDx ⟨rfl,Below.refl _ _⟩⟩
   case round =>
    obtain ⟨j,rfl,hj,HF⟩ := hrel;by_cases hlt:j<n1
    · have hd:decide (j<n1)=true:=decide_eq_true hlt;have hjI:(j:Int)<n1:=by omega
      have hj1:j<l1.length:=by rw [← HL1.out]; exact hlt
      have hj2:j<l2.length:=by rw [← HL2.out]; exact hlt
      obtain ⟨b1,o1,rfl,hb1,hA1⟩ := H1.out.at_.resolve_left (by intro e; rw [e] at hj1; simp at hj1);obtain ⟨b2,o2,rfl,hb2,hA2⟩ := H2.out.at_.resolve_left (by intro e; rw [e] at hj2; simp at hj2);have hat1:=hA1 j l1[j] (List.getElem?_eq_getElem hj1);have hat2:=hA2 j l2[j] (List.getElem?_eq_getElem hj2);have hrg:=HR.out l1[j] (List.getElem_mem hj1);have t1:=List.take_succ_eq_append_getElem hj1;have t2:=List.take_succ_eq_append_getElem hj2;have ne:l1[j]≠l2[j]→l1≠l2:=fun hh e=>hh (by subst e; rfl)
      obtain ⟨⟨x1,s1⟩,e1⟩ : ∃ g,l1[j]=g:=⟨_,rfl⟩;obtain ⟨⟨x2,s2⟩,e2⟩ : ∃ g,l2[j]=g:=⟨_,rfl⟩;rw [e1] at hat1 hrg t1 ne;rw [e2] at hat2 t2 ne;have k0:wr.cell? ⟨b1,o1+j*2,none⟩=some (.int .i32 x1):=(HF.out.2.cell (p:=⟨b1,o1+j*2,none⟩) hb1).trans hat1.1;have k1:wr.cell? ⟨b1,o1+j*2+1,none⟩=some (.int .i64 s1):=(HF.out.2.cell (p:=⟨b1,o1+j*2+1,none⟩) hb1).trans hat1.2;have k2:wr.cell? ⟨b2,o2+j*2,none⟩=some (.int .i64 x2):=(HF.out.2.cell (p:=⟨b2,o2+j*2,none⟩) hb2).trans hat2.1;have k3:wr.cell? ⟨b2,o2+j*2+1,none⟩=some (.int .i64 s2):=(HF.out.2.cell (p:=⟨b2,o2+j*2+1,none⟩) hb2).trans hat2.2;have hwr:IntKind.i64.wrap x1=x1:=by rw [IntKind.wrap_i64]; have h1:=hrg.1; have h2:=hrg.2; simp only at h1 h2; omega
      obtain ⟨gb,hgb⟩ : ∃ gb,wr.heap.size=gb:=⟨_,rfl⟩;obtain ⟨w5,hw5⟩ : ∃ w5,wr.alloc (.cells #[.int .i32 x1,.int .i64 s1] 111)=w5:=⟨_,rfl⟩;have hnew:w5.heap[gb]?=some (.cells #[.int .i32 x1,.int .i64 s1] 111 (0,0)):=by rw [← hw5,← hgb]; exact heap_alloc_new wr _
      have m0:w5.cell? ⟨gb,0,none⟩=some (.int .i32 x1):=by rw [cell_block hnew]; rfl
      have m1:w5.cell? ⟨gb,1,none⟩=some (.int .i64 s1):=by rw [cell_block hnew]; rfl
      have hb5:Below wr.heap.size wr w5:=by rw [← hw5]; exact (Below.refl _ _).alloc (Nat.le_refl _) _
      have hlr:b2<wr.heap.size:=Nat.lt_of_lt_of_le hb2 HF.out.2.size;have m2:w5.cell? ⟨b2,o2+j*2,none⟩=some (.int .i64 x2):=(hb5.cell (p:=⟨b2,o2+j*2,none⟩) hlr).trans k2;have m3:w5.cell? ⟨b2,o2+j*2+1,none⟩=some (.int .i64 s2):=(hb5.cell (p:=⟨b2,o2+j*2+1,none⟩) hlr).trans k3;have HB5:Hid (Below w.heap.size w w5):=hDx (HF.out.2.trans (hb5.mono HF.out.2.size));have HW5:=hDx hw5;have HGb:=hDx hgb;have HT:Hid ((x1,s1)=(x2,s2)→l1.take (j+1)=l2.take (j+1)):=hDx (fun e=>by rw [t1,t2,HF.out.1,e]);have HNe:=hDx ne;clear hj1 hj2 hA1 hA2 hat1 hat2 hrg t1 t2 ne e1 e2 hb1 hb2 hgb hw5 hnew hb5 hlr HF
      go_upto_region 6 with fail
      rw [HW5.out,HGb.out];clear k0 k1 k2 k3;have z0:=fun d os=>cell_regrown m0 d os
      have z1':=fun d os=>cell_regrown m1 d os
      have z2':=fun d os=>cell_regrown m2 d os
      have z3:=fun d os=>cell_regrown m3 d os
      clear m0 m1 m2 m3;by_cases hx:x1=x2
      · subst hx;have q1:(x1 != x1)=false:=by simp
        by_cases hs:s1=s2
        · subst hs;have q2:(s1 != s1)=false:=by simp
          refine wp_region_quiet_below (by kernel_rfl) (by kernel_rfl) ?_
          repeat (go_big_quiet_step (fail))
          refine wpQuiet_nil ?_;intro _ hw';obtain ⟨⟨dq,osq⟩,hw''⟩ := hw';have HE2:Hid (Below w.heap.size w (Go.Sort.grow (redrawn w5 dq) osq)):=hDx (HB5.out.trans ((below_regrown _ _ _).mono HB5.out.size));rw [hw''];simp only;obtain ⟨w9,hw9⟩ : ∃ w9,Go.Sort.grow (redrawn w5 dq) osq=w9:=⟨_,rfl⟩;rw [hw9] at HE2 ⊢;clear hw'' hw9 z0 z1' z2' z3;have HE:Hid (l1.take (j+1)=l2.take (j+1)∧Below w.heap.size w w9):=hDx ⟨HT.out rfl,HE2.out⟩
          go_wp2_with fail
          go_roundw
          case rel=>exact ⟨j+1,by go_num,by omega,HE⟩
          case measure=>simp [intOf]; omega
        · have q2:(s1 != s2)=true:=by rw [bne_iff_ne]; exact hs
          refine wp_region_quiet_below (by kernel_rfl) (by kernel_rfl) ?_
          repeat (go_big_quiet_step (fail))
          refine wpQuiet_nil ?_;intro _ hw';obtain ⟨⟨dq,osq⟩,hw''⟩ := hw';have HE2:Hid (Below w.heap.size w (Go.Sort.grow (redrawn w5 dq) osq)):=hDx (HB5.out.trans ((below_regrown _ _ _).mono HB5.out.size));rw [hw''];simp only;obtain ⟨w9,hw9⟩ : ∃ w9,Go.Sort.grow (redrawn w5 dq) osq=w9:=⟨_,rfl⟩;rw [hw9] at HE2 ⊢;clear hw'' hw9 z0 z1' z2' z3;have hend:Hid (P (.returned (.bool false)) w9):=hDx (by rw [← HP.out,decide_eq_false (HNe.out (fun e=>hs (congrArg Prod.snd e)))]; exact ⟨rfl,HE2.out⟩);clear hs
          go_wp2_with fail
          exact hend.out
      · have q1:(x1 != x2)=true:=by rw [bne_iff_ne]; exact hx
        refine wp_region_quiet_below (by kernel_rfl) (by kernel_rfl) ?_
        repeat (go_big_quiet_step (fail))
        refine wpQuiet_nil ?_;intro _ hw';obtain ⟨⟨dq,osq⟩,hw''⟩ := hw';have HE2:Hid (Below w.heap.size w (Go.Sort.grow (redrawn w5 dq) osq)):=hDx (HB5.out.trans ((below_regrown _ _ _).mono HB5.out.size));rw [hw''];simp only;obtain ⟨w9,hw9⟩ : ∃ w9,Go.Sort.grow (redrawn w5 dq) osq=w9:=⟨_,rfl⟩;rw [hw9] at HE2 ⊢;clear hw'' hw9 z0 z1' z2' z3;have hend:Hid (P (.returned (.bool false)) w9):=hDx (by rw [← HP.out,decide_eq_false (HNe.out (fun e=>hx (congrArg Prod.fst e)))]; exact ⟨rfl,HE2.out⟩);clear hx
        go_wp2_with fail
        exact hend.out
    · obtain rfl:j=n1:=by omega
      have hd:decide (j<j)=false:=by simp
      have he:l1=l2:=by
       have h:=HF.out.1;rw [List.take_of_length_le (by rw [HL1.out]; exact Nat.le_refl _),List.take_of_length_le (by rw [HL2.out]; exact Nat.le_refl _)] at h;exact h
      have hend:Hid (P (.returned (.bool true)) wr):=hDx (by rw [← HP.out,decide_eq_true he]; exact ⟨rfl,HF.out.2⟩);clear he HF hlt
      go_wp2_with fail
      exact hend.out
 · have q0:((n1:Int) != (n2:Int))=true:=by rw [bne_iff_ne]; omega
   have hend:Hid (P (.returned (.bool false)) w):=hDx (by
    rw [← HP.out,decide_eq_false (fun e=>hne (by rw [HL1.out,HL2.out,e]))];exact ⟨rfl,Below.refl _ _⟩)
   clear hne
   go_enter Tryd.func48,Tryd.ntmps48
   go_wp2_with fail
   exact hend.out
end Go.Proofs.YtagolklnjhpbdaaDoor.K

namespace Go.Proofs.YtagolklnjhpbdaaDoor.K
open Go.RowKit Go.Proofs.YtagolklnjhpbdaaDoor.I
set_option maxRecDepth 100000 in
set_option maxHeartbeats 16000000 in
theorem nis_any (s s2:Sn) (ra:Option Addr) (rn rc:Nat) (rga:Option Addr) (rgn rgc:Nat) (qa:Option Addr) (qn qc:Nat) (qga:Option Addr) (qgn qgc:Nat) (w:World) (h1:SnIn .i32 ra rn rc rga rgn rgc s w) (h2:SnIn .i64 qa qn qc qga qgn qgc s2 w) (m1:SnB s) (m2:SnB s2) :
    Calls Tryd.prog 18 #[.agg (snA s ra rn rc rga rgn rgc),.agg (snA s2 qa qn qc qga qgn qgc)] w fun e w'=>e=.returned (.bool (decide (s=s2)))∧Below w.heap.size w w':=by
 obtain ⟨rb,hrb⟩ : ∃ rb,w.heap.size=rb:=⟨_,rfl⟩;obtain ⟨D,hD⟩ : ∃ D,decide (s=s2)=D:=⟨_,rfl⟩;rw [hD];obtain ⟨P,hP⟩ : ∃ P:Ending→World→Prop,(fun e w'=>e=.returned (.bool D)∧Below w.heap.size w w')=P:=⟨_,rfl⟩;rw [hP];obtain ⟨w1,hw1⟩ : ∃ w1,w.alloc (.cells (snA s ra rn rc rga rgn rgc) 25)=w1:=⟨_,rfl⟩;obtain ⟨w2,hw2⟩ : ∃ w2,w1.alloc (.cells (snA s2 qa qn qc qga qgn qgc) 32)=w2:=⟨_,rfl⟩;have hs1:w1.heap.size=rb+1:=by rw [← hw1,World.size_alloc,hrb]
 have hb1:Below rb w w1:=by rw [← hw1,← hrb]; exact (Below.refl _ _).alloc (Nat.le_refl _) _
 have hb2:Below rb w w2:=by rw [← hw2]; exact hb1.alloc (by omega) _
 have hA1:w1.heap[rb]?=some (.cells (snA s ra rn rc rga rgn rgc) 25 (0,0)):=by rw [← hw1,← hrb]; exact heap_alloc_new w _
 have hA:w2.heap[rb]?=some (.cells (snA s ra rn rc rga rgn rgc) 25 (0,0)):=by rw [← hw2,Below.heap_alloc _ _ _ (by omega)]; exact hA1
 have hB:w2.heap[rb+1]?=some (.cells (snA s2 qa qn qc qga qgn qgc) 32 (0,0)):=by rw [← hw2,← hs1]; exact heap_alloc_new w1 _
 have g1:=h1.belowAll (by rw [hrb]; exact hb2);have g2:=h2.belowAll (by rw [hrb]; exact hb2);have KG:Hid (∀ w3,Below w2.heap.size w2 w3→Calls Tryd.prog 48 #[.slice rga rgn rgc,.slice qga qgn qgc] w3 fun e w'=>e=.returned (.bool (decide (s.B=s2.B)))∧Below w3.heap.size w3 w'):=hDx (fun w3 hb=>lawGlyphs_any rga rgn rgc s.B qga qgn qgc s2.B w3 (g1.beg.belowAll hb) (g2.beg.belowAll hb) m1.brng (by rw [g1.beg.len]; exact m1.beg) (by rw [g2.beg.len]; exact m2.beg));have KR:=hDx (lawRows_any w2 g1.rows g2.rows m1.rng m1.cells m2.cells (by have:=g1.rows.len; have:=m1.rows; omega) (by have:=g2.rows.len; have:=m2.rows; omega));have HEnd:Hid (∀ b,(s=s2↔b=true)→∀ w3,Below w2.heap.size w2 w3→P (.returned (.bool b)) w3):=hDx (fun b hb w3 h3=>by
  rw [← hP];have:D=b:=by rw [← hD]; cases b <;> simp_all
  rw [this];exact ⟨rfl,by rw [hrb]; exact hb2.trans (h3.mono hb2.size |>.mono (by have:=hb2.size; omega))⟩)
 clear hP hD h1 h2 m1 m2 g1 g2 hb1 hb2 hA1;obtain ⟨ak,aw,ah,ax,ay,at_,aR,an,ac,aB⟩ := s;obtain ⟨bk,bw,bh,bx,bY,bt,bR,bn,bc,bB⟩ := s2;have HBad:Hid ((⟨ak,aw,ah,ax,ay,at_,aR,an,ac,aB⟩ : Sn)≠⟨bk,bw,bh,bx,bY,bt,bR,bn,bc,bB⟩→∀ w3,Below w2.heap.size w2 w3→P (.returned (.bool false)) w3):=hDx (fun h w3 h3=>HEnd.out false ⟨fun e=>absurd e h,fun e=>by cases e⟩ w3 h3);unfold snA at hw1 hw2 hA hB ⊢;simp only at hw1 hw2 hA hB ⊢ KG KR;have ca0:w2.cell? ⟨rb,0,none⟩=some (.int .i64 ak):=by rw [cell_block hA]; rfl
 have ca1:w2.cell? ⟨rb,1,none⟩=some (.int .i64 aw):=by rw [cell_block hA]; rfl
 have ca2:w2.cell? ⟨rb,2,none⟩=some (.int .i64 ah):=by rw [cell_block hA]; rfl
 have ca3:w2.cell? ⟨rb,3,none⟩=some (.int .i64 ax):=by rw [cell_block hA]; rfl
 have ca4:w2.cell? ⟨rb,4,none⟩=some (.int .i64 ay):=by rw [cell_block hA]; rfl
 have ca5:w2.cell? ⟨rb,5,none⟩=some (.string at_):=by rw [cell_block hA]; rfl
 have ca6:w2.cell? ⟨rb,6,none⟩=some (.slice ra rn rc):=by rw [cell_block hA]; rfl
 have ca7:w2.cell? ⟨rb,7,none⟩=some (.int .i64 an):=by rw [cell_block hA]; rfl
 have ca8:w2.cell? ⟨rb,8,none⟩=some (.int .i64 ac):=by rw [cell_block hA]; rfl
 have ca9:w2.cell? ⟨rb,9,none⟩=some (.slice rga rgn rgc):=by rw [cell_block hA]; rfl
 have cb0:w2.cell? ⟨rb+1,0,none⟩=some (.int .i64 bk):=by rw [cell_block hB]; rfl
 have cb1:w2.cell? ⟨rb+1,1,none⟩=some (.int .i64 bw):=by rw [cell_block hB]; rfl
 have cb2:w2.cell? ⟨rb+1,2,none⟩=some (.int .i64 bh):=by rw [cell_block hB]; rfl
 have cb3:w2.cell? ⟨rb+1,3,none⟩=some (.int .i64 bx):=by rw [cell_block hB]; rfl
 have cb4:w2.cell? ⟨rb+1,4,none⟩=some (.int .i64 bY):=by rw [cell_block hB]; rfl
 have cb5:w2.cell? ⟨rb+1,5,none⟩=some (.string bt):=by rw [cell_block hB]; rfl
 have cb6:w2.cell? ⟨rb+1,6,none⟩=some (.slice qa qn qc):=by rw [cell_block hB]; rfl
 have cb7:w2.cell? ⟨rb+1,7,none⟩=some (.int .i64 bn):=by rw [cell_block hB]; rfl
 have cb8:w2.cell? ⟨rb+1,8,none⟩=some (.int .i64 bc):=by rw [cell_block hB]; rfl
 have cb9:w2.cell? ⟨rb+1,9,none⟩=some (.slice qga qgn qgc):=by rw [cell_block hB]; rfl
 have HLt:Hid (rb<w2.heap.size∧rb+1<w2.heap.size):=hDx ⟨(gSx.1 hA).1,(gSx.1 hB).1⟩;have HW1:=hDx hw1;have HW2:=hDx hw2;have HRb:=hDx hrb;have HS1:=hDx hs1;clear hw1 hw2 hA hB hrb hs1
 go_enter Tryd.func18,Tryd.ntmps18
 go_upto_region 1 with fail
 rw [HW1.out,HW2.out,HRb.out];by_cases h_k:ak=bk
 rotate_left
 · have q:(ak == bk)=false:=by rw [beq_eq_false_iff_ne]; exact h_k
   have hend:Hid (P (.returned (.bool false)) w2):=hDx (HBad.out (fun e=>h_k (congrArg Sn.k e)) w2 (Below.refl _ _));clear h_k
   go_wp2_with fail
   exact hend.out
 subst h_k;by_cases h_w:aw=bw
 rotate_left
 · have q:(aw == bw)=false:=by rw [beq_eq_false_iff_ne]; exact h_w
   have hend:Hid (P (.returned (.bool false)) w2):=hDx (HBad.out (fun e=>h_w (congrArg Sn.w e)) w2 (Below.refl _ _));clear h_w
   go_wp2_with fail
   exact hend.out
 subst h_w;by_cases h_h:ah=bh
 rotate_left
 · have q:(ah == bh)=false:=by rw [beq_eq_false_iff_ne]; exact h_h
   have hend:Hid (P (.returned (.bool false)) w2):=hDx (HBad.out (fun e=>h_h (congrArg Sn.h e)) w2 (Below.refl _ _));clear h_h
   go_wp2_with fail
   exact hend.out
 subst h_h;by_cases h_x:ax=bx
 rotate_left
 · have q:(ax == bx)=false:=by rw [beq_eq_false_iff_ne]; exact h_x
   have hend:Hid (P (.returned (.bool false)) w2):=hDx (HBad.out (fun e=>h_x (congrArg Sn.x e)) w2 (Below.refl _ _));clear h_x
   go_wp2_with fail
   exact hend.out
 subst h_x;by_cases h_y:ay=bY
 rotate_left
 · have q:(ay == bY)=false:=by rw [beq_eq_false_iff_ne]; exact h_y
   have hend:Hid (P (.returned (.bool false)) w2):=hDx (HBad.out (fun e=>h_y (congrArg Sn.y e)) w2 (Below.refl _ _));clear h_y
   go_wp2_with fail
   exact hend.out
 subst h_y;by_cases h_t:at_=bt
 rotate_left
 · have q:(at_.toList == bt.toList)=false:=by
    rw [beq_eq_false_iff_ne,ByteArray.toList_eq,ByteArray.toList_eq];exact fun e=>h_t (bytes_eqN e)
   have hend:Hid (P (.returned (.bool false)) w2):=hDx (HBad.out (fun e=>h_t (congrArg Sn.t e)) w2 (Below.refl _ _));clear h_t
   go_wp2_with fail
   exact hend.out
 subst h_t;by_cases h_n:an=bn
 rotate_left
 · have q:(an == bn)=false:=by rw [beq_eq_false_iff_ne]; exact h_n
   have hend:Hid (P (.returned (.bool false)) w2):=hDx (HBad.out (fun e=>h_n (congrArg Sn.n e)) w2 (Below.refl _ _));clear h_n
   go_wp2_with fail
   exact hend.out
 subst h_n;by_cases h_c:ac=bc
 rotate_left
 · have q:(ac == bc)=false:=by rw [beq_eq_false_iff_ne]; exact h_c
   have hend:Hid (P (.returned (.bool false)) w2):=hDx (HBad.out (fun e=>h_c (congrArg Sn.c e)) w2 (Below.refl _ _));clear h_c
   go_wp2_with fail
   exact hend.out
 subst h_c;have KB:=KR.out;by_cases h_R:aR=bR
 rotate_left
 · rw [decide_eq_false h_R] at KB;have hend:Hid (∀ w3,Below w2.heap.size w2 w3→P (.returned (.bool false)) w3):=hDx (fun w3 h3=>HBad.out (fun e=>h_R (congrArg Sn.R e)) w3 h3);have K2:=hDx KB;clear h_R KB
   go_wp2_with fail
   refine K2.out.mono ?_;rintro e w3 ⟨rfl,h3⟩;have h4:=hend.out w3 h3;clear h3
   go_wp2_with fail
   exact h4
 rw [decide_eq_true h_R] at KB;subst h_R;have K2:=hDx KB;have HE2:Hid (∀ w3,Below w2.heap.size w2 w3→P (.returned (.bool (decide (aB=bB)))) w3):=hDx (fun w3 h3=>HEnd.out _ (by rw [decide_eq_true_iff]; exact ⟨fun e=>congrArg Sn.B e,fun e=>by rw [e]⟩) w3 h3);clear KB
 go_wp2_with fail
 refine K2.out.mono ?_;rintro e w3 ⟨rfl,h3⟩;have l6:w3.cell? ⟨rb,9,none⟩=some (.slice rga rgn rgc):=(h3.cell (p:=⟨rb,9,none⟩) HLt.out.1).trans ca9;have l7:w3.cell? ⟨rb+1,9,none⟩=some (.slice qga qgn qgc):=(h3.cell (p:=⟨rb+1,9,none⟩) HLt.out.2).trans cb9;have K3:=hDx (KG.out w3 h3);have H3:=hDx h3;clear h3 ca0 ca1 ca2 ca3 ca4 ca5 ca6 ca7 ca8 ca9 cb0 cb1 cb2 cb3 cb4 cb5 cb6 cb7 cb8 cb9
 go_wp2_with fail
 refine K3.out.mono ?_;rintro e w4 ⟨rfl,h4⟩;have hend:=HE2.out w4 (H3.out.trans (h4.mono H3.out.size));generalize decide (aB=bB)=D2 at hend;clear h4 l6 l7;cases D2
 · go_wp2_with fail
   exact hend
 · go_wp2_with fail
   exact hend
end Go.Proofs.YtagolklnjhpbdaaDoor.K
