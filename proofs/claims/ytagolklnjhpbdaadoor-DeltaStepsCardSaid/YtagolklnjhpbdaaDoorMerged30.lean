import Derived.Test.YtagolklnjhpbdaaDoorMerged0
import Derived.Test.YtagolklnjhpbdaaDoorMerged8
import Derived.Test.YtagolklnjhpbdaaDoorMerged15
import Derived.Test.YtagolklnjhpbdaaDoorMerged10
import Derived.Test.YtagolklnjhpbdaaDoorMerged11
namespace Go.Proofs.YtagolklnjhpbdaaDoor.K
open Go.RowKit Go.ChangeShapes Go.WideShapes
theorem cGlu:Tryd.prog.cellsOf 111=2:=by kernel_rfl
set_option maxRecDepth 100000 in
theorem trod_glu {H:Type} {enc:TypeId × Value→H} {W:World} {m:Nat} {cs:List Value} {x:DataW H × List MemPlace} {b0:Nat} {f0:Nat→Bool} {t0:Bool} (h:DataW.trod enc Tryd.prog W b0 f0 t0 m 111 cs=some x) (hl:cs.length=2) :
    ∃ c:Int × Int,cs=[.int .i32 c.1,.int .i64 c.2]∧-2147483648≤c.1∧c.1≤2147483647:=by
 match cs,hl with
 | [v0,v1],_ =>
  obtain ⟨xs,n,hn,hxy,_,hxl,hf⟩ := DataW.trod_struct Tryd.underlying111 h
  match xs,hxl with
  | [y0,y1],_ =>
   have g0:=hf 0 _ rfl;have g1:=hf 1 _ rfl;simp [cI,cR] at g0 g1;obtain ⟨k0,e0,_,hw⟩ := DataW.trod_int Tryd.underlying21 g0;obtain ⟨k1,e1,_,_⟩ := DataW.trod_int Tryd.underlying3 g1;simp at e0 e1;subst e0 e1;exact ⟨⟨k0,k1⟩,rfl,rng_of hw⟩
end Go.Proofs.YtagolklnjhpbdaaDoor.K

namespace Go.Proofs.YtagolklnjhpbdaaDoor.K
open Go.RowKit Go.ChangeShapes Go.WideShapes
theorem cSnap:Tryd.prog.cellsOf 25=10:=by kernel_rfl
theorem cStr:Tryd.prog.cellsOf 9=1:=by kernel_rfl
theorem cRows:Tryd.prog.cellsOf 22=1:=by kernel_rfl
theorem cGls:Tryd.prog.cellsOf 23=1:=by kernel_rfl
set_option maxRecDepth 100000 in
theorem trod_rowsN {H:Type} {enc:TypeId × Value→H} {W:World} {m:Nat} {v:Value} {x:DataW H × List MemPlace} (hm:DataW.trod enc Tryd.prog W 0 (fun _=>true) true m 22 [v]=some x) :
    ∃ (a:Option Addr) (len cap:Nat) (rs:List Ro),v=.slice a len cap∧RowsL .i32 [] a len cap rs W∧∀ r ∈ rs,AllC Rng r.l:=by
 have hno:∀ u:Rv,Off [] u:=fun u _ b o _ hb=>by cases hb
 rcases Deep.open_slice Tryd.underlying22 hm with ⟨hc,_⟩ | ⟨a',len,cap,m',n',D,Pl,hc,_,hl,hcm,hmm,_,hx⟩
 · simp at hc;subst hc;exact ⟨none,0,0,[],rfl,⟨⟨[],⟨rfl,Nat.le_refl _,by omega,.inl rfl⟩,RowsV.nil _ _,fun u hu=>by cases hu⟩,fun _=>rfl,fun h=>absurd rfl h⟩,fun r hr=>by cases hr⟩
 · simp at hc;subst hc;simp only [if_true] at hmm;subst hmm;have hcap:(m':Int)≤9223372036854775807:=by unfold maxLen at hcm; omega
   have each:∀ i,i<len→∃ A:Rv × Ro,(RowV .i32 A.1.val A.2 W∧AllC Rng A.2.l)∧∀ j u,[Value.slice A.1.a A.1.n A.1.c,.bool A.1.b][j]?=some u→W.cell? (a'.add (i*2+j))=some u:=by
    intro i hi;obtain ⟨cs',h1,h2⟩ := hx i (by omega);rw [cRow] at h1;obtain ⟨_,hlen,hcell⟩ := World.cells?_some h1;obtain ⟨u0,r0,he,hA,hR⟩ := trod_row h2 hlen;refine ⟨(u0,r0),⟨hA,hR⟩,fun j u hj=>?_⟩;have hj5:j<2:=by have:=(List.getElem?_eq_some_iff.1 hj).1; simpa using this
    have f:=hcell j (by omega);rw [Deep.add_add] at f;rw [← he] at hj;rw [f,hj]
   by_cases hl0:len=0
   · subst hl0;exact ⟨some a',0,m',[],rfl,⟨⟨[],⟨rfl,by omega,hcap,.inl rfl⟩,RowsV.nil _ _,fun u hu=>by cases hu⟩,(fun e=>by cases e),fun h=>absurd rfl h⟩,fun r hr=>by cases hr⟩
   · haveI:Inhabited (Rv × Ro):=⟨(Rv.nil,⟨[],false⟩)⟩
     obtain ⟨q,hq⟩ := Deep.choose_lt each;obtain ⟨b,off,spot⟩ := a';have hc0:=(hq 0 (by omega)).2 0 _ rfl;have hspot:spot=none:=by simpa [Addr.add] using World.cell?_spot hc0
     subst hspot;rw [addN] at hc0;have hblt:=World.block_lt_of_cell? W _ hc0;refine ⟨some ⟨b,off,none⟩,len,m',(List.range len).map fun i=>(q i).2,rfl,⟨⟨(List.range len).map fun i=>(q i).1,⟨by simp,hl,hcap,.inr ⟨b,off,rfl,hblt,fun i A hA=>?_⟩⟩,⟨by simp,fun i u r hu hr=>?_⟩,fun u _=>hno u⟩,(fun e=>by cases e),fun _ b' o e hm=>by cases hm⟩,fun r hr=>?_⟩
     · have hi:i<len:=by have:=(List.getElem?_eq_some_iff.1 hA).1; simpa using this
       have e:(q i).1=A:=by simpa [hi] using hA
       have f:=(hq i hi).2;rw [e] at f;have fj:=fun j u h=>by have:=f j u h; rw [addN,← Nat.add_assoc] at this; exact this
       exact ⟨fj 0 _ rfl,fj 1 _ rfl⟩
     · have hi:i<len:=by have:=(List.getElem?_eq_some_iff.1 hu).1; simpa using this
       have e1:(q i).1=u:=by simpa [hi] using hu
       have e2:(q i).2=r:=by simpa [hi] using hr
       rw [← e1,← e2];exact (hq i hi).1.1
     · obtain ⟨i,hi,rfl⟩ := List.mem_map.1 hr;exact (hq i (List.mem_range.1 hi)).1.2
set_option maxRecDepth 100000 in
theorem trod_glusN {H:Type} {enc:TypeId × Value→H} {W:World} {m:Nat} {v:Value} {x:DataW H × List MemPlace} (h:DataW.trod enc Tryd.prog W 0 (fun _=>true) true m 23 [v]=some x) :
    ∃ (a:Option Addr) (len cap:Nat) (l:List (Int × Int)),v=.slice a len cap∧PairsIn .i32 a len cap l W∧(∀ g ∈ l,-2147483648≤g.1∧g.1≤2147483647)∧(a=none→cap=0):=by
 rcases Deep.open_slice Tryd.underlying23 h with ⟨hc,_⟩ | ⟨a',len,cap,m',n',D,Pl,hc,_,hl,hcm,hmm,_,hx⟩
 · simp at hc;subst hc;exact ⟨none,0,0,[],rfl,⟨rfl,Nat.le_refl _,by omega,.inl rfl⟩,(fun _ h=>by cases h),fun _=>rfl⟩
 · simp at hc;subst hc;simp only [if_true] at hmm;subst hmm;have hcap:(m':Int)≤9223372036854775807:=by unfold maxLen at hcm; omega
   have each:∀ i,i<len→∃ A:Int × Int,(-2147483648≤A.1∧A.1≤2147483647)∧∀ j u,[Value.int .i32 A.1,.int .i64 A.2][j]?=some u→W.cell? (a'.add (i*2+j))=some u:=by
    intro i hi;obtain ⟨cs',h1,h2⟩ := hx i (by omega);rw [cGlu] at h1;obtain ⟨_,hlen,hcell⟩ := World.cells?_some h1;obtain ⟨A,he,hA⟩ := trod_glu h2 hlen;refine ⟨A,hA,fun j u hj=>?_⟩;have hj5:j<2:=by have:=(List.getElem?_eq_some_iff.1 hj).1; simpa using this
    have f:=hcell j (by omega);rw [Deep.add_add] at f;rw [← he] at hj;rw [f,hj]
   by_cases hl0:len=0
   · subst hl0;exact ⟨some a',0,m',[],rfl,⟨rfl,by omega,hcap,.inl rfl⟩,(fun _ h=>by cases h),(fun e=>by cases e)⟩
   · obtain ⟨q,hq⟩ := Deep.choose_lt each;obtain ⟨b,off,spot⟩ := a';have hc0:=(hq 0 (by omega)).2 0 _ rfl;have hspot:spot=none:=by simpa [Addr.add] using World.cell?_spot hc0
     subst hspot;rw [addN] at hc0;have hblt:=World.block_lt_of_cell? W _ hc0;refine ⟨some ⟨b,off,none⟩,len,m',(List.range len).map q,rfl,⟨by simp,hl,hcap,.inr ⟨b,off,rfl,hblt,fun i A hA=>?_⟩⟩,(fun A hA=>?_),(fun e=>by cases e)⟩
     · have hi:i<len:=by have:=(List.getElem?_eq_some_iff.1 hA).1; simpa using this
       have e:q i=A:=by simpa [hi] using hA
       have f:=(hq i hi).2;rw [e] at f;have fj:=fun j u h=>by have:=f j u h; rw [addN,← Nat.add_assoc] at this; exact this
       exact ⟨fj 0 _ rfl,fj 1 _ rfl⟩
     · obtain ⟨i,hi,rfl⟩ := List.mem_map.1 hA;exact (hq i (List.mem_range.1 hi)).1
set_option maxRecDepth 100000 in
theorem trod_snap {H:Type} {enc:TypeId × Value→H} {W:World} {m:Nat} {cs:List Value} {x:DataW H × List MemPlace} (h:DataW.trod enc Tryd.prog W 0 (fun _=>true) true m 25 cs=some x) (hl:cs.length=10) :
    ∃ (s:Sn) (ra:Option Addr) (rn rc:Nat) (ga:Option Addr) (gn gc:Nat),cs=(snA s ra rn rc ga gn gc).toList∧SnIn .i32 ra rn rc ga gn gc s W∧(∀ r ∈ s.R,AllC Rng r.l)∧(∀ g ∈ s.B,-2147483648≤g.1∧g.1≤2147483647)∧(s.t.size:Int)≤9223372036854775807∧(-9223372036854775808≤s.k∧s.k≤9223372036854775807):=by
 match cs,hl with
 | [v0,v1,v2,v3,v4,v5,v6,v7,v8,v9],_ =>
  obtain ⟨xs,n,hn,hxy,_,hxl,hf⟩ := DataW.trod_struct Tryd.underlying25 h
  match xs,hxl with
  | [y0,y1,y2,y3,y4,y5,y6,y7,y8,y9],_ =>
   have g0:=hf 0 _ rfl;have g1:=hf 1 _ rfl;have g2:=hf 2 _ rfl;have g3:=hf 3 _ rfl;have g4:=hf 4 _ rfl;have g5:=hf 5 _ rfl;have g6:=hf 6 _ rfl;have g7:=hf 7 _ rfl;have g8:=hf 8 _ rfl;have g9:=hf 9 _ rfl;simp [cI,cStr,cRows,cGls] at g0 g1 g2 g3 g4 g5 g6 g7 g8 g9;obtain ⟨k0,e0,_,hw0⟩ := DataW.trod_int Tryd.underlying3 g0;obtain ⟨k1,e1,_,_⟩ := DataW.trod_int Tryd.underlying3 g1;obtain ⟨k2,e2,_,_⟩ := DataW.trod_int Tryd.underlying3 g2;obtain ⟨k3,e3,_,_⟩ := DataW.trod_int Tryd.underlying3 g3;obtain ⟨k4,e4,_,_⟩ := DataW.trod_int Tryd.underlying3 g4;obtain ⟨t5,e5,_,hw5⟩ := DataW.trod_string Tryd.underlying9 g5;obtain ⟨ra,rn,rc,R,rfl,hR1,hR2⟩ := trod_rowsN g6;obtain ⟨k7,e7,_,_⟩ := DataW.trod_int Tryd.underlying3 g7;obtain ⟨k8,e8,_,_⟩ := DataW.trod_int Tryd.underlying3 g8;obtain ⟨ga,gn,gc,B,rfl,hG1,hG2,hG3⟩ := trod_glusN g9;simp at e0 e1 e2 e3 e4 e5 e7 e8;subst e0 e1 e2 e3 e4 e5 e7 e8
   exact ⟨⟨k0,k1,k2,k3,k4,t5,R,k7,k8,B⟩,ra,rn,rc,ga,gn,gc,rfl,⟨hR1,hG1,hG3⟩,hR2,hG2,by show (t5.size:Int)≤_; unfold maxLen at hw5; omega,by show _≤k0∧k0≤_; simp [Lit.wf,IntKind.min,IntKind.max,IntKind.signed,IntKind.bits] at hw0; omega⟩
set_option maxRecDepth 100000 in
theorem open_snap {H:Type} {enc:TypeId × Value→H} {W:World} {base:Nat} {v:Value} {x:DataW H × List MemPlace} (hv:Value.okWide Tryd.prog W .any base 25 v) (h:∃ m,DataW.trod enc Tryd.prog W 0 (fun _=>true) true m 25 v.cells.toList=some x) :
    ∃ (s:Sn) (ra:Option Addr) (rn rc:Nat) (ga:Option Addr) (gn gc:Nat),v=.agg (snA s ra rn rc ga gn gc)∧SnIn .i32 ra rn rc ga gn gc s W∧(∀ r ∈ s.R,AllC Rng r.l)∧(∀ g ∈ s.B,-2147483648≤g.1∧g.1≤2147483647)∧(s.t.size:Int)≤9223372036854775807∧(-9223372036854775808≤s.k∧s.k≤9223372036854775807):=by
 obtain ⟨cs,rfl,hsz⟩ := okWide_struct Tryd.underlying25 hv;rw [cSnap] at hsz;obtain ⟨m,hm⟩ := h;obtain ⟨s,ra,rn,rc,ga,gn,gc,he,h2⟩ := trod_snap hm (by simpa [Value.cells] using hsz);refine ⟨s,ra,rn,rc,ga,gn,gc,?_,h2⟩
 congr 1
 apply Array.ext'
 simpa [Value.cells] using he
end Go.Proofs.YtagolklnjhpbdaaDoor.K
