import Derived.Test.YtagolklnjhpbdaaDoorMerged0
import Derived.Test.YtagolklnjhpbdaaDoorRows
import Derived.RangeFuncBox
import Derived.RangeFuncNested
import Derived.RangeFuncBound
import Derived.RangeFuncCalls
import Derived.RangeFuncLeaves
import Derived.Shelf.Abstract
import Derived.Shelf.RegionOpen
import Derived.WalkKit
import Derived.WalkLawsBesides
import Derived.WalkSpells
import Derived.OwnWalkIn
import Derived.TacticsInMore
import Derived.LoopNIn
import Derived.LoopIn
import Derived.Maps.AppendAt
import Derived.Lib.Hide
import Derived.Outline
import Derived.OrdersIn
import Derived.CallsIn
namespace Go.Proofs.YtagolklnjhpbdaaDoor.I
open Go.RowKit Go.Shelf
attribute [local go_sem] Oper.semAt_some
theorem ret_int {k:IntKind} {a b:Int} (h:a=b):Ending.returned (.int k a)=.returned (.int k b):=by rw [h]
theorem clip_eq {v x:Int} (h:x=if (4611686018427387904:Int)<(if v<0 then 0 else v) then 4611686018427387904 else if v<0 then 0 else v):x=((clipN v:Nat):Int):=by
 rw [h];unfold clipN top
 split <;> split <;> omega
theorem clip_any (v:Int) (w:World):Calls Tryd.prog 85 #[.int .i64 v] w fun e w'=>e=.returned (.int .i64 ((clipN v:Nat):Int))∧w=w':=by
 go_enter Tryd.func85,Tryd.ntmps85
 go_wp2
 all_goals go_ret
 all_goals first
   | (refine ⟨ret_int ?_,rfl⟩; unfold clipN top; omega)
   | (refine ⟨ret_int (clip_eq ?_),rfl⟩
      first
      | (have h:(4611686018427387904:Int)<(if v<0 then 0 else v):=by assumption
         rw [if_pos h])
      | (have h:(if v<0 then 0 else v)≤(4611686018427387904:Int):=by assumption
         rw [if_neg (by omega)]
         first | rw [if_pos (by assumption)] | rw [if_neg (by omega)]))
set_option maxRecDepth 100000 in
set_option maxHeartbeats 1000000 in
theorem digits1_in (n:Nat) (hn:1≤n) (l Bn n₀:Nat) (v:Int) (J Jx:List UInt8→World→Prop)
    (hY:∀ pre x W,J pre W→pre.length<(digs (clipN v)).length→YieldAt Fence.wide (n - 1) Tryd.prog l #[.int .u8 (x.toNat:Int)] W fun e W' =>
     (e=.returned (.bool true)∧J (pre++[x]) W'∧Below n₀ W W')∨(e=.returned (.bool false)∧Jx (pre++[x]) W'))
    (W:World) (hBn:W.cell? ⟨Bn,0,none⟩=some (.int .i64 v)) (h0:J [] W) :
    CallsIn Fence.wide n Tryd.prog 84 #[.func (.yield l) #[] #[],.pointer (some ⟨Bn,0,none⟩)] W fun e W'=>(∃ v,e=.returned v) ∧
      ((∃ ys,ys=digs (clipN v)∧J ys W')∨(∃ pre,pre <+: digs (clipN v)∧Jx pre W')):=by
 refine callsIn_of_wp Tryd.func84 rfl trivial ?_ rfl;simp only [Tryd.ntmps84,List.size_toArray,List.length_cons,List.length_nil,Nat.reduceAdd,Nat.reduceSub,Array.replicate_succ,Array.replicate_zero,List.push_toArray,List.append_toArray,List.nil_append,List.cons_append];obtain ⟨L,hL⟩ : ∃ L,digs (clipN v)=L:=⟨_,rfl⟩;rw [hL] at hY ⊢;have HL:=hDx hL;have HY:=hDx hY;clear hL hY
 gi_wp2_with (refine ⟨trivial,?_⟩; gi_at_call 85; refine (callsIn_wide.2 (clip_any v _)).mono ?_; rintro e w' ⟨rfl,rfl⟩)
 obtain ⟨m0,hm0⟩ : ∃ m0,clipN v=m0:=⟨_,rfl⟩;have hm0top:(m0:Int)≤9223372036854775807:=by have:=clipN_le v; rw [hm0] at this; unfold top at this; omega
 rw [hm0];rw [hm0] at HL;clear hm0
 gi_loopw [3] (fun p wr=>∃ (pre:List UInt8) (m:Nat),p=.int .i64 m∧(m:Int)≤9223372036854775807∧Hid (L=pre++digs m)∧Hid (J pre wr)) (fun p _=>(intOf p).toNat)
 case atStart=>exact ⟨[],m0,rfl,hm0top,hDx (by rw [HL.out]; rfl),hDx h0⟩
 case round =>
  rename_i wr _;obtain ⟨pre,m,rfl,hm,HLp,HJ⟩ := hrel;by_cases hb:m<128
  · have hL1:L=pre++[UInt8.ofNat m]:=by rw [HLp.out,digs_small hb]
    obtain ⟨fn,tmps,assign,body,hy,hR⟩ := HY.out pre (UInt8.ofNat m) wr HJ.out (by rw [hL1]; simp);have ex:((UInt8.ofNat m).toNat:Int)=(m:Int):=by simp; omega
    rw [ex] at hy;have HL1:=hDx hL1;have HR:=hDx hR;clear hL1 ex hR
    gi_wp2
    refine HR.out.mono ?_;rintro e W' (⟨rfl,hJ',hk⟩ | ⟨rfl,hJx'⟩)
    · gi_wp2
      go_end0
      exact ⟨⟨_,rfl⟩,.inl ⟨_,HL1.out.symm,hJ'⟩⟩
    · gi_wp2
      go_end0
      exact ⟨⟨_,rfl⟩,.inr ⟨_,by rw [HL1.out]; exact List.prefix_refl _,hJx'⟩⟩
  · have hL1:L=(pre++[UInt8.ofNat (m % 128+128)])++digs (m / 128):=by rw [HLp.out,digs_big hb]; simp
    obtain ⟨fn,tmps,assign,body,hy,hR⟩ := HY.out pre (UInt8.ofNat (m % 128+128)) wr HJ.out (by rw [hL1]; simp);have e1:=i64_and127 (m:Int);have e2:=low_byte m;rw [← e2] at hy;have HL1:=hDx hL1;have HR:=hDx hR;clear hL1 hR e2
    gi_wp2
    refine HR.out.mono ?_;rintro e W' (⟨rfl,hJ',hk⟩ | ⟨rfl,hJx'⟩)
    · have HJ':=hDx hJ';clear hJ' hk
      gi_wp2
      go_roundw
      case rel=>exact ⟨pre++[UInt8.ofNat (m % 128+128)],m / 128,by go_num,by omega,HL1,HJ'⟩
      case measure=>simp [intOf]; omega
    · gi_wp2
      refine bodyPost_ret (results_none rfl _ _ _) rfl ?_;exact ⟨⟨_,rfl⟩,.inr ⟨_,by rw [HL1.out]; exact List.prefix_append _ _,hJx'⟩⟩
theorem digits_in (n:Nat) (v:Int) (w:World) :
    CallsIn Fence.wide n Tryd.prog 66 #[.int .i64 v] w fun e w'=>e=.returned (.func (.func 84) #[] #[.pointer (some ⟨w.heap.size,0,none⟩)])∧w'=w.alloc (.cells #[.int .i64 v] 3):=by
 refine callsIn_of_wp Tryd.func66 rfl trivial ?_ rfl;simp only [Tryd.ntmps66,List.size_toArray,List.length_cons,List.length_nil,Nat.reduceAdd,Nat.reduceSub,Array.replicate_succ,Array.replicate_zero,List.push_toArray,List.append_toArray,List.nil_append,List.cons_append]
 gi_wp2
 go_ret
 exact ⟨rfl,rfl⟩
theorem digits_stops (n:Nat) (hn:1≤n) (Bn n₀:Nat) (v:Int) (w:World) (hBn:Bn<w.heap.size) (hc:w.cell? ⟨Bn,0,none⟩=some (.int .i64 v)) :
    SeqStopsK Fence.wide n Tryd.prog 84 #[.pointer (some ⟨Bn,0,none⟩)] (fun x:UInt8=>#[Value.int .u8 (x.toNat:Int)]) (Below n₀) (fun ys=>ys=digs (clipN v)) (fun pre=>pre <+: digs (clipN v)) (digs (clipN v)).length w:=fun l J Jx W hW _ _ hY h0 =>
 digits1_in n hn l Bn n₀ v J Jx hY W ((hW.cell (p:=⟨Bn,0,none⟩) hBn).trans hc) h0
end Go.Proofs.YtagolklnjhpbdaaDoor.I

namespace Go.Proofs.YtagolklnjhpbdaaDoor.I
open Go
section
variable {F:Fence} {n:Nat} {P:Program} {ops:Array Oper} {Q:Exit→Act→World→Prop}
def EachOp (p:Nat→Oper→Prop):Nat→List Oper→Prop
  | _,[]=>True
  | k,o::l=>p k o∧EachOp p (k+1) l
theorem EachOp.at {p:Nat→Oper→Prop}:∀ {k:Nat} {l:List Oper},EachOp p k l→∀ i o,l[i]?=some o→p (k+i) o
  | _,[],_,i,o,h=>by simp at h
  | k,x::l,hp,0,o,h=>by simp at h; subst h; exact hp.1
  | k,x::l,hp,i+1,o,h=>by
   have:=EachOp.at hp.2 i o (by simpa using h)
   rwa [show k+(i+1)=k+1+i from by omega]
def distinctB (ops:Array Oper):Bool:=(List.range ops.size).all fun i=>(List.range ops.size).all fun j=>i == j || (((ops[i]?).bind (·.dst)).isNone || (ops[i]?).bind (·.dst) != (ops[j]?).bind (·.dst))
theorem distinctB_spec (h:distinctB ops=true) (i j:Nat) (o o':Oper) (d:Nat) (hi:ops[i]?=some o) (hj:ops[j]?=some o') (ho:o.dst=some d) (ho':o'.dst=some d):i=j:=by
 have h1:=List.all_eq_true.1 (List.all_eq_true.1 h i (List.mem_range.2 (gSx.1 hi).1)) j (List.mem_range.2 (gSx.1 hj).1);rw [hi,hj] at h1
 simpa [ho,ho'] using h1
def orderedB (ops:Array Oper):Bool:=(List.range ops.size).all fun i=>((ops[i]?).map fun o=>o.after.all fun e=>decide (e.on<i)).getD true
theorem orderedB_spec (h:orderedB ops=true) (i:Nat) (o:Oper) (hi:ops[i]?=some o) (e:Edge) (he:e ∈ o.after):e.on<i:=by
 have h1:=List.all_eq_true.1 h i (List.mem_range.2 (gSx.1 hi).1);rw [hi] at h1;simp only [Option.map_some,Option.getD_some] at h1
 simpa using Array.all_eq_true_iff_forall_mem.1 h1 e he
def Agree (ops:Array Oper) (base a:Act):Prop:=a.defers=base.defers∧a.tmps.size=base.tmps.size∧∀ t,(ops.toList.all fun o=>o.dst != some t)=true→a.tmps.getD t undef=base.tmps.getD t undef
def Held (ops:Array Oper) (Ok:Nat→Value→World→Prop) (listed:Array Bool) (a:Act) (w:World):Prop :=
 ∀ i o d,ops[i]?=some o→o.dst=some d→listed.getD i false=true→Ok i (a.tmps.getD d undef) w
def OpStepIn (F:Fence) (n:Nat) (P:Program) (ops:Array Oper) (Q:Exit→Act→World→Prop) (base:Act) (C:Array Bool→World→Prop) (Ok:Nat→Value→World→Prop) (i:Nat) (o:Oper):Prop :=
 ∀ (listed:Array Bool) (a:Act) (w:World),C listed w→listed.size=ops.size→listed.getD i false=false→(∀ e ∈ o.after,Region.binds .any e=true→listed.getD e.on false=true)→Agree ops base a→(∀ e ∈ o.after,Region.binds .any e=true→∀ oj d,ops[e.on]?=some oj→oj.dst=some d→Ok e.on (a.tmps.getD d undef) w) →
   (Region.wanted o (yielded ops a.tmps)=true∧∀ K:Act→World→Prop,(∀ v w',C (listed.setIfInBounds i true) w'→(∀ j u,j≠i→listed.getD j false=true→Ok j u w→Ok j u w')→Ok i v w'→K (a.put o.dst v) w')→o.wpIn F n P a w K Q) ∨
   (Region.wanted o (yielded ops a.tmps)=false∧(∀ f,o.about P w a.eval=some f→F.fn f)∧C (listed.setIfInBounds i true) w∧Ok i undef w)
theorem getD_put {a:Act} {d t:Nat} {v:Value} (hd:d<a.tmps.size):(a.put (some d) v).tmps.getD t undef=if d=t then v else a.tmps.getD t undef:=by
 simp only [Act.put,gDx,Array.getElem?_setIfInBounds];by_cases h:d=t
 · subst h; simp [hd]
 · simp [h]
theorem wpIn_region_rel {id:Nat} {base:Act} {w0:World} (hm:P.follows .mixedOrders=true) (C:Array Bool→World→Prop) (Ok:Nat→Value→World→Prop)
    (hin:(ops.toList.all fun o=>match o.dst with | some d=>decide (d<base.tmps.size) | none=>true)=true)
    (hdis:distinctB ops=true) (hordB:orderedB ops=true)
    (hop:EachOp (OpStepIn F n P ops Q base C Ok) 0 ops.toList)
    (hdone:∀ listed a w,C listed w→(∀ i,i<ops.size→listed.getD i false=true)→Agree ops base a→(∀ (i:Nat) (o:Oper) (d:Nat),ops[i]?=some o→o.dst=some d→Ok i (a.tmps.getD d undef) w)→Q .normal a w)
    (h0:C (Array.replicate ops.size false) w0.drew):(Code.region id ops true).wpIn F n P Q base w0:=by
 have hinj:=fun i j o o' d=>distinctB_spec (ops:=ops) hdis i j o o' d
 have hord:∀ (i:Nat) (o:Oper),ops[i]?=some o→∀ e ∈ o.after,e.on<i:=fun i o hi e he=>orderedB_spec hordB i o hi e he
 have hin':∀ (i:Nat) (o:Oper) (d:Nat),ops[i]?=some o→o.dst=some d→d<base.tmps.size:=fun i o d hi hd=>by
  have:=List.all_eq_true.1 hin o (by have:=Array.mem_of_getElem? hi; simpa using this);rw [hd] at this
  simpa using this
 have main:∀ (fuel:Nat) (listed:Array Bool) (a:Act) (w:World),listed.size=ops.size→C listed w→Agree ops base a→Held ops Ok listed a w →
     ((List.range ops.size).filter fun i=>!listed.getD i true).length≤fuel→wpAnyIn F n P .any ops Q fuel listed a w:=by
  intro fuel
  induction fuel with
  | zero =>
   intro listed a w hsz hc ha hh hf;have hall:∀ i,i<ops.size→listed.getD i true=true:=fun i hi=>by
    have h1:((List.range ops.size).filter fun i=>!listed.getD i true)=[]:=List.length_eq_zero_iff.1 (by omega);have h2:=List.filter_eq_nil_iff.1 h1 i (List.mem_range.2 hi)
    simpa using h2
   have hallF:∀ i,i<ops.size→listed.getD i false=true:=fun i hlt=>by
    have:=hall i hlt;rw [gDx] at this ⊢;rw [Array.getElem?_eq_getElem (by omega)] at this ⊢
    simpa using this
   refine ⟨?_,hdone listed a w hc hallF ha fun i o d hi hd=>hh i o d hi hd (hallF i (gSx.1 hi).1)⟩
   · unfold Region.ready;refine List.filter_eq_nil_iff.2 fun i hi=>?_
     rw [hall i (List.mem_range.1 hi)];simp
  | succ fuel ih =>
   intro listed a w hsz hc ha hh hf;refine ⟨fun hr=>?_,fun i hi=>?_⟩
   ·
     have hall:∀ n i,i<n→i<ops.size→listed.getD i false=true:=by
      intro n
      induction n with
      | zero=>intro i hi _; omega
      | succ n ihn =>
       intro i hi hlt;by_cases hin:i<n
       · exact ihn i hin hlt
       · obtain rfl:i=n:=by omega
         cases hl:listed.getD i false with
         | true=>rfl
         | false =>
          exfalso
          have hl':listed.getD i true=false:=by
           rw [gDx] at hl ⊢;rw [Array.getElem?_eq_getElem (by omega)] at hl ⊢
           simpa using hl
          have hmem:i ∈ Region.ready .any ops listed:=by
           unfold Region.ready;refine List.mem_filter.2 ⟨List.mem_range.2 hlt,?_⟩;rw [hl',Array.getElem?_eq_getElem hlt];simp only [Bool.not_false,Bool.true_and,Option.map_some,Option.getD_some];refine Array.all_eq_true_iff_forall_mem.2 fun e he=>?_
           have:=ihn e.on (hord i _ (Array.getElem?_eq_getElem hlt) e he) (by have:=hord i _ (Array.getElem?_eq_getElem hlt) e he; omega);simp [this]
          rw [hr] at hmem;cases hmem
     exact hdone listed a w hc (fun i hlt=>hall _ i (Nat.lt_succ_self i) hlt) ha fun i o d hi hd=>hh i o d hi hd (hall _ i (Nat.lt_succ_self i) (gSx.1 hi).1)
   · have hi':=hi;unfold Region.ready at hi';obtain ⟨hlt,hcond⟩ := List.mem_filter.1 hi';have hlt:=List.mem_range.1 hlt;simp only [Bool.and_eq_true,Bool.not_eq_true'] at hcond;obtain ⟨hun,hdeps⟩ := hcond;obtain ⟨o,ho⟩ : ∃ o,ops[i]?=some o:=⟨_,Array.getElem?_eq_getElem hlt⟩;rw [ho] at hdeps;simp only [Option.map_some,Option.getD_some] at hdeps;have hstep:=hop.at i o (by simpa using ho);rw [Nat.zero_add] at hstep;have hunF:listed.getD i false=false:=by
      rw [gDx] at hun ⊢;rw [Array.getElem?_eq_getElem (by omega)] at hun ⊢
      simpa using hun
     have hdl:∀ e ∈ o.after,Region.binds .any e=true→listed.getD e.on false=true:=fun e he hb=>by
      have h1:=Array.all_eq_true_iff_forall_mem.1 hdeps e he;rw [hb] at h1;simp at h1;rw [gDx];exact h1
     have hd:=hstep listed a w hc hsz hunF hdl ha fun e he hb oj d hoj hdj=>by
      have h1:=Array.all_eq_true_iff_forall_mem.1 hdeps e he;rw [hb] at h1;simp at h1;refine hh e.on oj d hoj hdj ?_;rw [gDx];exact h1
     have next:∀ v w',C (listed.setIfInBounds i true) w'→(∀ j u,j≠i→listed.getD j false=true→Ok j u w→Ok j u w')→Ok i v w'→wpAnyIn F n P .any ops Q fuel (listed.setIfInBounds i true) (a.put o.dst v) w':=by
      intro v w' hr hkeep hv;refine ih _ _ _ (by simpa using hsz) hr ?_ ?_ ?_
      · obtain ⟨k1,k2,k3⟩ := ha;cases hdst:o.dst with
        | none=>exact ⟨k1,k2,k3⟩
        | some d =>
         have hds:=hin' i o d ho hdst;refine ⟨k1,by simpa [Act.put] using k2,fun t ht=>?_⟩;rw [getD_put (by omega),if_neg ?_]
         · exact k3 t ht
         · intro e;have:=List.all_eq_true.1 ht o (by have:=Array.mem_of_getElem? ho; simpa using this);rw [hdst,e] at this;simp at this
      · intro j oj dj hj hdj hlj;by_cases hji:j=i
        · subst hji;rw [ho] at hj;cases hj;rw [hdj,getD_put (by have:=hin' j o dj ho hdj; have:=ha.2.1; omega),if_pos rfl];exact hv
        · have hlj':listed.getD j false=true:=by
           rw [gDx,Array.getElem?_setIfInBounds,if_neg (Ne.symm hji),← gDx] at hlj;exact hlj
          have hold:=hkeep j _ hji hlj' (hh j oj dj hj hdj hlj');cases hdst:o.dst with
          | none=>exact hold
          | some d =>
           rw [getD_put (by have:=hin' i o d ho hdst; have:=ha.2.1; omega),if_neg ?_]
           · exact hold
           · intro e;exact hji (hinj j i oj o dj hj ho hdj (by rw [hdst,e]))
      · have hcount:((List.range ops.size).filter fun k=>!(listed.setIfInBounds i true).getD k true).length<((List.range ops.size).filter fun k=>!listed.getD k true).length:=by
         have hsub:((List.range ops.size).filter fun k=>!(listed.setIfInBounds i true).getD k true)=((List.range ops.size).filter fun k=>!listed.getD k true).filter fun k=>k != i:=by
          rw [List.filter_filter];refine List.filter_congr fun k hk=>?_
          rw [gDx,Array.getElem?_setIfInBounds];by_cases hki:i=k
          · subst hki; rw [if_pos rfl,if_pos (by omega)]; simp
          · rw [if_neg hki,← gDx];simp [Ne.symm hki]
         rw [hsub];refine List.length_filter_lt_length_iff_exists.2 ⟨i,List.mem_filter.2 ⟨List.mem_range.2 hlt,?_⟩,?_⟩
         · rw [gDx]; simpa using hun
         · simp
        omega
     unfold wpOpIn;rw [ho];simp only;rcases hd with ⟨hw,hk⟩ | ⟨hw,hab,hr,hv⟩
     · rw [if_pos hw];exact hk _ next
     · rw [if_neg (by rw [hw]; decide)];exact ⟨hab,next _ _ hr (fun _ _ _ _ h=>h) hv⟩
 refine wpIn_region_any hm (main ops.size (Array.replicate ops.size false) base w0.drew (by simp) h0 ⟨rfl,rfl,fun _ _=>rfl⟩ (fun i o d hi _ hl=>?_) ?_)
 · have hlt:=(gSx.1 hi).1;rw [gDx] at hl;simp [hlt] at hl
 · exact Nat.le_trans (List.length_filter_le _ _) (by simp)
end
end Go.Proofs.YtagolklnjhpbdaaDoor.I
