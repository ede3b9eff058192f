import Derived.Test.YtagolklnjhpbdaaDoorMerged0
import Derived.Orders
import Derived.Calls
import Derived.WalkKit
import Derived.StillTail
namespace Go.Proofs.YtagolklnjhpbdaaDoor.R
open Go
section
variable {P:Program} {ops:Array Oper} {Q:Exit→Act→World→Prop}
def EachOp (p:Nat→Oper→Prop):Nat→List Oper→Prop
  | _,[]=>True
  | k,o::l=>p k o∧EachOp p (k+1) l
theorem EachOp.at {p:Nat→Oper→Prop}:∀ {k:Nat} {l:List Oper},EachOp p k l→∀ i o,l[i]?=some o→p (k+i) o
  | _,[],_,i,o,h=>by simp at h
  | k,x::l,hp,0,o,h=>by simp at h; subst h; exact hp.1
  | k,x::l,hp,i+1,o,h=>by
   have:=EachOp.at hp.2 i o (by simpa using h)
   rwa [show k+(i+1)=k+1+i from by omega]
def distinctB (ops:Array Oper):Bool:=(List.range ops.size).all fun i=>(List.range ops.size).all fun j=>i == j || (((ops[i]?).bind (·.dst)).isNone || (ops[i]?).bind (·.dst) != (ops[j]?).bind (·.dst))
theorem distinctB_spec (h:distinctB ops=true) (i j:Nat) (o o':Oper) (d:Nat) (hi:ops[i]?=some o) (hj:ops[j]?=some o') (ho:o.dst=some d) (ho':o'.dst=some d):i=j:=by
 have h1:=List.all_eq_true.1 (List.all_eq_true.1 h i (List.mem_range.2 (gSx.1 hi).1)) j (List.mem_range.2 (gSx.1 hj).1);rw [hi,hj] at h1
 simpa [ho,ho'] using h1
def orderedB (ops:Array Oper):Bool:=(List.range ops.size).all fun i=>((ops[i]?).map fun o=>o.after.all fun e=>decide (e.on<i)).getD true
theorem orderedB_spec (h:orderedB ops=true) (i:Nat) (o:Oper) (hi:ops[i]?=some o) (e:Edge) (he:e ∈ o.after):e.on<i:=by
 have h1:=List.all_eq_true.1 h i (List.mem_range.2 (gSx.1 hi).1);rw [hi] at h1;simp only [Option.map_some,Option.getD_some] at h1
 simpa using Array.all_eq_true_iff_forall_mem.1 h1 e he
def Agree (ops:Array Oper) (base a:Act):Prop:=a.defers=base.defers∧a.tmps.size=base.tmps.size∧∀ t,(ops.toList.all fun o=>o.dst != some t)=true→a.tmps.getD t undef=base.tmps.getD t undef
def Held (ops:Array Oper) (Ok:Nat→Value→World→Prop) (listed:Array Bool) (a:Act) (w:World):Prop :=
 ∀ i o d,ops[i]?=some o→o.dst=some d→listed.getD i false=true→Ok i (a.tmps.getD d undef) w
def OpStep (P:Program) (ops:Array Oper) (Q:Exit→Act→World→Prop) (base:Act) (C:World→Prop) (R:World→World→Prop) (Ok:Nat→Value→World→Prop) (i:Nat) (o:Oper):Prop :=
 ∀ (a:Act) (w:World),C w→Agree ops base a→(∀ e ∈ o.after,Region.binds .any e=true→∀ oj d,ops[e.on]?=some oj→oj.dst=some d→Ok e.on (a.tmps.getD d undef) w) →
   (Region.wanted o (yielded ops a.tmps)=true∧∀ K:Act→World→Prop,(∀ v w',R w w'→Ok i v w'→K (a.put o.dst v) w')→o.wp P a w K Q) ∨
   (Region.wanted o (yielded ops a.tmps)=false∧R w w∧Ok i undef w)
theorem getD_put {a:Act} {d t:Nat} {v:Value} (hd:d<a.tmps.size):(a.put (some d) v).tmps.getD t undef=if d=t then v else a.tmps.getD t undef:=by
 simp only [Act.put,gDx,Array.getElem?_setIfInBounds];by_cases h:d=t
 · subst h; simp [hd]
 · simp [h]
theorem wp_region_rel {id:Nat} {base:Act} {w0:World} (hm:P.follows .mixedOrders=true) (C:World→Prop) (R:World→World→Prop) (Ok:Nat→Value→World→Prop)
    (hin:(ops.toList.all fun o=>match o.dst with | some d=>decide (d<base.tmps.size) | none=>true)=true)
    (hdis:distinctB ops=true) (hordB:orderedB ops=true)
    (hC:∀ w w',C w→R w w'→C w') (hOk:∀ i v w w',Ok i v w→R w w'→Ok i v w')
    (hop:EachOp (OpStep P ops Q base C R Ok) 0 ops.toList)
    (hdone:∀ a w,C w→Agree ops base a→(∀ (i:Nat) (o:Oper) (d:Nat),ops[i]?=some o→o.dst=some d→Ok i (a.tmps.getD d undef) w)→Q .normal a w)
    (h0:C w0.drew):(Code.region id ops true).wp P Q base w0:=by
 have hinj:=fun i j o o' d=>distinctB_spec (ops:=ops) hdis i j o o' d
 have hord:∀ (i:Nat) (o:Oper),ops[i]?=some o→∀ e ∈ o.after,e.on<i:=fun i o hi e he=>orderedB_spec hordB i o hi e he
 have hin':∀ (i:Nat) (o:Oper) (d:Nat),ops[i]?=some o→o.dst=some d→d<base.tmps.size:=fun i o d hi hd=>by
  have:=List.all_eq_true.1 hin o (by have:=Array.mem_of_getElem? hi; simpa using this);rw [hd] at this
  simpa using this
 have main:∀ (fuel:Nat) (listed:Array Bool) (a:Act) (w:World),listed.size=ops.size→C w→Agree ops base a→Held ops Ok listed a w →
     ((List.range ops.size).filter fun i=>!listed.getD i true).length≤fuel→wpAny P .any ops Q fuel listed a w:=by
  intro fuel
  induction fuel with
  | zero =>
   intro listed a w hsz hc ha hh hf;have hall:∀ i,i<ops.size→listed.getD i true=true:=fun i hi=>by
    have h1:((List.range ops.size).filter fun i=>!listed.getD i true)=[]:=List.length_eq_zero_iff.1 (by omega);have h2:=List.filter_eq_nil_iff.1 h1 i (List.mem_range.2 hi)
    simpa using h2
   refine ⟨?_,hdone a w hc ha fun i o d hi hd=>hh i o d hi hd ?_⟩
   · unfold Region.ready;refine List.filter_eq_nil_iff.2 fun i hi=>?_
     rw [hall i (List.mem_range.1 hi)];simp
   · have hlt:=(gSx.1 hi).1;have:=hall i hlt;rw [gDx] at this ⊢;rw [Array.getElem?_eq_getElem (by omega)] at this ⊢
     simpa using this
  | succ fuel ih =>
   intro listed a w hsz hc ha hh hf;refine ⟨fun hr=>?_,fun i hi=>?_⟩
   ·
     have hall:∀ n i,i<n→i<ops.size→listed.getD i false=true:=by
      intro n
      induction n with
      | zero=>intro i hi _; omega
      | succ n ihn =>
       intro i hi hlt;by_cases hin:i<n
       · exact ihn i hin hlt
       · obtain rfl:i=n:=by omega
         cases hl:listed.getD i false with
         | true=>rfl
         | false =>
          exfalso
          have hl':listed.getD i true=false:=by
           rw [gDx] at hl ⊢;rw [Array.getElem?_eq_getElem (by omega)] at hl ⊢
           simpa using hl
          have hmem:i ∈ Region.ready .any ops listed:=by
           unfold Region.ready;refine List.mem_filter.2 ⟨List.mem_range.2 hlt,?_⟩;rw [hl',Array.getElem?_eq_getElem hlt];simp only [Bool.not_false,Bool.true_and,Option.map_some,Option.getD_some];refine Array.all_eq_true_iff_forall_mem.2 fun e he=>?_
           have:=ihn e.on (hord i _ (Array.getElem?_eq_getElem hlt) e he) (by have:=hord i _ (Array.getElem?_eq_getElem hlt) e he; omega);simp [this]
          rw [hr] at hmem;cases hmem
     exact hdone a w hc ha fun i o d hi hd=>hh i o d hi hd (hall _ i (Nat.lt_succ_self i) (gSx.1 hi).1)
   · have hi':=hi;unfold Region.ready at hi';obtain ⟨hlt,hcond⟩ := List.mem_filter.1 hi';have hlt:=List.mem_range.1 hlt;simp only [Bool.and_eq_true,Bool.not_eq_true'] at hcond;obtain ⟨hun,hdeps⟩ := hcond;obtain ⟨o,ho⟩ : ∃ o,ops[i]?=some o:=⟨_,Array.getElem?_eq_getElem hlt⟩;rw [ho] at hdeps;simp only [Option.map_some,Option.getD_some] at hdeps;have hstep:=hop.at i o (by simpa using ho);rw [Nat.zero_add] at hstep;have hd:=hstep a w hc ha fun e he hb oj d hoj hdj=>by
      have h1:=Array.all_eq_true_iff_forall_mem.1 hdeps e he;rw [hb] at h1;simp at h1;refine hh e.on oj d hoj hdj ?_;rw [gDx];exact h1
     have next:∀ v w',R w w'→Ok i v w'→wpAny P .any ops Q fuel (listed.setIfInBounds i true) (a.put o.dst v) w':=by
      intro v w' hr hv;refine ih _ _ _ (by simpa using hsz) (hC _ _ hc hr) ?_ ?_ ?_
      · obtain ⟨k1,k2,k3⟩ := ha;cases hdst:o.dst with
        | none=>exact ⟨k1,k2,k3⟩
        | some d =>
         have hds:=hin' i o d ho hdst;refine ⟨k1,by simpa [Act.put] using k2,fun t ht=>?_⟩;rw [getD_put (by omega),if_neg ?_]
         · exact k3 t ht
         · intro e;have:=List.all_eq_true.1 ht o (by have:=Array.mem_of_getElem? ho; simpa using this);rw [hdst,e] at this;simp at this
      · intro j oj dj hj hdj hlj;by_cases hji:j=i
        · subst hji;rw [ho] at hj;cases hj;rw [hdj,getD_put (by have:=hin' j o dj ho hdj; have:=ha.2.1; omega),if_pos rfl];exact hv
        · have hlj':listed.getD j false=true:=by
           rw [gDx,Array.getElem?_setIfInBounds,if_neg (Ne.symm hji),← gDx] at hlj;exact hlj
          have hold:=hOk _ _ _ _ (hh j oj dj hj hdj hlj') hr;cases hdst:o.dst with
          | none=>exact hold
          | some d =>
           rw [getD_put (by have:=hin' i o d ho hdst; have:=ha.2.1; omega),if_neg ?_]
           · exact hold
           · intro e;exact hji (hinj j i oj o dj hj ho hdj (by rw [hdst,e]))
      · have hcount:((List.range ops.size).filter fun k=>!(listed.setIfInBounds i true).getD k true).length<((List.range ops.size).filter fun k=>!listed.getD k true).length:=by
         have hsub:((List.range ops.size).filter fun k=>!(listed.setIfInBounds i true).getD k true)=((List.range ops.size).filter fun k=>!listed.getD k true).filter fun k=>k != i:=by
          rw [List.filter_filter];refine List.filter_congr fun k hk=>?_
          rw [gDx,Array.getElem?_setIfInBounds];by_cases hki:i=k
          · subst hki; rw [if_pos rfl,if_pos (by omega)]; simp
          · rw [if_neg hki,← gDx];simp [Ne.symm hki]
         rw [hsub];refine List.length_filter_lt_length_iff_exists.2 ⟨i,List.mem_filter.2 ⟨List.mem_range.2 hlt,?_⟩,?_⟩
         · rw [gDx]; simpa using hun
         · simp
        omega
     unfold wpOp;rw [ho];simp only;rcases hd with ⟨hw,hk⟩ | ⟨hw,hr,hv⟩
     · rw [if_pos hw];exact .inl (hk _ next)
     · rw [if_neg (by rw [hw]; decide)];exact next _ _ hr hv
 refine wp_region_any hm (main ops.size (Array.replicate ops.size false) base w0.drew (by simp) h0 ⟨rfl,rfl,fun _ _=>rfl⟩ (fun i o d hi _ hl=>?_) ?_)
 · have hlt:=(gSx.1 hi).1;rw [gDx] at hl;simp [hlt] at hl
 · exact Nat.le_trans (List.length_filter_le _ _) (by simp)
end
theorem wanted_of {ops:Array Oper} {a:Act} {o oj:Oper} {j d:Nat} {b:Bool} (ho:o.guard=some (j,b)) (hj:ops[j]?=some oj) (hd:oj.dst=some d) (hv:a.tmps.getD d undef=.bool b) (hs:d<a.tmps.size):Region.wanted o (yielded ops a.tmps)=true:=by
 have h1:a.tmps[d]?=some (.bool b):=by
  rw [gDx,Array.getElem?_eq_getElem hs] at hv;rw [Array.getElem?_eq_getElem hs]
  simpa using hv
 simp [Region.wanted,ho,yielded,hj,hd,h1]
end Go.Proofs.YtagolklnjhpbdaaDoor.R

namespace Go.Proofs.YtagolklnjhpbdaaDoor.R
open Go
section
variable {P:Program} {ops:Array Oper} {Q:Exit→Act→World→Prop}
def orderedN (ops:Array Oper) (n:Nat):Bool:=(List.range n).all fun i=>((ops[i]?).map fun o=>o.after.all fun e=>!Region.binds .any e || decide (e.on<i)).getD true
theorem orderedN_spec {n:Nat} (h:orderedN ops n=true) (i:Nat) (o:Oper) (hn:i<n) (hi:ops[i]?=some o) (e:Edge) (he:e ∈ o.after) (hb:Region.binds .any e=true):e.on<i:=by
 have h1:=List.all_eq_true.1 h i (List.mem_range.2 hn);rw [hi] at h1;simp only [Option.map_some,Option.getD_some] at h1;have h2:=Array.all_eq_true_iff_forall_mem.1 h1 e he
 simpa [hb] using h2
def sinkN (ops:Array Oper) (n:Nat):Bool:=(List.range ops.size).all fun j=>decide (j<n) || ((ops[j]?).map fun o=>(List.range n).all fun k=>o.after.any fun e=>Region.binds .any e && e.on == k).getD true
theorem sinkN_spec {n:Nat} (h:sinkN ops n=true) (j:Nat) (o:Oper) (hn:n≤j) (hj:ops[j]?=some o) (k:Nat) (hk:k<n):∃ e ∈ o.after,Region.binds .any e=true∧e.on=k:=by
 have h1:=List.all_eq_true.1 h j (List.mem_range.2 (gSx.1 hj).1);rw [hj] at h1;simp only [Option.map_some,Option.getD_some,Bool.or_eq_true,decide_eq_true_eq] at h1;have h2:=List.all_eq_true.1 (h1.resolve_left (by omega)) k (List.mem_range.2 hk);rw [Array.any_eq_true'] at h2;obtain ⟨e,he,h3⟩ := h2;simp only [Bool.and_eq_true,beq_iff_eq] at h3;exact ⟨e,he,h3⟩
def firstN (ops:Array Oper) (n:Nat):Array Bool:=((List.range ops.size).map fun i=>decide (i<n)).toArray
theorem wp_region_tail {id:Nat} {base:Act} {w0:World} (n:Nat) (hm:P.follows .mixedOrders=true) (C:World→Prop) (R:World→World→Prop) (Ok:Nat→Value→World→Prop)
    (hin:(ops.toList.all fun o=>match o.dst with | some d=>decide (d<base.tmps.size) | none=>true)=true)
    (hdis:distinctB ops=true) (hnl:n≤ops.size) (hordB:orderedN ops n=true) (hsink:sinkN ops n=true) (hseq:Region.seqB .any ops (ops.size - n) n (firstN ops n)=true)
    (hC:∀ w w',C w→R w w'→C w') (hOk:∀ i v w w',Ok i v w→R w w'→Ok i v w')
    (hop:EachOp (OpStep P ops Q base C R Ok) 0 (ops.toList.take n))
    (hdone:∀ a w,C w→Agree ops base a→(∀ (i:Nat) (o:Oper) (d:Nat),i<n→ops[i]?=some o→o.dst=some d→Ok i (a.tmps.getD d undef) w)→(∀ (i:Nat) (o:Oper),i<n→ops[i]?=some o→∃ v,Ok i v w)→wpList P ops Q (ops.toList.drop n) a w)
    (h0:C w0.drew):(Code.region id ops true).wp P Q base w0:=by
 have hinj:=fun i j o o' d=>distinctB_spec (ops:=ops) hdis i j o o' d
 have hin':∀ (i:Nat) (o:Oper) (d:Nat),ops[i]?=some o→o.dst=some d→d<base.tmps.size:=fun i o d hi hd=>by
  have:=List.all_eq_true.1 hin o (by have:=Array.mem_of_getElem? hi; simpa using this);rw [hd] at this
  simpa using this
 have main:∀ (cnt:Nat) (listed:Array Bool) (a:Act) (w:World),listed.size=ops.size→(∀ j,n≤j→listed.getD j false=false)→C w→Agree ops base a→Held ops Ok listed a w→(∀ i o,ops[i]?=some o→listed.getD i false=true→∃ v,Ok i v w) →
     ((List.range n).filter fun i=>!listed.getD i true).length=cnt→wpAny P .any ops Q (cnt+(ops.size - n)) listed a w:=by
  intro cnt
  induction cnt with
  | zero =>
   intro listed a w hsz htl hc ha hh hx hf;have hall:∀ i,i<n→listed.getD i true=true:=fun i hi=>by
    have h1:((List.range n).filter fun i=>!listed.getD i true)=[]:=List.length_eq_zero_iff.1 hf;have h2:=List.filter_eq_nil_iff.1 h1 i (List.mem_range.2 hi)
    simpa using h2
   have hlist:listed=firstN ops n:=by
    refine Array.ext (by simp [firstN,hsz]) fun i h1 h2=>?_
    have hlt:i<ops.size:=by omega
    have hval:(firstN ops n)[i]=decide (i<n):=by simp [firstN]
    rw [hval];by_cases hin:i<n
    · have:=hall i hin;rw [gDx,Array.getElem?_eq_getElem h1] at this
      simpa [hin] using this
    · have:=htl i (by omega);rw [gDx,Array.getElem?_eq_getElem h1] at this
      simpa [hin] using this
   have hallF:∀ i,i<n→listed.getD i false=true:=fun i hi=>by
    have:=hall i hi;rw [gDx] at this ⊢;rw [Array.getElem?_eq_getElem (by omega)] at this ⊢
    simpa using this
   have hd:=hdone a w hc ha (fun i o d hi ho hd=>hh i o d ho hd (hallF i hi)) (fun i o hi ho=>hx i o ho (hallF i hi));have hlen:(ops.toList.drop n).length=ops.size - n:=by simp
   rw [Nat.zero_add,← hlen];exact wpAny_of_seq (ops.toList.drop n) n listed a w (fun j=>by simp) (by rw [hlen,hlist]; exact hseq) hd
  | succ cnt ih =>
   intro listed a w hsz htl hc ha hh hx hf;have hex:∃ i,i<n∧listed.getD i true=false:=by
    have hpos:0<((List.range n).filter fun i=>!listed.getD i true).length:=by omega
    obtain ⟨i,hi⟩ := List.exists_mem_of_length_pos hpos;have:=List.mem_filter.1 hi;exact ⟨i,List.mem_range.1 this.1,by simpa using this.2⟩
   have hne:Region.ready .any ops listed≠[]:=by
    intro hr;obtain ⟨i0,hi0,hu0⟩ := hex;have hall:∀ m i,i<m→i<n→listed.getD i false=true:=by
     intro m
     induction m with
     | zero=>intro i hi _; omega
     | succ m ihm =>
      intro i hi hlt;by_cases hin:i<m
      · exact ihm i hin hlt
      · obtain rfl:i=m:=by omega
        cases hl:listed.getD i false with
        | true=>rfl
        | false =>
         exfalso
         have hl':listed.getD i true=false:=by
          rw [gDx] at hl ⊢;rw [Array.getElem?_eq_getElem (by omega)] at hl ⊢
          simpa using hl
         have hmem:i ∈ Region.ready .any ops listed:=by
          unfold Region.ready;refine List.mem_filter.2 ⟨List.mem_range.2 (by omega),?_⟩;rw [hl',Array.getElem?_eq_getElem (by omega)];simp only [Bool.not_false,Bool.true_and,Option.map_some,Option.getD_some];refine Array.all_eq_true_iff_forall_mem.2 fun e he=>?_
          cases hb:Region.binds .any e with
          | false=>rfl
          | true =>
           have hlt2:=orderedN_spec hordB i _ hlt (Array.getElem?_eq_getElem (by omega)) e he hb;have:=ihm e.on hlt2 (by omega);simp [this]
         rw [hr] at hmem;cases hmem
    have h1:=hall (i0+1) i0 (by omega) hi0;rw [gDx] at h1 hu0;rw [Array.getElem?_eq_getElem (by omega)] at h1 hu0;simp at h1 hu0;rw [h1] at hu0;cases hu0
   rw [show cnt+1+(ops.size - n)=(cnt+(ops.size - n))+1 from by omega];refine ⟨fun hr=>absurd hr hne,fun i hi=>?_⟩;have hi':=hi;unfold Region.ready at hi';obtain ⟨hlt,hcond⟩ := List.mem_filter.1 hi';have hlt:=List.mem_range.1 hlt;simp only [Bool.and_eq_true,Bool.not_eq_true'] at hcond;obtain ⟨hun,hdeps⟩ := hcond;obtain ⟨o,ho⟩ : ∃ o,ops[i]?=some o:=⟨_,Array.getElem?_eq_getElem hlt⟩;rw [ho] at hdeps;simp only [Option.map_some,Option.getD_some] at hdeps;have hin:i<n:=by
    rcases Nat.lt_or_ge i n with h | h
    · exact h
    · exfalso
      obtain ⟨k,hk,hku⟩ := hex;obtain ⟨e,he,hb,hon⟩ := sinkN_spec hsink i o h ho k hk;have h1:=Array.all_eq_true_iff_forall_mem.1 hdeps e he;rw [hb,hon] at h1;rw [gDx] at hku;rw [Array.getElem?_eq_getElem (by omega)] at hku;simp at hku;simp [Array.getElem?_eq_getElem (show k<listed.size by omega),hku] at h1
   have hstep:=hop.at i o (by rw [List.getElem?_take]; simp [hin]; simpa using ho);rw [Nat.zero_add] at hstep;have hd:=hstep a w hc ha fun e he hb oj d hoj hdj=>by
    have h1:=Array.all_eq_true_iff_forall_mem.1 hdeps e he;rw [hb] at h1;simp at h1;refine hh e.on oj d hoj hdj ?_;rw [gDx];exact h1
   have next:∀ v w',R w w'→Ok i v w'→wpAny P .any ops Q (cnt+(ops.size - n)) (listed.setIfInBounds i true) (a.put o.dst v) w':=by
    intro v w' hr hv;refine ih _ _ _ (by simpa using hsz) ?_ (hC _ _ hc hr) ?_ ?_ ?_ ?_
    · intro j hj;have hji:i≠j:=by omega
      rw [gDx,Array.getElem?_setIfInBounds,if_neg hji,← gDx];exact htl j hj
    · obtain ⟨k1,k2,k3⟩ := ha;cases hdst:o.dst with
      | none=>exact ⟨k1,k2,k3⟩
      | some d =>
       have hds:=hin' i o d ho hdst;refine ⟨k1,by simpa [Act.put] using k2,fun t ht=>?_⟩;rw [getD_put (by omega),if_neg ?_]
       · exact k3 t ht
       · intro e;have:=List.all_eq_true.1 ht o (by have:=Array.mem_of_getElem? ho; simpa using this);rw [hdst,e] at this;simp at this
    · intro j oj dj hj hdj hlj;by_cases hji:j=i
      · subst hji;rw [ho] at hj;cases hj;rw [hdj,getD_put (by have:=hin' j o dj ho hdj; have:=ha.2.1; omega),if_pos rfl];exact hv
      · have hlj':listed.getD j false=true:=by
         rw [gDx,Array.getElem?_setIfInBounds,if_neg (Ne.symm hji),← gDx] at hlj;exact hlj
        have hold:=hOk _ _ _ _ (hh j oj dj hj hdj hlj') hr;cases hdst:o.dst with
        | none=>exact hold
        | some d =>
         rw [getD_put (by have:=hin' i o d ho hdst; have:=ha.2.1; omega),if_neg ?_]
         · exact hold
         · intro e;exact hji (hinj j i oj o dj hj ho hdj (by rw [hdst,e]))
    · intro j oj hj hlj;by_cases hji:j=i
      · subst hji;exact ⟨v,hv⟩
      · rw [gDx,Array.getElem?_setIfInBounds,if_neg (Ne.symm hji),← gDx] at hlj;obtain ⟨v',hv'⟩ := hx j oj hj hlj;exact ⟨v',hOk _ _ _ _ hv' hr⟩
    · have hsub:((List.range n).filter fun k=>!(listed.setIfInBounds i true).getD k true)=((List.range n).filter fun k=>!listed.getD k true).erase i:=by
       rw [List.Nodup.erase_eq_filter ((List.nodup_range).sublist List.filter_sublist),List.filter_filter];refine List.filter_congr fun k hk=>?_
       rw [gDx,Array.getElem?_setIfInBounds];by_cases hki:i=k
       · subst hki; rw [if_pos rfl,if_pos (by omega)]; simp
       · rw [if_neg hki,← gDx];simp [Ne.symm hki]
      rw [hsub,List.length_erase_of_mem,hf]
      · rfl
      · refine List.mem_filter.2 ⟨List.mem_range.2 hin,?_⟩;rw [gDx]; simpa using hun
   unfold wpOp;rw [ho];simp only;rcases hd with ⟨hw,hk⟩ | ⟨hw,hr,hv⟩
   · rw [if_pos hw];exact .inl (hk _ next)
   · rw [if_neg (by rw [hw]; decide)];exact next _ _ hr hv
 have hstart:((List.range n).filter fun i=>!(Array.replicate ops.size false).getD i true)=List.range n:=by
  refine List.filter_eq_self.2 fun i hi=>?_
  have:=List.mem_range.1 hi;rw [gDx];simp [show i<ops.size by omega]
 have hfin:=main n (Array.replicate ops.size false) base w0.drew (by simp) (fun j hj=>by
  rw [gDx];by_cases h:j<ops.size
  · simp [h]
  · simp [h]) h0 ⟨rfl,rfl,fun _ _=>rfl⟩ (fun i o d hi _ hl=>by
  have hlt:=(gSx.1 hi).1;rw [gDx] at hl;simp [hlt] at hl) (fun i o hi hl=>by
  have hlt:=(gSx.1 hi).1;rw [gDx] at hl;simp [hlt] at hl) (by rw [hstart]; simp)
 rw [show n+(ops.size - n)=ops.size from by omega] at hfin;exact wp_region_any hm hfin
end
end Go.Proofs.YtagolklnjhpbdaaDoor.R

namespace Go.Proofs.YtagolklnjhpbdaaDoor.R
open Go
theorem fold_get (f:Nat→Value):∀ (D:List Nat) (t:Array Value) (i:Nat),(D.foldl (fun t d=>t.setIfInBounds d (f d)) t).size=t.size∧(D.foldl (fun t d=>t.setIfInBounds d (f d)) t)[i]?=if i ∈ D then (if i<t.size then some (f i) else none) else t[i]?
  | [],t,i=>by simp
  | d::D,t,i=>by
   obtain ⟨h1,h2⟩ := fold_get f D (t.setIfInBounds d (f d)) i;rw [List.foldl_cons];refine ⟨by rw [h1]; simp,?_⟩;rw [h2];by_cases hD:i ∈ D
   · rw [if_pos hD,if_pos (List.mem_cons_of_mem _ hD)];simp
   · rw [if_neg hD,Array.getElem?_setIfInBounds];by_cases hd:d=i
     · subst hd;simp
     · rw [if_neg hd,if_neg (by simp [hD,Ne.symm hd])]
theorem agree_frame {ops:Array Oper} {base a:Act} (D:List Nat) (hD:ops.toList.filterMap (·.dst)=D) (h:Agree ops base a) :
    ∃ u:Nat→Value,(∀ i,u i=a.tmps.getD i undef)∧a={ tmps:=D.foldl (fun t d=>t.setIfInBounds d (u d)) base.tmps,defers:=base.defers }:=by
 refine ⟨fun i=>a.tmps.getD i undef,fun _=>rfl,?_⟩;obtain ⟨tmps,ds⟩ := a;obtain ⟨h1,h2,h3⟩ := h;simp only at h1 h2 h3;subst h1
 congr 1
 apply Array.ext
 · rw [(fold_get _ D base.tmps 0).1,h2]
 · intro i hi1 hi2;have h4:=(fold_get (fun i=>tmps.getD i undef) D base.tmps i).2;have h5:tmps[i]?=(D.foldl (fun t d=>t.setIfInBounds d (tmps.getD d undef)) base.tmps)[i]?:=by
    rw [h4];by_cases hD':i ∈ D
    · rw [if_pos hD',if_pos (by omega),gDx,Array.getElem?_eq_getElem hi1]
      rfl
    · rw [if_neg hD'];have h6:=h3 i (by
       refine List.all_eq_true.2 fun o ho=>?_
       rw [bne_iff_ne];intro e;exact hD' (by rw [← hD]; exact List.mem_filterMap.2 ⟨o,ho,e⟩))
      rw [gDx,gDx,Array.getElem?_eq_getElem hi1,Array.getElem?_eq_getElem (by omega)] at h6;rw [Array.getElem?_eq_getElem hi1,Array.getElem?_eq_getElem (by omega)]
      simpa using h6
   rw [Array.getElem?_eq_getElem hi1,Array.getElem?_eq_getElem hi2] at h5
   simpa using h5
section
variable {P:Program} {ops:Array Oper} {Q:Exit→Act→World→Prop}
def reachB (ops:Array Oper):Nat→Nat→Nat→Bool
  | 0,_,_=>false
  | f+1,j,k=>((ops[j]?).map fun o=>o.after.any fun e=>Region.binds .any e && (e.on == k || reachB ops f e.on k)).getD false
def ClosedL (ops:Array Oper) (listed:Array Bool):Prop:=∀ i o,ops[i]?=some o→listed.getD i false=true→∀ e ∈ o.after,Region.binds .any e=true→listed.getD e.on false=true
theorem reach_listed {listed:Array Bool} (hc:ClosedL ops listed):∀ (f j k:Nat),reachB ops f j k=true→(∀ o,ops[j]?=some o→∀ e ∈ o.after,Region.binds .any e=true→listed.getD e.on false=true)→listed.getD k false=true
  | 0,_,_,h,_=>by cases h
  | f+1,j,k,h,hd=>by
   unfold reachB at h;cases ho:ops[j]? with
   | none=>rw [ho] at h; cases h
   | some o =>
    rw [ho] at h;simp only [Option.map_some,Option.getD_some] at h;rw [Array.any_eq_true'] at h;obtain ⟨e,he,h2⟩ := h;simp only [Bool.and_eq_true,Bool.or_eq_true,beq_iff_eq] at h2;have hl:=hd o ho e he h2.1;rcases h2.2 with h3 | h3
    · rw [← h3]; exact hl
    · exact reach_listed hc f e.on k h3 (fun o' ho'=>hc e.on o' ho' hl)
def sinkT (ops:Array Oper) (n:Nat):Bool:=(List.range ops.size).all fun j=>decide (j<n) || (List.range n).all fun k=>reachB ops ops.size j k
theorem sinkT_spec {n:Nat} (h:sinkT ops n=true) (j:Nat) (hn:n≤j) (hj:j<ops.size) (k:Nat) (hk:k<n):reachB ops ops.size j k=true:=by
 have h1:=List.all_eq_true.1 h j (List.mem_range.2 hj);simp only [Bool.or_eq_true,decide_eq_true_eq] at h1;exact List.all_eq_true.1 (h1.resolve_left (by omega)) k (List.mem_range.2 hk)
theorem wp_region_tailT {id:Nat} {base:Act} {w0:World} (n:Nat) (hm:P.follows .mixedOrders=true) (C:World→Prop) (R:World→World→Prop) (Ok:Nat→Value→World→Prop)
    (hin:(ops.toList.all fun o=>match o.dst with | some d=>decide (d<base.tmps.size) | none=>true)=true)
    (hdis:distinctB ops=true) (hnl:n≤ops.size) (hordB:orderedN ops n=true) (hsink:sinkT ops n=true) (hseq:Region.seqB .any ops (ops.size - n) n (firstN ops n)=true)
    (hC:∀ w w',C w→R w w'→C w') (hOk:∀ i v w w',Ok i v w→R w w'→Ok i v w')
    (hop:EachOp (OpStep P ops Q base C R Ok) 0 (ops.toList.take n))
    (hdone:∀ a w,C w→Agree ops base a→(∀ (i:Nat) (o:Oper) (d:Nat),i<n→ops[i]?=some o→o.dst=some d→Ok i (a.tmps.getD d undef) w)→(∀ (i:Nat) (o:Oper),i<n→ops[i]?=some o→∃ v,Ok i v w)→wpList P ops Q (ops.toList.drop n) a w)
    (h0:C w0.drew):(Code.region id ops true).wp P Q base w0:=by
 have hinj:=fun i j o o' d=>distinctB_spec (ops:=ops) hdis i j o o' d
 have hin':∀ (i:Nat) (o:Oper) (d:Nat),ops[i]?=some o→o.dst=some d→d<base.tmps.size:=fun i o d hi hd=>by
  have:=List.all_eq_true.1 hin o (by have:=Array.mem_of_getElem? hi; simpa using this);rw [hd] at this
  simpa using this
 have main:∀ (cnt:Nat) (listed:Array Bool) (a:Act) (w:World),listed.size=ops.size→(∀ j,n≤j→listed.getD j false=false)→ClosedL ops listed→C w→Agree ops base a→Held ops Ok listed a w→(∀ i o,ops[i]?=some o→listed.getD i false=true→∃ v,Ok i v w) →
     ((List.range n).filter fun i=>!listed.getD i true).length=cnt→wpAny P .any ops Q (cnt+(ops.size - n)) listed a w:=by
  intro cnt
  induction cnt with
  | zero =>
   intro listed a w hsz htl hcl hc ha hh hx hf;have hall:∀ i,i<n→listed.getD i true=true:=fun i hi=>by
    have h1:((List.range n).filter fun i=>!listed.getD i true)=[]:=List.length_eq_zero_iff.1 hf;have h2:=List.filter_eq_nil_iff.1 h1 i (List.mem_range.2 hi)
    simpa using h2
   have hlist:listed=firstN ops n:=by
    refine Array.ext (by simp [firstN,hsz]) fun i h1 h2=>?_
    have hlt:i<ops.size:=by omega
    have hval:(firstN ops n)[i]=decide (i<n):=by simp [firstN]
    rw [hval];by_cases hin:i<n
    · have:=hall i hin;rw [gDx,Array.getElem?_eq_getElem h1] at this
      simpa [hin] using this
    · have:=htl i (by omega);rw [gDx,Array.getElem?_eq_getElem h1] at this
      simpa [hin] using this
   have hallF:∀ i,i<n→listed.getD i false=true:=fun i hi=>by
    have:=hall i hi;rw [gDx] at this ⊢;rw [Array.getElem?_eq_getElem (by omega)] at this ⊢
    simpa using this
   have hd:=hdone a w hc ha (fun i o d hi ho hd=>hh i o d ho hd (hallF i hi)) (fun i o hi ho=>hx i o ho (hallF i hi));have hlen:(ops.toList.drop n).length=ops.size - n:=by simp
   rw [Nat.zero_add,← hlen];exact wpAny_of_seq (ops.toList.drop n) n listed a w (fun j=>by simp) (by rw [hlen,hlist]; exact hseq) hd
  | succ cnt ih =>
   intro listed a w hsz htl hcl hc ha hh hx hf;have hex:∃ i,i<n∧listed.getD i true=false:=by
    have hpos:0<((List.range n).filter fun i=>!listed.getD i true).length:=by omega
    obtain ⟨i,hi⟩ := List.exists_mem_of_length_pos hpos;have:=List.mem_filter.1 hi;exact ⟨i,List.mem_range.1 this.1,by simpa using this.2⟩
   have hne:Region.ready .any ops listed≠[]:=by
    intro hr;obtain ⟨i0,hi0,hu0⟩ := hex;have hall:∀ m i,i<m→i<n→listed.getD i false=true:=by
     intro m
     induction m with
     | zero=>intro i hi _; omega
     | succ m ihm =>
      intro i hi hlt;by_cases hin:i<m
      · exact ihm i hin hlt
      · obtain rfl:i=m:=by omega
        cases hl:listed.getD i false with
        | true=>rfl
        | false =>
         exfalso
         have hl':listed.getD i true=false:=by
          rw [gDx] at hl ⊢;rw [Array.getElem?_eq_getElem (by omega)] at hl ⊢
          simpa using hl
         have hmem:i ∈ Region.ready .any ops listed:=by
          unfold Region.ready;refine List.mem_filter.2 ⟨List.mem_range.2 (by omega),?_⟩;rw [hl',Array.getElem?_eq_getElem (by omega)];simp only [Bool.not_false,Bool.true_and,Option.map_some,Option.getD_some];refine Array.all_eq_true_iff_forall_mem.2 fun e he=>?_
          cases hb:Region.binds .any e with
          | false=>rfl
          | true =>
           have hlt2:=orderedN_spec hordB i _ hlt (Array.getElem?_eq_getElem (by omega)) e he hb;have:=ihm e.on hlt2 (by omega);simp [this]
         rw [hr] at hmem;cases hmem
    have h1:=hall (i0+1) i0 (by omega) hi0;rw [gDx] at h1 hu0;rw [Array.getElem?_eq_getElem (by omega)] at h1 hu0;simp at h1 hu0;rw [h1] at hu0;cases hu0
   rw [show cnt+1+(ops.size - n)=(cnt+(ops.size - n))+1 from by omega];refine ⟨fun hr=>absurd hr hne,fun i hi=>?_⟩;have hi':=hi;unfold Region.ready at hi';obtain ⟨hlt,hcond⟩ := List.mem_filter.1 hi';have hlt:=List.mem_range.1 hlt;simp only [Bool.and_eq_true,Bool.not_eq_true'] at hcond;obtain ⟨hun,hdeps⟩ := hcond;obtain ⟨o,ho⟩ : ∃ o,ops[i]?=some o:=⟨_,Array.getElem?_eq_getElem hlt⟩;rw [ho] at hdeps;simp only [Option.map_some,Option.getD_some] at hdeps;have hin:i<n:=by
    rcases Nat.lt_or_ge i n with h | h
    · exact h
    · exfalso
      obtain ⟨k,hk,hku⟩ := hex;have h1:=sinkT_spec hsink i h hlt k hk;have hlk:=reach_listed hcl ops.size i k h1 (fun o' ho' e he hb=>by
       rw [ho] at ho';cases ho';have h2:=Array.all_eq_true_iff_forall_mem.1 hdeps e he;rw [hb] at h2;rw [gDx]
       simpa using h2)
      rw [gDx] at hlk hku;rw [Array.getElem?_eq_getElem (by omega)] at hlk hku;simp at hlk hku;rw [hlk] at hku;cases hku
   have hstep:=hop.at i o (by rw [List.getElem?_take]; simp [hin]; simpa using ho);rw [Nat.zero_add] at hstep;have hd:=hstep a w hc ha fun e he hb oj d hoj hdj=>by
    have h1:=Array.all_eq_true_iff_forall_mem.1 hdeps e he;rw [hb] at h1;simp at h1;refine hh e.on oj d hoj hdj ?_;rw [gDx];exact h1
   have next:∀ v w',R w w'→Ok i v w'→wpAny P .any ops Q (cnt+(ops.size - n)) (listed.setIfInBounds i true) (a.put o.dst v) w':=by
    intro v w' hr hv;refine ih _ _ _ (by simpa using hsz) ?_ ?_ (hC _ _ hc hr) ?_ ?_ ?_ ?_
    · intro j hj;have hji:i≠j:=by omega
      rw [gDx,Array.getElem?_setIfInBounds,if_neg hji,← gDx];exact htl j hj
    · intro j oj hj hlj e he hb;have hget:listed.getD e.on false=true→(listed.setIfInBounds i true).getD e.on false=true:=fun h=>by
       rw [gDx,Array.getElem?_setIfInBounds]
       split
       · split
         · rfl
         · rename_i h1 h2;rw [gDx,← h1,Array.getElem?_eq_none (by omega)] at h;simp at h
       · rw [← gDx]; exact h
      by_cases hji:j=i
      · subst hji;rw [ho] at hj;cases hj;refine hget ?_;have h2:=Array.all_eq_true_iff_forall_mem.1 hdeps e he;rw [hb] at h2;rw [gDx]
        simpa using h2
      · rw [gDx,Array.getElem?_setIfInBounds,if_neg (Ne.symm hji),← gDx] at hlj;exact hget (hcl j oj hj hlj e he hb)
    · obtain ⟨k1,k2,k3⟩ := ha;cases hdst:o.dst with
      | none=>exact ⟨k1,k2,k3⟩
      | some d =>
       have hds:=hin' i o d ho hdst;refine ⟨k1,by simpa [Act.put] using k2,fun t ht=>?_⟩;rw [getD_put (by omega),if_neg ?_]
       · exact k3 t ht
       · intro e;have:=List.all_eq_true.1 ht o (by have:=Array.mem_of_getElem? ho; simpa using this);rw [hdst,e] at this;simp at this
    · intro j oj dj hj hdj hlj;by_cases hji:j=i
      · subst hji;rw [ho] at hj;cases hj;rw [hdj,getD_put (by have:=hin' j o dj ho hdj; have:=ha.2.1; omega),if_pos rfl];exact hv
      · have hlj':listed.getD j false=true:=by
         rw [gDx,Array.getElem?_setIfInBounds,if_neg (Ne.symm hji),← gDx] at hlj;exact hlj
        have hold:=hOk _ _ _ _ (hh j oj dj hj hdj hlj') hr;cases hdst:o.dst with
        | none=>exact hold
        | some d =>
         rw [getD_put (by have:=hin' i o d ho hdst; have:=ha.2.1; omega),if_neg ?_]
         · exact hold
         · intro e;exact hji (hinj j i oj o dj hj ho hdj (by rw [hdst,e]))
    · intro j oj hj hlj;by_cases hji:j=i
      · subst hji;exact ⟨v,hv⟩
      · rw [gDx,Array.getElem?_setIfInBounds,if_neg (Ne.symm hji),← gDx] at hlj;obtain ⟨v',hv'⟩ := hx j oj hj hlj;exact ⟨v',hOk _ _ _ _ hv' hr⟩
    · have hsub:((List.range n).filter fun k=>!(listed.setIfInBounds i true).getD k true)=((List.range n).filter fun k=>!listed.getD k true).erase i:=by
       rw [List.Nodup.erase_eq_filter ((List.nodup_range).sublist List.filter_sublist),List.filter_filter];refine List.filter_congr fun k hk=>?_
       rw [gDx,Array.getElem?_setIfInBounds];by_cases hki:i=k
       · subst hki; rw [if_pos rfl,if_pos (by omega)]; simp
       · rw [if_neg hki,← gDx];simp [Ne.symm hki]
      rw [hsub,List.length_erase_of_mem,hf]
      · rfl
      · refine List.mem_filter.2 ⟨List.mem_range.2 hin,?_⟩;rw [gDx]; simpa using hun
   unfold wpOp;rw [ho];simp only;rcases hd with ⟨hw,hk⟩ | ⟨hw,hr,hv⟩
   · rw [if_pos hw];exact .inl (hk _ next)
   · rw [if_neg (by rw [hw]; decide)];exact next _ _ hr hv
 have hstart:((List.range n).filter fun i=>!(Array.replicate ops.size false).getD i true)=List.range n:=by
  refine List.filter_eq_self.2 fun i hi=>?_
  have:=List.mem_range.1 hi;rw [gDx];simp [show i<ops.size by omega]
 have hfin:=main n (Array.replicate ops.size false) base w0.drew (by simp) (fun j hj=>by
  rw [gDx];by_cases h:j<ops.size
  · simp [h]
  · simp [h]) (fun i o hi hl=>by
  have hlt:=(gSx.1 hi).1;rw [gDx] at hl;simp [hlt] at hl) h0 ⟨rfl,rfl,fun _ _=>rfl⟩ (fun i o d hi _ hl=>by
  have hlt:=(gSx.1 hi).1;rw [gDx] at hl;simp [hlt] at hl) (fun i o hi hl=>by
  have hlt:=(gSx.1 hi).1;rw [gDx] at hl;simp [hlt] at hl) (by rw [hstart]; simp)
 rw [show n+(ops.size - n)=ops.size from by omega] at hfin;exact wp_region_any hm hfin
end
end Go.Proofs.YtagolklnjhpbdaaDoor.R
