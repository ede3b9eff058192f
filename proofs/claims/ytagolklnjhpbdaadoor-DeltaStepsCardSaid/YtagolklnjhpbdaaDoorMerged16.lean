import Derived.Test.YtagolklnjhpbdaaDoorMerged0
import Derived.Test.YtagolklnjhpbdaaDoorMerged9
namespace Go.Proofs.YtagolklnjhpbdaaDoor.R
open Go
section
variable {P:Program} {ops:Array Oper} {Q:Exit→Act→World→Prop}
def OpStepA (P:Program) (ops:Array Oper) (Q:Exit→Act→World→Prop) (base:Act) (C:(Nat→Bool)→Act→World→Prop) (R:World→World→Prop) (Ok:Nat→Value→World→Prop) (i:Nat) (o:Oper):Prop :=
 ∀ (L:Nat→Bool) (a:Act) (w:World),L i=false→(∀ e ∈ o.after,Region.binds .any e=true→L e.on=true)→C L a w→Agree ops base a→(∀ e ∈ o.after,Region.binds .any e=true→∀ oj d,ops[e.on]?=some oj→oj.dst=some d→Ok e.on (a.tmps.getD d undef) w) →
   (Region.wanted o (yielded ops a.tmps)=true∧∀ K:Act→World→Prop,(∀ v w',R w w'→Ok i v w'→C (upd L i) (a.put o.dst v) w'→K (a.put o.dst v) w')→o.wp P a w K Q) ∨
   (Region.wanted o (yielded ops a.tmps)=false∧R w w∧Ok i undef w∧C (upd L i) (a.put o.dst undef) w)
theorem wp_region_relA {id:Nat} {base:Act} {w0:World} (hm:P.follows .mixedOrders=true) (C:(Nat→Bool)→Act→World→Prop) (R:World→World→Prop) (Ok:Nat→Value→World→Prop)
    (hin:(ops.toList.all fun o=>match o.dst with | some d=>decide (d<base.tmps.size) | none=>true)=true)
    (hdis:distinctB ops=true) (hordB:orderedN ops ops.size=true)
    (hOk:∀ i v w w',Ok i v w→R w w'→Ok i v w')
    (hop:EachOp (OpStepA P ops Q base C R Ok) 0 ops.toList)
    (hdone:∀ a w,C (fun k=>decide (k<ops.size)) a w→Agree ops base a→(∀ (i:Nat) (o:Oper) (d:Nat),ops[i]?=some o→o.dst=some d→Ok i (a.tmps.getD d undef) w)→Q .normal a w)
    (h0:C (fun _=>false) base w0.drew):(Code.region id ops true).wp P Q base w0:=by
 have hinj:=fun i j o o' d=>distinctB_spec (ops:=ops) hdis i j o o' d
 have hord:∀ (i:Nat) (o:Oper),ops[i]?=some o→∀ e ∈ o.after,Region.binds .any e=true→e.on<i:=fun i o hi e he hb=>orderedN_spec hordB i o (gSx.1 hi).1 hi e he hb
 have hin':∀ (i:Nat) (o:Oper) (d:Nat),ops[i]?=some o→o.dst=some d→d<base.tmps.size:=fun i o d hi hd=>by
  have:=List.all_eq_true.1 hin o (by have:=Array.mem_of_getElem? hi; simpa using this);rw [hd] at this
  simpa using this
 have main:∀ (fuel:Nat) (listed:Array Bool) (a:Act) (w:World),listed.size=ops.size→C (fun k=>listed.getD k false) a w→Agree ops base a→Held ops Ok listed a w →
     ((List.range ops.size).filter fun i=>!listed.getD i true).length≤fuel→wpAny P .any ops Q fuel listed a w:=by
  intro fuel
  induction fuel with
  | zero =>
   intro listed a w hsz hc ha hh hf;have hall:∀ i,i<ops.size→listed.getD i true=true:=fun i hi=>by
    have h1:((List.range ops.size).filter fun i=>!listed.getD i true)=[]:=List.length_eq_zero_iff.1 (by omega);have h2:=List.filter_eq_nil_iff.1 h1 i (List.mem_range.2 hi)
    simpa using h2
   refine ⟨?_,hdone a w (by rw [allL hsz (fun i hi=>by have:=hall i hi; rw [gDx] at this ⊢; rw [Array.getElem?_eq_getElem (by omega)] at this ⊢; simpa using this)] at hc; exact hc) ha fun i o d hi hd=>hh i o d hi hd ?_⟩
   · unfold Region.ready;refine List.filter_eq_nil_iff.2 fun i hi=>?_
     rw [hall i (List.mem_range.1 hi)];simp
   · have hlt:=(gSx.1 hi).1;have:=hall i hlt;rw [gDx] at this ⊢;rw [Array.getElem?_eq_getElem (by omega)] at this ⊢
     simpa using this
  | succ fuel ih =>
   intro listed a w hsz hc ha hh hf;refine ⟨fun hr=>?_,fun i hi=>?_⟩
   ·
     have hall:∀ n i,i<n→i<ops.size→listed.getD i false=true:=by
      intro n
      induction n with
      | zero=>intro i hi _; omega
      | succ n ihn =>
       intro i hi hlt;by_cases hin:i<n
       · exact ihn i hin hlt
       · obtain rfl:i=n:=by omega
         cases hl:listed.getD i false with
         | true=>rfl
         | false =>
          exfalso
          have hl':listed.getD i true=false:=by
           rw [gDx] at hl ⊢;rw [Array.getElem?_eq_getElem (by omega)] at hl ⊢
           simpa using hl
          have hmem:i ∈ Region.ready .any ops listed:=by
           unfold Region.ready;refine List.mem_filter.2 ⟨List.mem_range.2 hlt,?_⟩;rw [hl',Array.getElem?_eq_getElem hlt];simp only [Bool.not_false,Bool.true_and,Option.map_some,Option.getD_some];refine Array.all_eq_true_iff_forall_mem.2 fun e he=>?_
           by_cases hb:Region.binds .any e=true
           · have:=ihn e.on (hord i _ (Array.getElem?_eq_getElem hlt) e he hb) (by have:=hord i _ (Array.getElem?_eq_getElem hlt) e he hb; omega);simp [this]
           · simp [hb]
          rw [hr] at hmem;cases hmem
     exact hdone a w (by rw [allL hsz (fun i hi=>hall _ i (Nat.lt_succ_self i) hi)] at hc; exact hc) ha fun i o d hi hd=>hh i o d hi hd (hall _ i (Nat.lt_succ_self i) (gSx.1 hi).1)
   · have hi':=hi;unfold Region.ready at hi';obtain ⟨hlt,hcond⟩ := List.mem_filter.1 hi';have hlt:=List.mem_range.1 hlt;simp only [Bool.and_eq_true,Bool.not_eq_true'] at hcond;obtain ⟨hun,hdeps⟩ := hcond;obtain ⟨o,ho⟩ : ∃ o,ops[i]?=some o:=⟨_,Array.getElem?_eq_getElem hlt⟩;rw [ho] at hdeps;simp only [Option.map_some,Option.getD_some] at hdeps;have hunL:listed.getD i false=false:=by
      rw [gDx] at hun ⊢;rw [Array.getElem?_eq_getElem (by omega)] at hun ⊢
      simpa using hun
     have hstep:=hop.at i o (by simpa using ho);rw [Nat.zero_add] at hstep;have hd:=hstep (fun k=>listed.getD k false) a w hunL (fun e he hb=>by
      have h1:=Array.all_eq_true_iff_forall_mem.1 hdeps e he;rw [hb] at h1;simp at h1;rw [gDx];exact h1) hc ha fun e he hb oj d hoj hdj=>by
      have h1:=Array.all_eq_true_iff_forall_mem.1 hdeps e he;rw [hb] at h1;simp at h1;refine hh e.on oj d hoj hdj ?_;rw [gDx];exact h1
     have next:∀ v w',R w w'→Ok i v w'→C (upd (fun k=>listed.getD k false) i) (a.put o.dst v) w'→wpAny P .any ops Q fuel (listed.setIfInBounds i true) (a.put o.dst v) w':=by
      intro v w' hr hv hcc;refine ih _ _ _ (by simpa using hsz) (by rw [updL listed i (by omega)]; exact hcc) ?_ ?_ ?_
      · obtain ⟨k1,k2,k3⟩ := ha;cases hdst:o.dst with
        | none=>exact ⟨k1,k2,k3⟩
        | some d =>
         have hds:=hin' i o d ho hdst;refine ⟨k1,by simpa [Act.put] using k2,fun t ht=>?_⟩;rw [getD_put (by omega),if_neg ?_]
         · exact k3 t ht
         · intro e;have:=List.all_eq_true.1 ht o (by have:=Array.mem_of_getElem? ho; simpa using this);rw [hdst,e] at this;simp at this
      · intro j oj dj hj hdj hlj;by_cases hji:j=i
        · subst hji;rw [ho] at hj;cases hj;rw [hdj,getD_put (by have:=hin' j o dj ho hdj; have:=ha.2.1; omega),if_pos rfl];exact hv
        · have hlj':listed.getD j false=true:=by
           rw [gDx,Array.getElem?_setIfInBounds,if_neg (Ne.symm hji),← gDx] at hlj;exact hlj
          have hold:=hOk _ _ _ _ (hh j oj dj hj hdj hlj') hr;cases hdst:o.dst with
          | none=>exact hold
          | some d =>
           rw [getD_put (by have:=hin' i o d ho hdst; have:=ha.2.1; omega),if_neg ?_]
           · exact hold
           · intro e;exact hji (hinj j i oj o dj hj ho hdj (by rw [hdst,e]))
      · have hcount:((List.range ops.size).filter fun k=>!(listed.setIfInBounds i true).getD k true).length<((List.range ops.size).filter fun k=>!listed.getD k true).length:=by
         have hsub:((List.range ops.size).filter fun k=>!(listed.setIfInBounds i true).getD k true)=((List.range ops.size).filter fun k=>!listed.getD k true).filter fun k=>k != i:=by
          rw [List.filter_filter];refine List.filter_congr fun k hk=>?_
          rw [gDx,Array.getElem?_setIfInBounds];by_cases hki:i=k
          · subst hki; rw [if_pos rfl,if_pos (by omega)]; simp
          · rw [if_neg hki,← gDx];simp [Ne.symm hki]
         rw [hsub];refine List.length_filter_lt_length_iff_exists.2 ⟨i,List.mem_filter.2 ⟨List.mem_range.2 hlt,?_⟩,?_⟩
         · rw [gDx]; simpa using hun
         · simp
        omega
     unfold wpOp;rw [ho];simp only;rcases hd with ⟨hw,hk⟩ | ⟨hw,hr,hv,hcc⟩
     · rw [if_pos hw];exact .inl (hk _ next)
     · rw [if_neg (by rw [hw]; decide)];exact next _ _ hr hv hcc
 refine wp_region_any hm (main ops.size (Array.replicate ops.size false) base w0.drew (by simp) (by rw [noneL]; exact h0) ⟨rfl,rfl,fun _ _=>rfl⟩ (fun i o d hi _ hl=>?_) ?_)
 · have hlt:=(gSx.1 hi).1;rw [gDx] at hl;simp [hlt] at hl
 · exact Nat.le_trans (List.length_filter_le _ _) (by simp)
end
end Go.Proofs.YtagolklnjhpbdaaDoor.R

namespace Go.Proofs.YtagolklnjhpbdaaDoor.R
open Go
section
variable {P:Program} {ops:Array Oper} {Q:Exit→Act→World→Prop}
def slot (a:Act):Nat→Value:=fun s=>a.tmps.getD s undef
def slotsP (ops:Array Oper) (cs:List Nat) (k:Nat):List Nat :=
 (cs.take k).flatMap fun c=>match ops[c]? with
   | none=>[]
   | some o=>(match o.dst with | some d=>[d] | none=>[])++(o.after.toList.filter (fun e=>Region.binds .any e)).flatMap fun e=>match ops[e.on]? with
     | none=>[]
     | some o'=>match o'.dst with | some d=>[d] | none=>[]
theorem mem_slots {ops:Array Oper} {cs:List Nat} {k s:Nat} (h:(slotsP ops cs k).contains s=true):s ∈ slotsP ops cs k:=by simpa using h
theorem slotsP_all {ops:Array Oper} {cs:List Nat} {k:Nat} (h:cs.length≤k):slotsP ops cs k=slotsP ops cs cs.length:=by
 unfold slotsP;rw [List.take_of_length_le h,List.take_of_length_le (Nat.le_refl _)]
def chainB (ops:Array Oper) (cs:List Nat):Bool :=
 (List.range cs.length).all fun j=>match cs[j]? with
   | none=>true
   | some c=>(match ops[c]? with
     | none=>false
     | some o=>match j with
       | 0=>true
       | j'+1=>match cs[j']? with
         | none=>false
         | some c'=>o.after.toList.any fun e=>Region.binds .any e && e.on == c') && (List.range j).all fun i=>cs[i]? != some c
theorem slot_put {a:Act} {d s:Nat} {v:Value} (h:s≠d):slot (a.put (some d) v) s=slot a s:=by
 unfold slot Act.put;simp only [gDx];rw [Array.getElem?_setIfInBounds,if_neg (fun e=>h e.symm)]
theorem slot_same {a:Act} {d:Nat} {v:Value} (h:d<a.tmps.size):slot (a.put (some d) v) d=v:=by
 unfold slot;rw [getD_put h,if_pos rfl]
theorem chainB_spec {cs:List Nat} (h:chainB ops cs=true) {j c:Nat} (hj:cs[j]?=some c):(∃ o,ops[c]?=some o∧∀ j',j=j'+1→∃ c',cs[j']?=some c'∧∃ e ∈ o.after,Region.binds .any e=true∧e.on=c')∧∀ i,i<j→cs[i]?≠some c:=by
 unfold chainB at h;have hlt:=(List.getElem?_eq_some_iff.1 hj).1;have h1:=List.all_eq_true.1 h j (List.mem_range.2 hlt);rw [hj] at h1;simp only [Bool.and_eq_true] at h1;obtain ⟨h1,h2⟩ := h1;refine ⟨?_,fun i hi e=>?_⟩
 · cases ho:ops[c]? with
   | none=>rw [ho] at h1; cases h1
   | some o =>
    rw [ho] at h1;refine ⟨o,rfl,fun j' e=>?_⟩;subst e;simp only at h1;cases hc:cs[j']? with
    | none=>rw [hc] at h1; cases h1
    | some c' =>
     rw [hc] at h1;simp only at h1;obtain ⟨e,he,hb⟩ := List.any_eq_true.1 h1;simp only [Bool.and_eq_true,beq_iff_eq] at hb;exact ⟨c',rfl,e,by simpa using he,hb.1,hb.2⟩
 · have:=List.all_eq_true.1 h2 i (List.mem_range.2 hi);rw [e] at this;simp at this
end
end Go.Proofs.YtagolklnjhpbdaaDoor.R

namespace Go.Proofs.YtagolklnjhpbdaaDoor.R
open Go
section
variable {P:Program} {ops:Array Oper} {Q:Exit→Act→World→Prop}
def reachD (ops:Array Oper):Nat→Nat→Nat→Bool
  | 0,_,_=>false
  | f+1,c,i=>match ops[c]? with
    | none=>false
    | some o=>o.after.any fun e=>Region.binds .any e && (e.on == i || reachD ops f e.on i)
theorem reachD_spec {L:Nat→Bool} (hcl:∀ c o,L c=true→ops[c]?=some o→∀ e ∈ o.after,Region.binds .any e=true→L e.on=true):∀ (f c i:Nat),reachD ops f c i=true→L c=true→L i=true
  | 0,_,_,h,_=>by cases h
  | f+1,c,i,h,hc=>by
   unfold reachD at h;cases ho:ops[c]? with
   | none=>rw [ho] at h; cases h
   | some o =>
    rw [ho] at h;simp only at h;obtain ⟨k,hk,hb⟩ := Array.any_eq_true.1 h;simp only [Bool.and_eq_true,Bool.or_eq_true,beq_iff_eq] at hb;have hL:=hcl c o hc ho o.after[k] (Array.getElem_mem hk) hb.1;rcases hb.2 with e | e
    · rw [← e]; exact hL
    · exact reachD_spec hcl f _ i e hL
def dueB (ops:Array Oper) (cs due:List Nat):Bool:=(List.range ops.size).all fun i=>cs.contains i || match cs[due.getD i cs.length]? with
  | none=>true
  | some c=>reachD ops ops.size c i
def OpStepD (P:Program) (ops:Array Oper) (Q:Exit→Act→World→Prop) (base:Act) (cs due:List Nat) (St:Nat→(Nat→Value)→World→Prop) (R:World→World→Prop) (Ok:Nat→Value→World→Prop) (i:Nat) (o:Oper):Prop :=
 match cs.findIdx? (fun c=>c == i) with
 | none=>∀ (k:Nat) (a:Act) (w:World),k≤due.getD i cs.length→St k (slot a) w→Agree ops base a→(∀ e ∈ o.after,Region.binds .any e=true→∀ oj d,ops[e.on]?=some oj→oj.dst=some d→Ok e.on (a.tmps.getD d undef) w) →
   (Region.wanted o (yielded ops a.tmps)=true∧∀ K:Act→World→Prop,(∀ v w',R w w'→Ok i v w'→St k (slot a) w'→K (a.put o.dst v) w')→o.wp P a w K Q) ∨
   (Region.wanted o (yielded ops a.tmps)=false∧R w w∧Ok i undef w)
 | some j=>∀ (a:Act) (w:World),St j (slot a) w→Agree ops base a→(∀ e ∈ o.after,Region.binds .any e=true→∀ oj d,ops[e.on]?=some oj→oj.dst=some d→Ok e.on (a.tmps.getD d undef) w) →
   Region.wanted o (yielded ops a.tmps)=true∧∀ K:Act→World→Prop,(∀ v w',R w w'→Ok i v w'→St (j+1) (slot (a.put o.dst v)) w'→K (a.put o.dst v) w')→o.wp P a w K Q
theorem wp_region_due {id:Nat} {base:Act} {w0:World} (cs due:List Nat) (hm:P.follows .mixedOrders=true) (St:Nat→(Nat→Value)→World→Prop) (R:World→World→Prop) (Ok:Nat→Value→World→Prop)
    (hin:(ops.toList.all fun o=>match o.dst with | some d=>decide (d<base.tmps.size) | none=>true)=true)
    (hdis:distinctB ops=true) (hordB:orderedN ops ops.size=true) (hch:chainB ops cs=true) (hdu:dueB ops cs due=true)
    (hcong:∀ k f g w,(∀ s ∈ slotsP ops cs k,f s=g s)→St k f w→St k g w)
    (hOk:∀ i v w w',Ok i v w→R w w'→Ok i v w')
    (hop:EachOp (OpStepD P ops Q base cs due St R Ok) 0 ops.toList)
    (hdone:∀ a w,St cs.length (slot a) w→Agree ops base a→(∀ (i:Nat) (o:Oper) (d:Nat),ops[i]?=some o→o.dst=some d→Ok i (a.tmps.getD d undef) w)→Q .normal a w)
    (h0:St 0 (slot base) w0.drew):(Code.region id ops true).wp P Q base w0:=by
 let C:(Nat→Bool)→Act→World→Prop:=fun L a w=>∃ k,k≤cs.length∧(∀ j c,cs[j]?=some c→L c=decide (j<k))∧(∀ c o,L c=true→ops[c]?=some o→∀ e ∈ o.after,Region.binds .any e=true→L e.on=true)∧St k (slot a) w
 have hdst:∀ (L:Nat→Bool) (k i:Nat) (o:Oper) (d:Nat),ops[i]?=some o→o.dst=some d→L i=false→(∀ j c,cs[j]?=some c→L c=decide (j<k))→(∀ j c o,j<k→cs[j]?=some c→ops[c]?=some o→∀ e ∈ o.after,Region.binds .any e=true→L e.on=true)→∀ s ∈ slotsP ops cs k,s≠d:=by
  intro L k i o d ho hd hL h1 h2 s hs e;subst e;unfold slotsP at hs;obtain ⟨c,hc,hs⟩ := List.mem_flatMap.1 hs;obtain ⟨j,hjc⟩ := List.mem_iff_getElem?.1 hc;rw [List.getElem?_take] at hjc
  split at hjc
  · rename_i hjk;have hLc:=h1 j c hjc;rw [decide_eq_true hjk] at hLc;cases ho':ops[c]? with
    | none=>rw [ho'] at hs; cases hs
    | some o' =>
     rw [ho'] at hs;simp only at hs;rcases List.mem_append.1 hs with hs | hs
     · cases hd':o'.dst with
       | none=>rw [hd'] at hs; cases hs
       | some d' =>
        rw [hd'] at hs;obtain rfl:s=d':=by simpa using hs
        have:=distinctB_spec (ops:=ops) hdis i c o o' s ho ho' hd hd';rw [this] at hL;rw [hL] at hLc;cases hLc
     · obtain ⟨e,he,hs⟩ := List.mem_flatMap.1 hs;obtain ⟨he,hb⟩ := List.mem_filter.1 he;have hLe:=h2 j c o' hjk hjc ho' e (by simpa using he) hb;cases ho2:ops[e.on]? with
       | none=>rw [ho2] at hs; cases hs
       | some o2 =>
        rw [ho2] at hs;simp only at hs;cases hd2:o2.dst with
        | none=>rw [hd2] at hs; cases hs
        | some d2 =>
         rw [hd2] at hs;obtain rfl:s=d2:=by simpa using hs
         have:=distinctB_spec (ops:=ops) hdis i e.on o o2 s ho ho2 hd hd2;rw [this] at hL;rw [hL] at hLe;cases hLe
  · cases hjc
 refine wp_region_relA hm C R Ok hin hdis hordB hOk ?_ ?_ ⟨0,Nat.zero_le _,fun j c _=>by simp,(fun c o hc=>by simp at hc),h0⟩
 ·
   have key:∀ i o,ops.toList[i]?=some o→OpStepA P ops Q base C R Ok i o:=by
    intro i o hio;have hio':ops[i]?=some o:=by simpa using hio
    have hstep:=hop.at i o hio;rw [Nat.zero_add] at hstep;intro L a w hL hpre hC hag hdep;obtain ⟨k,hk,h1,hcl,hst⟩ := hC;have h2:∀ j c o,j<k→cs[j]?=some c→ops[c]?=some o→∀ e ∈ o.after,Region.binds .any e=true→L e.on=true:=fun j c o hj hc=>hcl c o (by rw [h1 j c hc,decide_eq_true hj])
    have hcl':∀ c o',upd L i c=true→ops[c]?=some o'→∀ e ∈ o'.after,Region.binds .any e=true→upd L i e.on=true:=fun c o' hc ho' e he hb=>by
     have h6:L e.on=true:=by
      unfold upd at hc
      split at hc
      · rename_i hci;subst hci;rw [hio'] at ho';cases ho';exact hpre e he hb
      · exact hcl c o' hc ho' e he hb
     unfold upd
     split
     · rfl
     · exact h6
    unfold OpStepD at hstep;cases hf:cs.findIdx? (fun c=>c == i) with
    | none =>
     rw [hf] at hstep;simp only at hstep;have hni:∀ j c,cs[j]?=some c→c≠i:=fun j c hc e=>by
      have:=List.findIdx?_eq_none_iff.1 hf c (List.mem_of_getElem? hc);simp [e] at this
     have hC':∀ v w',St k (slot a) w'→C (upd L i) (a.put o.dst v) w':=fun v w' hs=>by
      refine ⟨k,hk,fun j c hc=>?_,hcl',?_⟩
      · unfold upd;rw [if_neg (hni j c hc)];exact h1 j c hc
      · cases hd:o.dst with
        | none=>exact hs
        | some d=>exact hcong k _ _ w' (fun s hs'=>(slot_put (hdst L k i o d hio' hd hL h1 h2 s hs')).symm) hs
     have hkd:k≤due.getD i cs.length:=by
      have h7:=List.all_eq_true.1 hdu i (List.mem_range.2 (gSx.1 hio').1);rcases Bool.or_eq_true_iff.1 h7 with h7 | h7
      · have:=List.findIdx?_eq_none_iff.1 hf i (by simpa using h7);simp at this
      · cases hc:cs[due.getD i cs.length]? with
        | none=>have:=List.getElem?_eq_none_iff.1 hc; omega
        | some c =>
         rw [hc] at h7;simp only at h7;rcases Nat.lt_or_ge (due.getD i cs.length) k with h8 | h8
         · have h9:=reachD_spec hcl _ c i h7 (by rw [h1 _ c hc,decide_eq_true h8]);rw [hL] at h9;cases h9
         · exact h8
     rcases hstep k a w hkd hst hag hdep with ⟨h3,h4⟩ | ⟨h3,h4,h5⟩
     · exact .inl ⟨h3,fun K hK=>h4 K (fun v w' hr ho hs=>hK v w' hr ho (hC' v w' hs))⟩
     · exact .inr ⟨h3,h4,h5,hC' undef w hst⟩
    | some j =>
     rw [hf] at hstep;simp only at hstep;obtain ⟨hjl,hji,hjn⟩ := List.findIdx?_eq_some_iff_getElem.1 hf;have hji':cs[j]=i:=by simpa using hji
     have hcj:cs[j]?=some i:=by rw [List.getElem?_eq_getElem hjl,hji']
     obtain ⟨⟨o',ho',hpr⟩,hdup⟩ := chainB_spec (ops:=ops) hch hcj;rw [hio'] at ho';cases ho';have hkj:k=j:=by
      have h3:=h1 j i hcj;rw [hL] at h3;have h4:¬ j<k:=fun h=>by rw [decide_eq_true h] at h3; cases h3
      cases j with
      | zero=>omega
      | succ j' =>
       obtain ⟨c',hc',e,he,hb,hon⟩ := hpr j' rfl;have h5:=hpre e he hb;rw [hon,h1 j' c' hc'] at h5;have:=of_decide_eq_true h5;omega
     subst hkj;obtain ⟨h3,h4⟩ := hstep a w hst hag hdep;refine .inl ⟨h3,fun K hK=>h4 K (fun v w' hr hov hs=>hK v w' hr hov ⟨k+1,hjl,fun j2 c hc=>?_,hcl',hs⟩)⟩
     · unfold upd;by_cases hci:c=i
       · rw [if_pos hci];subst hci;have:j2=k:=by
          rcases Nat.lt_trichotomy j2 k with h | h | h
          · exact absurd hc (hdup j2 h)
          · exact h
          · exact absurd hcj ((chainB_spec (ops:=ops) hch hc).2 k h)
         subst this;exact (decide_eq_true (by omega)).symm
       · rw [if_neg hci,h1 j2 c hc];have:j2≠k:=fun e=>hci (by subst e; rw [hcj] at hc; cases hc; rfl)
         by_cases h:j2<k
         · rw [decide_eq_true h,decide_eq_true (by omega)]
         · rw [decide_eq_false h,decide_eq_false (by omega)]
   have go:∀ (l:List Oper) (k:Nat),(∀ i o,l[i]?=some o→OpStepA P ops Q base C R Ok (k+i) o)→EachOp (OpStepA P ops Q base C R Ok) k l:=by
    intro l
    induction l with
    | nil=>intro k _; trivial
    | cons o l ih =>
     intro k h;exact ⟨h 0 o rfl,ih (k+1) (fun i o' ho=>by have:=h (i+1) o' (by simpa using ho); rwa [show k+(i+1)=k+1+i by omega] at this)⟩
   exact go ops.toList 0 (fun i o h=>by rw [Nat.zero_add]; exact key i o h)
 · intro a w hC hag hok;obtain ⟨k,hk,h1,h2,hst⟩ := hC;have hkl:k=cs.length:=by
    rcases Nat.lt_or_ge k cs.length with h | h
    · have hck:cs[k]?=some cs[k]:=List.getElem?_eq_getElem h;have h3:=h1 k cs[k] hck;obtain ⟨⟨o,ho,-⟩,-⟩ := chainB_spec (ops:=ops) hch hck;have hlt:=(gSx.1 ho).1
      dsimp only at h3
      rw [decide_eq_true hlt,decide_eq_false (Nat.lt_irrefl k)] at h3;cases h3
    · omega
   subst hkl;exact hdone a w hst hag hok
end
end Go.Proofs.YtagolklnjhpbdaaDoor.R
