import Derived.Test.YtagolklnjhpbdaaDoorMerged0
import Derived.Test.YtagolklnjhpbdaaDoorMerged5
import Derived.Test.YtagolklnjhpbdaaDoorMerged4
namespace Go.Proofs.YtagolklnjhpbdaaDoor.R
open Go
section
variable {P:Program} {ops:Array Oper} {Q:Exit→Act→World→Prop}
def firstOps (ops:Array Oper) (n:Nat):Array Oper:=(ops.toList.take n).toArray
def OpStepV (n:Nat) (P:Program) (ops:Array Oper) (Q:Exit→Act→World→Prop) (base:Act) (C:World→Prop) (R:World→World→Prop) (Ok:Nat→Value→World→Prop) (i:Nat) (o:Oper):Prop :=
 ∀ (a:Act) (w:World),C w→Agree (firstOps ops n) base a→(∀ e ∈ o.after,Region.binds .any e=true→∀ oj d,ops[e.on]?=some oj→oj.dst=some d→Ok e.on (a.tmps.getD d undef) w) →
   (Region.wanted o (yielded ops a.tmps)=true∧∀ K:Act→World→Prop,(∀ v w',R w w'→Ok i v w'→K (a.put o.dst v) w')→o.wp P a w K Q) ∨
   (Region.wanted o (yielded ops a.tmps)=false∧R w w∧Ok i undef w)
theorem wp_region_tailV {id:Nat} {base:Act} {w0:World} (n:Nat) (hm:P.follows .mixedOrders=true) (C:World→Prop) (R:World→World→Prop) (Ok:Nat→Value→World→Prop)
    (hin:(ops.toList.all fun o=>match o.dst with | some d=>decide (d<base.tmps.size) | none=>true)=true)
    (hdis:distinctB ops=true) (hnl:n≤ops.size) (hordB:orderedN ops n=true) (hsink:sinkT ops n=true) (hseq:Region.seqB .any ops (ops.size - n) n (firstN ops n)=true)
    (hC:∀ w w',C w→R w w'→C w') (hOk:∀ i v w w',Ok i v w→R w w'→Ok i v w')
    (hop:EachOp (OpStepV n P ops Q base C R Ok) 0 (ops.toList.take n))
    (hdone:∀ a w,C w→Agree (firstOps ops n) base a→(∀ (i:Nat) (o:Oper) (d:Nat),i<n→ops[i]?=some o→o.dst=some d→Ok i (a.tmps.getD d undef) w)→(∀ (i:Nat) (o:Oper),i<n→ops[i]?=some o→∃ v,Ok i v w)→wpList P ops Q (ops.toList.drop n) a w)
    (h0:C w0.drew):(Code.region id ops true).wp P Q base w0:=by
 have hinj:=fun i j o o' d=>distinctB_spec (ops:=ops) hdis i j o o' d
 have hin':∀ (i:Nat) (o:Oper) (d:Nat),ops[i]?=some o→o.dst=some d→d<base.tmps.size:=fun i o d hi hd=>by
  have:=List.all_eq_true.1 hin o (by have:=Array.mem_of_getElem? hi; simpa using this);rw [hd] at this
  simpa using this
 have main:∀ (cnt:Nat) (listed:Array Bool) (a:Act) (w:World),listed.size=ops.size→(∀ j,n≤j→listed.getD j false=false)→ClosedL ops listed→C w→Agree (firstOps ops n) base a→Held ops Ok listed a w→(∀ i o,ops[i]?=some o→listed.getD i false=true→∃ v,Ok i v w) →
     ((List.range n).filter fun i=>!listed.getD i true).length=cnt→wpAny P .any ops Q (cnt+(ops.size - n)) listed a w:=by
  intro cnt
  induction cnt with
  | zero =>
   intro listed a w hsz htl hcl hc ha hh hx hf;have hall:∀ i,i<n→listed.getD i true=true:=fun i hi=>by
    have h1:((List.range n).filter fun i=>!listed.getD i true)=[]:=List.length_eq_zero_iff.1 hf;have h2:=List.filter_eq_nil_iff.1 h1 i (List.mem_range.2 hi)
    simpa using h2
   have hlist:listed=firstN ops n:=by
    refine Array.ext (by simp [firstN,hsz]) fun i h1 h2=>?_
    have hlt:i<ops.size:=by omega
    have hval:(firstN ops n)[i]=decide (i<n):=by simp [firstN]
    rw [hval];by_cases hin:i<n
    · have:=hall i hin;rw [gDx,Array.getElem?_eq_getElem h1] at this
      simpa [hin] using this
    · have:=htl i (by omega);rw [gDx,Array.getElem?_eq_getElem h1] at this
      simpa [hin] using this
   have hallF:∀ i,i<n→listed.getD i false=true:=fun i hi=>by
    have:=hall i hi;rw [gDx] at this ⊢;rw [Array.getElem?_eq_getElem (by omega)] at this ⊢
    simpa using this
   have hd:=hdone a w hc ha (fun i o d hi ho hd=>hh i o d ho hd (hallF i hi)) (fun i o hi ho=>hx i o ho (hallF i hi));have hlen:(ops.toList.drop n).length=ops.size - n:=by simp
   rw [Nat.zero_add,← hlen];exact wpAny_of_seq (ops.toList.drop n) n listed a w (fun j=>by simp) (by rw [hlen,hlist]; exact hseq) hd
  | succ cnt ih =>
   intro listed a w hsz htl hcl hc ha hh hx hf;have hex:∃ i,i<n∧listed.getD i true=false:=by
    have hpos:0<((List.range n).filter fun i=>!listed.getD i true).length:=by omega
    obtain ⟨i,hi⟩ := List.exists_mem_of_length_pos hpos;have:=List.mem_filter.1 hi;exact ⟨i,List.mem_range.1 this.1,by simpa using this.2⟩
   have hne:Region.ready .any ops listed≠[]:=by
    intro hr;obtain ⟨i0,hi0,hu0⟩ := hex;have hall:∀ m i,i<m→i<n→listed.getD i false=true:=by
     intro m
     induction m with
     | zero=>intro i hi _; omega
     | succ m ihm =>
      intro i hi hlt;by_cases hin:i<m
      · exact ihm i hin hlt
      · obtain rfl:i=m:=by omega
        cases hl:listed.getD i false with
        | true=>rfl
        | false =>
         exfalso
         have hl':listed.getD i true=false:=by
          rw [gDx] at hl ⊢;rw [Array.getElem?_eq_getElem (by omega)] at hl ⊢
          simpa using hl
         have hmem:i ∈ Region.ready .any ops listed:=by
          unfold Region.ready;refine List.mem_filter.2 ⟨List.mem_range.2 (by omega),?_⟩;rw [hl',Array.getElem?_eq_getElem (by omega)];simp only [Bool.not_false,Bool.true_and,Option.map_some,Option.getD_some];refine Array.all_eq_true_iff_forall_mem.2 fun e he=>?_
          cases hb:Region.binds .any e with
          | false=>rfl
          | true =>
           have hlt2:=orderedN_spec hordB i _ hlt (Array.getElem?_eq_getElem (by omega)) e he hb;have:=ihm e.on hlt2 (by omega);simp [this]
         rw [hr] at hmem;cases hmem
    have h1:=hall (i0+1) i0 (by omega) hi0;rw [gDx] at h1 hu0;rw [Array.getElem?_eq_getElem (by omega)] at h1 hu0;simp at h1 hu0;rw [h1] at hu0;cases hu0
   rw [show cnt+1+(ops.size - n)=(cnt+(ops.size - n))+1 from by omega];refine ⟨fun hr=>absurd hr hne,fun i hi=>?_⟩;have hi':=hi;unfold Region.ready at hi';obtain ⟨hlt,hcond⟩ := List.mem_filter.1 hi';have hlt:=List.mem_range.1 hlt;simp only [Bool.and_eq_true,Bool.not_eq_true'] at hcond;obtain ⟨hun,hdeps⟩ := hcond;obtain ⟨o,ho⟩ : ∃ o,ops[i]?=some o:=⟨_,Array.getElem?_eq_getElem hlt⟩;rw [ho] at hdeps;simp only [Option.map_some,Option.getD_some] at hdeps;have hin:i<n:=by
    rcases Nat.lt_or_ge i n with h | h
    · exact h
    · exfalso
      obtain ⟨k,hk,hku⟩ := hex;have h1:=sinkT_spec hsink i h hlt k hk;have hlk:=reach_listed hcl ops.size i k h1 (fun o' ho' e he hb=>by
       rw [ho] at ho';cases ho';have h2:=Array.all_eq_true_iff_forall_mem.1 hdeps e he;rw [hb] at h2;rw [gDx]
       simpa using h2)
      rw [gDx] at hlk hku;rw [Array.getElem?_eq_getElem (by omega)] at hlk hku;simp at hlk hku;rw [hlk] at hku;cases hku
   have hstep:=hop.at i o (by rw [List.getElem?_take]; simp [hin]; simpa using ho);rw [Nat.zero_add] at hstep;have hd:=hstep a w hc ha fun e he hb oj d hoj hdj=>by
    have h1:=Array.all_eq_true_iff_forall_mem.1 hdeps e he;rw [hb] at h1;simp at h1;refine hh e.on oj d hoj hdj ?_;rw [gDx];exact h1
   have next:∀ v w',R w w'→Ok i v w'→wpAny P .any ops Q (cnt+(ops.size - n)) (listed.setIfInBounds i true) (a.put o.dst v) w':=by
    intro v w' hr hv;refine ih _ _ _ (by simpa using hsz) ?_ ?_ (hC _ _ hc hr) ?_ ?_ ?_ ?_
    · intro j hj;have hji:i≠j:=by omega
      rw [gDx,Array.getElem?_setIfInBounds,if_neg hji,← gDx];exact htl j hj
    · intro j oj hj hlj e he hb;have hget:listed.getD e.on false=true→(listed.setIfInBounds i true).getD e.on false=true:=fun h=>by
       rw [gDx,Array.getElem?_setIfInBounds]
       split
       · split
         · rfl
         · rename_i h1 h2;rw [gDx,← h1,Array.getElem?_eq_none (by omega)] at h;simp at h
       · rw [← gDx]; exact h
      by_cases hji:j=i
      · subst hji;rw [ho] at hj;cases hj;refine hget ?_;have h2:=Array.all_eq_true_iff_forall_mem.1 hdeps e he;rw [hb] at h2;rw [gDx]
        simpa using h2
      · rw [gDx,Array.getElem?_setIfInBounds,if_neg (Ne.symm hji),← gDx] at hlj;exact hget (hcl j oj hj hlj e he hb)
    · obtain ⟨k1,k2,k3⟩ := ha;cases hdst:o.dst with
      | none=>exact ⟨k1,k2,k3⟩
      | some d =>
       have hds:=hin' i o d ho hdst;refine ⟨k1,by simpa [Act.put] using k2,fun t ht=>?_⟩;rw [getD_put (by omega),if_neg ?_]
       · exact k3 t ht
       · intro e;have:=List.all_eq_true.1 ht o (by unfold firstOps; refine List.mem_of_getElem? (i:=i) ?_; simp only [List.getElem?_take]; rw [if_pos hin]; simpa using ho);rw [hdst,e] at this;simp at this
    · intro j oj dj hj hdj hlj;by_cases hji:j=i
      · subst hji;rw [ho] at hj;cases hj;rw [hdj,getD_put (by have:=hin' j o dj ho hdj; have:=ha.2.1; omega),if_pos rfl];exact hv
      · have hlj':listed.getD j false=true:=by
         rw [gDx,Array.getElem?_setIfInBounds,if_neg (Ne.symm hji),← gDx] at hlj;exact hlj
        have hold:=hOk _ _ _ _ (hh j oj dj hj hdj hlj') hr;cases hdst:o.dst with
        | none=>exact hold
        | some d =>
         rw [getD_put (by have:=hin' i o d ho hdst; have:=ha.2.1; omega),if_neg ?_]
         · exact hold
         · intro e;exact hji (hinj j i oj o dj hj ho hdj (by rw [hdst,e]))
    · intro j oj hj hlj;by_cases hji:j=i
      · subst hji;exact ⟨v,hv⟩
      · rw [gDx,Array.getElem?_setIfInBounds,if_neg (Ne.symm hji),← gDx] at hlj;obtain ⟨v',hv'⟩ := hx j oj hj hlj;exact ⟨v',hOk _ _ _ _ hv' hr⟩
    · have hsub:((List.range n).filter fun k=>!(listed.setIfInBounds i true).getD k true)=((List.range n).filter fun k=>!listed.getD k true).erase i:=by
       rw [List.Nodup.erase_eq_filter ((List.nodup_range).sublist List.filter_sublist),List.filter_filter];refine List.filter_congr fun k hk=>?_
       rw [gDx,Array.getElem?_setIfInBounds];by_cases hki:i=k
       · subst hki; rw [if_pos rfl,if_pos (by omega)]; simp
       · rw [if_neg hki,← gDx];simp [Ne.symm hki]
      rw [hsub,List.length_erase_of_mem,hf]
      · rfl
      · refine List.mem_filter.2 ⟨List.mem_range.2 hin,?_⟩;rw [gDx]; simpa using hun
   unfold wpOp;rw [ho];simp only;rcases hd with ⟨hw,hk⟩ | ⟨hw,hr,hv⟩
   · rw [if_pos hw];exact .inl (hk _ next)
   · rw [if_neg (by rw [hw]; decide)];exact next _ _ hr hv
 have hstart:((List.range n).filter fun i=>!(Array.replicate ops.size false).getD i true)=List.range n:=by
  refine List.filter_eq_self.2 fun i hi=>?_
  have:=List.mem_range.1 hi;rw [gDx];simp [show i<ops.size by omega]
 have hfin:=main n (Array.replicate ops.size false) base w0.drew (by simp) (fun j hj=>by
  rw [gDx];by_cases h:j<ops.size
  · simp [h]
  · simp [h]) (fun i o hi hl=>by
  have hlt:=(gSx.1 hi).1;rw [gDx] at hl;simp [hlt] at hl) h0 ⟨rfl,rfl,fun _ _=>rfl⟩ (fun i o d hi _ hl=>by
  have hlt:=(gSx.1 hi).1;rw [gDx] at hl;simp [hlt] at hl) (fun i o hi hl=>by
  have hlt:=(gSx.1 hi).1;rw [gDx] at hl;simp [hlt] at hl) (by rw [hstart]; simp)
 rw [show n+(ops.size - n)=ops.size from by omega] at hfin;exact wp_region_any hm hfin
end
end Go.Proofs.YtagolklnjhpbdaaDoor.R

namespace Go.Proofs.YtagolklnjhpbdaaDoor.K
open Go.Proofs.YtagolklnjhpbdaaDoor.R (agree_frame)
open Go.RowKit
def RepR (nb:Nat) (e:TypeId) (size n:Nat) (xs:List Value) (j:Nat) (u v:World):Prop:=Below nb u v∧(v=u∨U.Filled nb e size nb n xs j v)
def RepOk_cells (nb n k q:Nat) (xs:List Value):Nat→Value→World→Prop
  | 0,u,_=>u=.int .i64 (k:Int)
  | 1,u,_=>u=.slice (some ⟨nb,0,none⟩) n n
  | 2,u,_=>u=.int .i64 (k:Int)
  | 3,u,_=>u=.slice (some ⟨nb,k*3,none⟩) (n - k) (n - k)
  | 4,u,_=>u=.slice (some ⟨nb,0,none⟩) n n
  | 5,u,_=>u=.int .i64 (k:Int)
  | 6,u,_=>u=.slice (some ⟨nb,0,none⟩) k n
  | 7,u,w=>u=.int .i64 (q:Int)∧U.Filled nb 118 3 nb n xs (k+q) w
  | 8,u,_=>u=.int .i64 ((k:Int)+(q:Int))
  | _,_,_=>True
set_option maxRecDepth 100000 in
set_option maxHeartbeats 8000000 in
theorem repeat_cells (b off c n:Nat) (xs:List Value) (w:World) (hx:xs.length=3) (hc:∀ j u,xs[j]?=some u→w.cell? ((⟨b,off,none⟩ : Addr).add j)=some u) (hbl:b<w.heap.size) (h1:∀ u ∈ xs,u.oneCell'=true) (hn:(n:Int)≤1000000) :
    Calls Tryd.prog 80 #[.slice (some ⟨b,off,none⟩) 1 c,.int .i64 (n:Int)] w fun e w'=>e=.returned (.slice (some ⟨w.heap.size,0,none⟩) n n)∧w'.ownsRow w.heap.size 118 3 (.slice (some ⟨w.heap.size,0,none⟩) n n) n (U.rep n xs)∧Below w.heap.size w w':=by
 obtain ⟨nb,hnb⟩ : ∃ nb,w.heap.size=nb:=⟨_,rfl⟩;rw [hnb];obtain ⟨P,hP⟩ : ∃ P:Ending→World→Prop,(fun e w'=>e=.returned (.slice (some ⟨nb,0,none⟩) n n)∧w'.ownsRow nb 118 3 (.slice (some ⟨nb,0,none⟩) n n) n (U.rep n xs)∧Below nb w w')=P:=⟨_,rfl⟩;rw [hP];obtain ⟨i0,hin,hz0,hz1,hz2⟩ := info_parts (by kernel_rfl:(Tryd.prog.info? 118).map (fun i=>(i.zero,i.size,i.bytes))=some (some (Value.agg #[.int .i32 0,.int .i64 0,.int .i64 0]),3,24));obtain ⟨w2,hmk,ho2,hg2⟩ := run_make_full (P:=Tryd.prog) (w:=w) nb 55 118 i0 (Value.agg #[.int .i32 0,.int .i64 0,.int .i64 0]) 3 Tryd.underlying55 hin hz0 hz1 .i64 .i64 n (by rw [hz2]; omega) (by unfold maxLen; omega) (by omega);rw [hnb] at hmk ho2;obtain ⟨L2,hL2⟩ : ∃ L2,(madeCells (Value.agg #[.int .i32 0,.int .i64 0,.int .i64 0]).cells (n*3)).toList=L2:=⟨_,rfl⟩;rw [hL2] at ho2
 have hb2:Below nb w w2:=(Below.refl nb w).grown hg2 (Nat.le_of_eq hnb.symm) (fun q hq=>by cases hq);have hsz:(Tryd.prog.info? 118).map (·.size)=some 3:=by rw [hin]; simp [hz1]
 have hlt2:nb≤w2.heap.size:=by have:=hb2.size; omega
 have HMul:=hDx (mul_one n (by omega) w);have hneg:decide ((n:Int)<0)=false:=decide_eq_false (by omega);have hbig:decide ((n:Int) > 9223372036854775807)=false:=decide_eq_false (by omega);obtain ⟨m,hm⟩ : ∃ m,Nat.min 1 n=m:=⟨_,rfl⟩;have hmn:m≤n:=by rw [← hm]; exact Nat.min_le_right _ _
 have hm1:m≤1:=by rw [← hm]; exact Nat.min_le_left _ _
 have hm0:1≤m∨n=0:=by
  rcases Nat.eq_zero_or_pos n with h | h
  · exact .inr h
  · left; rw [← hm]; show 1≤min 1 n; omega
 have HC2:Hid (∀ j u,(U.rep m xs)[j]?=some u→w2.cell? ((⟨b,off,none⟩ : Addr).add j)=some u):=hDx (fun j u hj=>by
  have hxu:xs[j]?=some u:=by
   rcases Nat.le_one_iff_eq_zero_or_eq_one.1 hm1 with h | h
   · rw [h] at hj; simp [U.rep] at hj
   · rw [h,U.rep_one] at hj; exact hj
  have hadd:((⟨b,off,none⟩ : Addr).add j)=⟨b,off+j,none⟩ := by unfold Addr.add; split <;> simp_all
  have:=hc j u hxu;rw [hadd] at this ⊢;exact (hb2.cell (p:=⟨b,off+j,none⟩) (by show b<nb; omega)).trans this)
 have HLen:Hid ((U.rep m xs).length=m*3):=hDx (by rw [U.rep_length,hx]);have HMem:Hid (∀ u ∈ U.rep m xs,u.oneCell'=true):=hDx (fun u hu=>h1 u (U.rep_mem hu));have HLl:Hid (L2.length=n*3):=hDx ho2.1;have HX:=hDx hx;have H1:=hDx h1;have HO2:=hDx ho2;have HB2:=hDx hb2;have HSz:=hDx hsz;have HM:=hDx hm;have HMn:=hDx hmn;have HM0:=hDx hm0;have HP:=hDx hP;have HNb:=hDx hnb;clear hP hnb hin hz0 hz1 hz2 ho2 hg2 hL2 hb2 hsz hm hmn hm1 hm0 hx hc h1 hbl
 go_enter Tryd.func80,Tryd.ntmps80
 go_wp2_with (first | (go_at_call 96; refine HMul.out.mono ?_; rintro e w' ⟨rfl,rfl⟩) | (refine U.wpList_copy_own rfl _ _ _ _ rfl 118 3 Tryd.underlying55 HSz.out nb nb n n L2 HO2.out 0 m n n ⟨b,off,none⟩ 1 c (U.rep m xs) rfl rfl HM.out HLen.out HC2.out (by rw [Nat.zero_add]; exact HMn.out) HMem.out ?_))
 intro w3 ho3 hg3;have HF3:Hid (Below nb w w3∧U.Filled nb 118 3 nb n xs m w3):=hDx ⟨below_grown HB2.out hg3 (Nat.le_refl _) hlt2,_,by
  exact List.take_left' HLen.out,ho3⟩
 clear ho3 hg3 hmk
 go_wp2_with fail
 go_loopw [8] (fun i wr=>∃ k:Nat,i=.int .i64 (k:Int)∧k≤n∧Hid ((1≤k∨n=0)∧Below nb w wr∧U.Filled nb 118 3 nb n xs k wr)) (fun i _=>n - (intOf i).toNat)
 case atStart=>exact ⟨m,rfl,HMn.out,hDx ⟨HM0.out,HF3.out⟩⟩
 case round =>
  obtain ⟨k,rfl,hk,HF⟩ := hrel;by_cases hlt:k<n
  · have hd:decide (k<n)=true:=by simp; omega
    have hk1:1≤k:=HF.out.1.resolve_right (by omega);obtain ⟨q,hq⟩ : ∃ q,Nat.min k (n - k)=q:=⟨_,rfl⟩;have hqk:q≤k:=by rw [← hq]; exact Nat.min_le_left _ _
    have hqn:k+q≤n:=by have:q≤n - k:=by rw [← hq]; exact Nat.min_le_right _ _
                       omega
    have hq1:1≤q:=by rw [← hq]; show 1≤min k (n - k); omega
    have hkn:(k:Int)≤n:=by omega
    have HRl:Hid ((U.rep q xs).length=q*3):=hDx (by rw [U.rep_length,HX.out]);have HRm:Hid (∀ u ∈ U.rep q xs,u.oneCell'=true):=hDx (fun u hu=>H1.out u (U.rep_mem hu));have HQ:=hDx hq;clear hq
    go_upto_region 9 with fail
    refine Go.Proofs.YtagolklnjhpbdaaDoor.R.wp_region_tailV 9 (by kernel_rfl) (fun u=>Below nb w u∧U.Filled nb 118 3 nb n xs k u) (RepR nb 118 3 n xs (k+q)) (RepOk_cells nb n k q xs) (by rfl) (by kernel_rfl) (by decide) (by kernel_rfl) (by kernel_rfl) (by kernel_rfl) ?hC ?hOk ?hop ?hdone ⟨HF.out.2.1.drew,HF.out.2.2.belowAll (Below.refl _ _).drew⟩
    case hC =>
     intro u u' hu hr;exact ⟨hu.1.trans hr.1,hr.2.elim (fun e=>by rw [e]; exact hu.2) (fun h=>h.less HX.out)⟩
    case hOk =>
     intro i x u u' hv hr;unfold RepOk_cells at hv ⊢
     split at hv
     all_goals first | exact hv | exact ⟨hv.1,hr.2.elim (fun e=>by rw [e]; exact hv.2) id⟩
    case hop =>
     refine ⟨?_,?_,?_,?_,?_,?_,?_,?_,?_,trivial⟩
     · intro z v hz hag hdep;refine .inl ⟨rfl,fun K hK=>?_⟩;have d8:z.tmps.getD 8 undef=.int .i64 (k:Int):=hag.2.2 8 (by kernel_rfl);have e8:=gEx d8;clear hz;clear hdep hag;go_simp;exact hK _ _ (⟨Below.refl _ _,.inl rfl⟩) rfl
     · intro z v hz hag hdep;refine .inl ⟨rfl,fun K hK=>?_⟩;have d7:z.tmps.getD 7 undef=.slice (some ⟨nb,0,none⟩) n n:=hag.2.2 7 (by kernel_rfl);have e7:=gEx d7;clear hdep hag;go_simp;exact hK _ _ (⟨Below.refl _ _,.inl rfl⟩) rfl
     · intro z v hz hag hdep;refine .inl ⟨rfl,fun K hK=>?_⟩;have d8:z.tmps.getD 8 undef=.int .i64 (k:Int):=hag.2.2 8 (by kernel_rfl);have e8:=gEx d8;clear hdep hag;go_simp;exact hK _ _ (⟨Below.refl _ _,.inl rfl⟩) rfl
     · intro z v hz hag hdep;refine .inl ⟨rfl,fun K hK=>?_⟩;have d39:z.tmps.getD 39 undef=.slice (some ⟨nb,0,none⟩) n n:=hdep ⟨1,.data⟩ (by simp) rfl _ _ rfl rfl;have e39:=gEx d39;have d40:z.tmps.getD 40 undef=.int .i64 (k:Int):=hdep ⟨2,.data⟩ (by simp) rfl _ _ rfl rfl;have e40:=gEx d40;have hne:¬ n=k:=by omega
       clear hz;clear hdep hag;go_simp;exact hK _ _ (⟨Below.refl _ _,.inl rfl⟩) rfl
     · intro z v hz hag hdep;refine .inl ⟨rfl,fun K hK=>?_⟩;have d7:z.tmps.getD 7 undef=.slice (some ⟨nb,0,none⟩) n n:=hag.2.2 7 (by kernel_rfl);have e7:=gEx d7;clear hdep hag;go_simp;exact hK _ _ (⟨Below.refl _ _,.inl rfl⟩) rfl
     · intro z v hz hag hdep;refine .inl ⟨rfl,fun K hK=>?_⟩;have d8:z.tmps.getD 8 undef=.int .i64 (k:Int):=hag.2.2 8 (by kernel_rfl);have e8:=gEx d8;clear hdep hag;go_simp;exact hK _ _ (⟨Below.refl _ _,.inl rfl⟩) rfl
     · intro z v hz hag hdep;refine .inl ⟨rfl,fun K hK=>?_⟩;have d42:z.tmps.getD 42 undef=.slice (some ⟨nb,0,none⟩) n n:=hdep ⟨4,.data⟩ (by simp) rfl _ _ rfl rfl;have e42:=gEx d42;have d43:z.tmps.getD 43 undef=.int .i64 (k:Int):=hdep ⟨5,.data⟩ (by simp) rfl _ _ rfl rfl;have e43:=gEx d43;clear hz;clear hdep hag;go_simp;exact hK _ _ (⟨Below.refl _ _,.inl rfl⟩) rfl
     · intro z v hz hag hdep;refine .inl ⟨rfl,fun K hK=>?_⟩;have d41:z.tmps.getD 41 undef=.slice (some ⟨nb,k*3,none⟩) (n - k) (n - k):=hdep ⟨3,.data⟩ (by simp) rfl _ _ rfl rfl;have e41:=gEx d41;have d44:z.tmps.getD 44 undef=.slice (some ⟨nb,0,none⟩) k n:=hdep ⟨6,.data⟩ (by simp) rfl _ _ rfl rfl;have e44:=gEx d44;have HSrc:=hDx (hz.2.src HX.out hqk hk);obtain ⟨hzb,L,hL,hoL⟩ := hz;have HOL:=hDx hoL;have HL:=hDx hL;have HZb:=hDx hzb;clear hdep hag hoL hL hzb;refine U.wp_copy_own _ _ _ _ rfl 118 3 Tryd.underlying55 HSz.out nb nb n n L HOL.out k q (n - k) (n - k) ⟨nb,0,none⟩ k n (U.rep q xs) d41 d44 HQ.out HRl.out HSrc.out hqn HRm.out ?_;intro w4 ho4 hg4;have hF4:U.Filled nb 118 3 nb n xs (k+q) w4:=⟨_,U.rep_step HX.out HL.out hqk hqn HOL.out.1,ho4.out⟩;exact hK _ _ ⟨below_grown (Below.refl _ _) hg4.out (Nat.le_refl _) (by have:=HZb.out.size; have:=HNb.out; omega),.inr hF4⟩ ⟨rfl,hF4⟩
     · intro z v hz hag hdep;refine .inl ⟨rfl,fun K hK=>?_⟩;have d38:z.tmps.getD 38 undef=.int .i64 (k:Int):=hdep ⟨0,.data⟩ (by simp) rfl _ _ rfl rfl;have e38:=gEx d38;have d45':RepOk_cells nb n k q xs 7 (z.tmps.getD 45 undef) v:=hdep ⟨7,.data⟩ (by simp) rfl _ _ rfl rfl;simp only [RepOk_cells] at d45';obtain ⟨d45,hq45⟩ := d45';have e45:=gEx d45;clear hz hq45;have hwr:IntKind.i64.wrap ((k:Int)+(q:Int))=(k:Int)+(q:Int):=by rw [IntKind.wrap_i64]; omega
       clear hdep hag;go_simp;exact hK _ _ (⟨Below.refl _ _,.inl rfl⟩) rfl
    case hdone =>
     intro z u hu hag hok hno;clear hno;have d45:RepOk_cells nb n k q xs 7 (z.tmps.getD 45 undef) u:=hok 7 _ 45 (by decide) rfl rfl;have d46:z.tmps.getD 46 undef=.int .i64 ((k:Int)+(q:Int)):=hok 8 _ 46 (by decide) rfl rfl;have HF':Hid (Below nb w u∧U.Filled nb 118 3 nb n xs (k+q) u):=hDx ⟨hu.1,d45.2⟩;obtain ⟨uu,huu,hzz⟩ := agree_frame [38,39,40,41,42,43,44,45,46] rfl hag;have e46:=(huu 46).trans d46;subst hzz;clear d45 d46 hag hok hu huu;simp only [List.foldl_cons,List.foldl_nil];rw [e46];clear e46
     dsimp only [List.drop]
     go_wp2
     go_roundw
     case rel=>exact ⟨k+q,by go_num,by omega,hDx ⟨.inl (by omega),HF'.out⟩⟩
     case measure=>simp [intOf]; omega
  · obtain rfl:k=n:=by omega
    have hd:decide ((k:Int)<(k:Int))=false:=by simp
    go_wp2_with fail
    obtain ⟨L,hL,hoL⟩ := HF.out.2.2;rw [List.take_of_length_le (Nat.le_of_eq hoL.1)] at hL;rw [hL] at hoL;rw [← HP.out];exact ⟨rfl,hoL,HF.out.2.1⟩
end Go.Proofs.YtagolklnjhpbdaaDoor.K
