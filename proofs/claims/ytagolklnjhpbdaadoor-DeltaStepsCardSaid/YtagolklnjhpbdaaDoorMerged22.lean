import Derived.Test.YtagolklnjhpbdaaDoorMerged0
import Derived.Test.YtagolklnjhpbdaaDoorMerged16
import Derived.Test.YtagolklnjhpbdaaDoorDtRead
import Derived.Test.YtagolklnjhpbdaaDoorMerged14
namespace Go.Proofs.YtagolklnjhpbdaaDoor.R
open Go
section
variable {P:Program} {ops:Array Oper} {Q:Exit→Act→World→Prop}
def OpStepF (P:Program) (ops:Array Oper) (Q:Exit→Act→World→Prop) (base:Act) (cs due:List Nat) (St:Nat→(Nat→Bool)→(Nat→Value)→World→Prop) (R:World→World→Prop) (Ok:Nat→Value→World→Prop) (i:Nat) (o:Oper):Prop :=
 match cs.findIdx? (fun c=>c == i) with
 | none=>∀ (k:Nat) (L:Nat→Bool) (a:Act) (w:World),k≤due.getD i cs.length→L i=false→St k L (slot a) w→Agree ops base a→(∀ e ∈ o.after,Region.binds .any e=true→L e.on=true)→(∀ e ∈ o.after,Region.binds .any e=true→∀ oj d,ops[e.on]?=some oj→oj.dst=some d→Ok e.on (a.tmps.getD d undef) w) →
   (Region.wanted o (yielded ops a.tmps)=true∧∀ K:Act→World→Prop,(∀ v w',R w w'→Ok i v w'→St k (upd L i) (slot (a.put o.dst v)) w'→K (a.put o.dst v) w')→o.wp P a w K Q) ∨
   (Region.wanted o (yielded ops a.tmps)=false∧R w w∧Ok i undef w∧St k (upd L i) (slot (a.put o.dst undef)) w)
 | some j=>∀ (L:Nat→Bool) (a:Act) (w:World),L i=false→St j L (slot a) w→Agree ops base a→(∀ e ∈ o.after,Region.binds .any e=true→L e.on=true)→(∀ e ∈ o.after,Region.binds .any e=true→∀ oj d,ops[e.on]?=some oj→oj.dst=some d→Ok e.on (a.tmps.getD d undef) w) →
   Region.wanted o (yielded ops a.tmps)=true∧∀ K:Act→World→Prop,(∀ v w',R w w'→Ok i v w'→St (j+1) (upd L i) (slot (a.put o.dst v)) w'→K (a.put o.dst v) w')→o.wp P a w K Q
theorem wp_region_seen {id:Nat} {base:Act} {w0:World} (cs due:List Nat) (hm:P.follows .mixedOrders=true) (St:Nat→(Nat→Bool)→(Nat→Value)→World→Prop) (R:World→World→Prop) (Ok:Nat→Value→World→Prop)
    (hin:(ops.toList.all fun o=>match o.dst with | some d=>decide (d<base.tmps.size) | none=>true)=true)
    (hdis:distinctB ops=true) (hordB:orderedN ops ops.size=true) (hch:chainB ops cs=true) (hdu:dueB ops cs due=true)
    (hOk:∀ i v w w',Ok i v w→R w w'→Ok i v w')
    (hop:EachOp (OpStepF P ops Q base cs due St R Ok) 0 ops.toList)
    (hdone:∀ a w L,(∀ i,i<ops.size→L i=true)→St cs.length L (slot a) w→Agree ops base a→(∀ (i:Nat) (o:Oper) (d:Nat),ops[i]?=some o→o.dst=some d→Ok i (a.tmps.getD d undef) w)→Q .normal a w)
    (h0:St 0 (fun _=>false) (slot base) w0.drew):(Code.region id ops true).wp P Q base w0:=by
 let C:(Nat→Bool)→Act→World→Prop:=fun L a w=>∃ k,k≤cs.length∧(∀ j c,cs[j]?=some c→L c=decide (j<k))∧(∀ c o,L c=true→ops[c]?=some o→∀ e ∈ o.after,Region.binds .any e=true→L e.on=true)∧St k L (slot a) w
 refine wp_region_relA hm C R Ok hin hdis hordB hOk ?_ ?_ ⟨0,Nat.zero_le _,fun j c _=>by simp,(fun c o hc=>by simp at hc),h0⟩
 ·
   have key:∀ i o,ops.toList[i]?=some o→OpStepA P ops Q base C R Ok i o:=by
    intro i o hio;have hio':ops[i]?=some o:=by simpa using hio
    have hstep:=hop.at i o hio;rw [Nat.zero_add] at hstep;intro L a w hL hpre hC hag hdep;obtain ⟨k,hk,h1,hcl,hst⟩ := hC;have h2:∀ j c o,j<k→cs[j]?=some c→ops[c]?=some o→∀ e ∈ o.after,Region.binds .any e=true→L e.on=true:=fun j c o hj hc=>hcl c o (by rw [h1 j c hc,decide_eq_true hj])
    have hcl':∀ c o',upd L i c=true→ops[c]?=some o'→∀ e ∈ o'.after,Region.binds .any e=true→upd L i e.on=true:=fun c o' hc ho' e he hb=>by
     have h6:L e.on=true:=by
      unfold upd at hc
      split at hc
      · rename_i hci;subst hci;rw [hio'] at ho';cases ho';exact hpre e he hb
      · exact hcl c o' hc ho' e he hb
     unfold upd
     split
     · rfl
     · exact h6
    unfold OpStepF at hstep;cases hf:cs.findIdx? (fun c=>c == i) with
    | none =>
     rw [hf] at hstep;simp only at hstep;have hni:∀ j c,cs[j]?=some c→c≠i:=fun j c hc e=>by
      have:=List.findIdx?_eq_none_iff.1 hf c (List.mem_of_getElem? hc);simp [e] at this
     have hC':∀ v w',St k (upd L i) (slot (a.put o.dst v)) w'→C (upd L i) (a.put o.dst v) w':=fun v w' hs=>by
      refine ⟨k,hk,fun j c hc=>?_,hcl',hs⟩;unfold upd;rw [if_neg (hni j c hc)];exact h1 j c hc
     have hkd:k≤due.getD i cs.length:=by
      have h7:=List.all_eq_true.1 hdu i (List.mem_range.2 (gSx.1 hio').1);rcases Bool.or_eq_true_iff.1 h7 with h7 | h7
      · have:=List.findIdx?_eq_none_iff.1 hf i (by simpa using h7);simp at this
      · cases hc:cs[due.getD i cs.length]? with
        | none=>have:=List.getElem?_eq_none_iff.1 hc; omega
        | some c =>
         rw [hc] at h7;simp only at h7;rcases Nat.lt_or_ge (due.getD i cs.length) k with h8 | h8
         · have h9:=reachD_spec hcl _ c i h7 (by rw [h1 _ c hc,decide_eq_true h8]);rw [hL] at h9;cases h9
         · exact h8
     rcases hstep k L a w hkd hL hst hag hpre hdep with ⟨h3,h4⟩ | ⟨h3,h4,h5,h6⟩
     · exact .inl ⟨h3,fun K hK=>h4 K (fun v w' hr ho hs=>hK v w' hr ho (hC' v w' hs))⟩
     · exact .inr ⟨h3,h4,h5,hC' undef w h6⟩
    | some j =>
     rw [hf] at hstep;simp only at hstep;obtain ⟨hjl,hji,hjn⟩ := List.findIdx?_eq_some_iff_getElem.1 hf;have hji':cs[j]=i:=by simpa using hji
     have hcj:cs[j]?=some i:=by rw [List.getElem?_eq_getElem hjl,hji']
     obtain ⟨⟨o',ho',hpr⟩,hdup⟩ := chainB_spec (ops:=ops) hch hcj;rw [hio'] at ho';cases ho';have hkj:k=j:=by
      have h3:=h1 j i hcj;rw [hL] at h3;have h4:¬ j<k:=fun h=>by rw [decide_eq_true h] at h3; cases h3
      cases j with
      | zero=>omega
      | succ j' =>
       obtain ⟨c',hc',e,he,hb,hon⟩ := hpr j' rfl;have h5:=hpre e he hb;rw [hon,h1 j' c' hc'] at h5;have:=of_decide_eq_true h5;omega
     subst hkj;obtain ⟨h3,h4⟩ := hstep L a w hL hst hag hpre hdep;refine .inl ⟨h3,fun K hK=>h4 K (fun v w' hr hov hs=>hK v w' hr hov ⟨k+1,hjl,fun j2 c hc=>?_,hcl',hs⟩)⟩
     · unfold upd;by_cases hci:c=i
       · rw [if_pos hci];subst hci;have:j2=k:=by
          rcases Nat.lt_trichotomy j2 k with h | h | h
          · exact absurd hc (hdup j2 h)
          · exact h
          · exact absurd hcj ((chainB_spec (ops:=ops) hch hc).2 k h)
         subst this;exact (decide_eq_true (by omega)).symm
       · rw [if_neg hci,h1 j2 c hc];have:j2≠k:=fun e=>hci (by subst e; rw [hcj] at hc; cases hc; rfl)
         by_cases h:j2<k
         · rw [decide_eq_true h,decide_eq_true (by omega)]
         · rw [decide_eq_false h,decide_eq_false (by omega)]
   have go:∀ (l:List Oper) (k:Nat),(∀ i o,l[i]?=some o→OpStepA P ops Q base C R Ok (k+i) o)→EachOp (OpStepA P ops Q base C R Ok) k l:=by
    intro l
    induction l with
    | nil=>intro k _; trivial
    | cons o l ih =>
     intro k h;exact ⟨h 0 o rfl,ih (k+1) (fun i o' ho=>by have:=h (i+1) o' (by simpa using ho); rwa [show k+(i+1)=k+1+i by omega] at this)⟩
   exact go ops.toList 0 (fun i o h=>by rw [Nat.zero_add]; exact key i o h)
 · intro a w hC hag hok;obtain ⟨k,hk,h1,h2,hst⟩ := hC;have hkl:k=cs.length:=by
    rcases Nat.lt_or_ge k cs.length with h | h
    · have hck:cs[k]?=some cs[k]:=List.getElem?_eq_getElem h;have h3:=h1 k cs[k] hck;obtain ⟨⟨o,ho,-⟩,-⟩ := chainB_spec (ops:=ops) hch hck;have hlt:=(gSx.1 ho).1
      dsimp only at h3
      rw [decide_eq_true hlt,decide_eq_false (Nat.lt_irrefl k)] at h3;cases h3
    · omega
   subst hkl;exact hdone a w _ (fun i hi=>decide_eq_true hi) hst hag hok
end
end Go.Proofs.YtagolklnjhpbdaaDoor.R

namespace Go.Proofs.YtagolklnjhpbdaaDoor.K
open Go.RowKit Go.Proofs.YtagolklnjhpbdaaDoor.I
def UpO (W0:World) (R:List Ro) (L:Nat→Bool) (f:Nat→Value) (xa:Option Addr) (xn xc:Nat) (u:World):Prop :=
 ∃ us,OwnV 57 W0.heap.size (.slice xa xn xc) us u∧RowsV .i32 us R u∧∀ v ∈ us,∀ p o,v.a=some ⟨p,o,none⟩→W0.heap.size≤p∧p<u.heap.size∧(L 5=true→f 6≠.pointer (some ⟨p,0,none⟩))
structure UpS (W0:World) (sa sm:Sn) (ta:Option Addr) (tn tc:Nat) (k:Nat) (L:Nat→Bool) (f:Nat→Value) (u:World):Prop where
 b:Below W0.heap.size W0 u
 five:L 5=true→∃ b,f 6=.pointer (some ⟨b,0,none⟩)∧W0.heap.size≤b∧u.heap[b]?=some (.cells (if k≤1 then snA emptyN none 0 0 none 0 0 else snA sm none 0 0 ta tn tc) 25 (0,0))
 got:1≤k→∃ xa xn xc ya yn yc,f 14=.agg (snA sa xa xn xc ya yn yc)∧UpO W0 sa.R L f xa xn xc u∧(L 4=true→f 15=.slice xa xn xc)
 had:2≤k→L 5=true
 c3:L 3=decide (1≤k)
 c4:k=0→L 4=false
 fin:3≤k→∃ xa xn xc,f 7=.slice xa xn xc∧UpO W0 sa.R L f xa xn xc u
section
variable {W0:World} {sa sm:Sn} {ta:Option Addr} {tn tc k:Nat} {L L2:Nat→Bool} {f f2:Nat→Value} {u:World}
theorem UpS.start (hb:Below W0.heap.size W0 u) (h5:L 5=false:=by rfl) (h3:L 3=false:=by rfl) (h4:L 4=false:=by rfl):UpS W0 sa sm ta tn tc 0 L f u :=
 ⟨hb,(fun e=>by rw [h5] at e; cases e),(fun e=>by omega),(fun e=>by omega),h3,(fun _=>h4),fun e=>by omega⟩
theorem UpS.keep (e3:L2 3=L 3) (e5:L2 5=L 5) (e4:L2 4=L 4) (g6:f2 6=f 6) (g14:f2 14=f 14) (g15:f2 15=f 15) (g7:f2 7=f 7) (h:UpS W0 sa sm ta tn tc k L f u):UpS W0 sa sm ta tn tc k L2 f2 u:=by
 refine ⟨h.b,?_,?_,?_,by rw [e3]; exact h.c3,by rw [e4]; exact h.c4,?_⟩
 · rw [e5,g6]; exact h.five
 · have h1:=h.got;unfold UpO at h1 ⊢;rw [e5,e4,g6,g14,g15];exact h1
 · rw [e5]; exact h.had
 · have h1:=h.fin;unfold UpO at h1 ⊢;rw [e5,g6,g7];exact h1
theorem UpO.below {R:List Ro} {xa:Option Addr} {xn xc:Nat} {u':World} (h:UpO W0 R L f xa xn xc u) (hb:Below u.heap.size u u'):UpO W0 R L f xa xn xc u':=by
 obtain ⟨us,h1,h2,h3⟩ := h;exact ⟨us,h1.belowAll hb,h2.belowAll hb,fun v hv p o e=>⟨(h3 v hv p o e).1,Nat.lt_of_lt_of_le (h3 v hv p o e).2.1 hb.size,(h3 v hv p o e).2.2⟩⟩
theorem UpS.clone (h:UpS W0 sa sm ta tn tc 0 L f u) {ra:Option Addr} {rn rc:Nat} {ga:Option Addr} {gn gc:Nat} (hA:SnIn .i32 ra rn rc ga gn gc sa W0) (hB:SnB sa) :
    Calls Tryd.prog 75 #[.agg (snA sa ra rn rc ga gn gc)] u fun e w'=>∃ v,e=.returned v∧∀ f2:Nat→Value,f2 14=v→f2 6=f 6→UpS W0 sa sm ta tn tc 1 (Go.Proofs.YtagolklnjhpbdaaDoor.R.upd L 3) f2 w':=by
 refine (nclone_any sa ra rn rc ga gn gc u (hA.belowAll h.b) hB).mono ?_;rintro e w' ⟨xa,xn,xc,ya,yn,yc,rfl,hg,-,hb⟩;have hs:=h.b.size;refine ⟨_,rfl,fun f2 e14 e6=>⟨h.b.trans (hb.mono hs),fun hL=>?_,fun _=>⟨xa,xn,xc,ya,yn,yc,e14,?_,fun hL=>?_⟩,(fun e=>by omega),rfl,(fun e=>by omega),fun e=>by omega⟩⟩
 · obtain ⟨b,h1,h2,h3⟩ := h.five hL;exact ⟨b,e6.trans h1,h2,(hb.block b (gSx.1 h3).1).trans h3⟩
 · obtain ⟨us,g1,g2,g3⟩ := hg.ex;refine ⟨us,g1.weaken hs,g2,fun v hv p o e=>⟨Nat.le_trans hs (g3 v hv p o e).2.1,(g3 v hv p o e).2.2,fun hL e2=>?_⟩⟩;obtain ⟨b,h1,h2,h3⟩ := h.five hL;rw [e6,h1] at e2;have e3:b=p:=by injection e2 with e2; injection e2 with e2; injection e2
   have:=(gSx.1 h3).1;have:=(g3 v hv p o e).2.1;omega
 · have:L 4=true:=hL;rw [h.c4 rfl] at this;cases this
theorem UpS.alloc (hk:k≤1) (h5:L 5=false) (h:UpS W0 sa sm ta tn tc k L f u) (e6:f2 6=.pointer (some ⟨u.heap.size,0,none⟩)) (g14:f2 14=f 14) (g15:f2 15=f 15) :
    UpS W0 sa sm ta tn tc k (Go.Proofs.YtagolklnjhpbdaaDoor.R.upd L 5) f2 (u.alloc (.cells (snA emptyN none 0 0 none 0 0) 25)):=by
 have hb:Below u.heap.size u (u.alloc (.cells (snA emptyN none 0 0 none 0 0) 25)):=(Below.refl _ _).alloc (Nat.le_refl _) _;have hs:=h.b.size;refine ⟨h.b.trans (hb.mono hs),fun _=>⟨_,e6,hs,by rw [if_pos hk]; exact heap_alloc_new u _⟩,fun e=>?_,(fun _=>rfl),h.c3,h.c4,fun e=>by omega⟩;obtain ⟨xa,xn,xc,ya,yn,yc,h1,⟨us,g1,g2,g3⟩,h3⟩ := h.got e;refine ⟨xa,xn,xc,ya,yn,yc,g14.trans h1,⟨us,g1.belowAll hb,g2.belowAll hb,fun v hv p o e=>⟨(g3 v hv p o e).1,Nat.lt_of_lt_of_le (g3 v hv p o e).2.1 hb.size,fun _ e2=>?_⟩⟩,fun hL=>g15.trans (h3 hL)⟩;rw [e6] at e2;have e3:u.heap.size=p:=by injection e2 with e2; injection e2 with e2; injection e2
 have:=(g3 v hv p o e).2.1;omega
theorem UpS.field (hk:1≤k) (h:UpS W0 sa sm ta tn tc k L f u):∃ xa xn xc ya yn yc,f 14=.agg (snA sa xa xn xc ya yn yc)∧∀ f2:Nat→Value,f2 15=.slice xa xn xc→f2 6=f 6→f2 14=f 14→f2 7=f 7→UpS W0 sa sm ta tn tc k (Go.Proofs.YtagolklnjhpbdaaDoor.R.upd L 4) f2 u:=by
 obtain ⟨xa,xn,xc,ya,yn,yc,h1,h2,h3⟩ := h.got hk;refine ⟨xa,xn,xc,ya,yn,yc,h1,fun f2 e15 e6 e14 e7=>⟨h.b,?_,fun _=>⟨xa,xn,xc,ya,yn,yc,e14.trans h1,?_,fun _=>e15⟩,h.had,h.c3,(fun e=>by omega),?_⟩⟩
 · rw [e6]; exact h.five
 · unfold UpO at h2 ⊢;rw [e6];exact h2
 · have h4:=h.fin;unfold UpO at h4 ⊢;rw [e6,e7];exact h4
theorem UpS.store (h:UpS W0 sa sm ta tn tc 1 L f u) (hL:L 5=true):∃ b,f 6=.pointer (some ⟨b,0,none⟩)∧u.heap[b]?=some (.cells (snA emptyN none 0 0 none 0 0) 25 (0,0))∧∀ (f2:Nat→Value) (u':World),f2 6=f 6→f2 14=f 14→f2 15=f 15→u.grownBy u' (some b)→u'.heap[b]?=some (.cells (snA sm none 0 0 ta tn tc) 25 (0,0))→UpS W0 sa sm ta tn tc 2 (Go.Proofs.YtagolklnjhpbdaaDoor.R.upd L 6) f2 u':=by
 obtain ⟨b,h1,h2,h3⟩ := h.five hL;refine ⟨b,h1,h3,fun f2 u' e6 e14 e15 hg hz=>⟨h.b.grown hg h.b.size (fun q e=>by have:=Option.some.inj e; omega),fun _=>⟨b,e6.trans h1,h2,hz⟩,fun _=>?_,(fun _=>hL),h.c3,(fun e=>by omega),fun e=>by omega⟩⟩;obtain ⟨xa,xn,xc,ya,yn,yc,k1,⟨us,g1,g2,g3⟩,k3⟩ := h.got (Nat.le_refl _);refine ⟨xa,xn,xc,ya,yn,yc,e14.trans k1,⟨us,g1.kept hg (fun q hq e=>?_),g2.moved hg.size (fun v hv p o e hl=>hg.block p hl (fun e2=>?_)),fun v hv p o e=>⟨(g3 v hv p o e).1,Nat.lt_of_lt_of_le (g3 v hv p o e).2.1 hg.size,fun hL2=>by rw [e6]; exact (g3 v hv p o e).2.2 hL⟩⟩,fun hL4=>e15.trans (k3 hL4)⟩
 · obtain ⟨cs,k4,-⟩ := U.own_type g1 hq;have e9:b=q:=Option.some.inj e;rw [← e9,h3] at k4;injection k4 with k4
   injection k4 with _ k4
   revert k4
   decide
 · have e9:p=b:=Option.some.inj e2;rw [e9] at e;exact (g3 v hv b o e).2.2 hL h1
theorem UpS.assign (h:UpS W0 sa sm ta tn tc 2 L f u) (h4:L 4=true):∃ xa xn xc,f 15=.slice xa xn xc∧∀ f2:Nat→Value,f2 7=.slice xa xn xc→f2 6=f 6→f2 14=f 14→f2 15=f 15→UpS W0 sa sm ta tn tc 3 (Go.Proofs.YtagolklnjhpbdaaDoor.R.upd L 7) f2 u:=by
 obtain ⟨xa,xn,xc,ya,yn,yc,k1,k2,k3⟩ := h.got (by omega);refine ⟨xa,xn,xc,k3 h4,fun f2 e7 e6 e14 e15=>⟨h.b,fun _=>?_,fun _=>⟨xa,xn,xc,ya,yn,yc,e14.trans k1,?_,fun _=>e15.trans (k3 h4)⟩,(fun _=>h.had (Nat.le_refl _)),h.c3,(fun e=>by omega),fun _=>⟨xa,xn,xc,e7,?_⟩⟩⟩
 · obtain ⟨b,h1,h2,h3⟩ := h.five (h.had (Nat.le_refl _));exact ⟨b,e6.trans h1,h2,h3⟩
 · unfold UpO at k2 ⊢; rw [e6]; exact k2
 · unfold UpO at k2 ⊢; rw [e6]; exact k2
theorem UpS.done (h:UpS W0 sa sm ta tn tc 3 L f u):∃ X xa xn xc us,f 6=.pointer (some ⟨X,0,none⟩)∧f 7=.slice xa xn xc∧W0.heap.size≤X∧u.heap[X]?=some (.cells (snA sm none 0 0 ta tn tc) 25 (0,0))∧Below W0.heap.size W0 u∧RvsIn xa xn xc us u∧RowsV .i32 us sa.R u∧(∀ b o,xa=some ⟨b,o,none⟩→b≠X∧b<u.heap.size)∧∀ v ∈ us,∀ p o,v.a=some ⟨p,o,none⟩→p≠X∧p<u.heap.size∧W0.heap.size≤p:=by
 obtain ⟨X,h1,h2,h3⟩ := h.five (h.had (by omega));obtain ⟨xa,xn,xc,k1,us,g1,g2,g3⟩ := h.fin (Nat.le_refl _);obtain ⟨a',c',e,s1,s2,-⟩ := g1.shape;injection e with e1 e2 e3
 subst e1 e2 e3;refine ⟨X,xa,_,xc,us,h1,k1,h2,h3,h.b,s1,g2,fun b o e=>⟨fun e9=>?_,(s2 b o e).2.1⟩,fun v hv p o e=>⟨fun e9=>(g3 v hv p o e).2.2 (h.had (by omega)) (by rw [h1,e9]),(g3 v hv p o e).2.1,(g3 v hv p o e).1⟩⟩;subst e9;have ho:=(s2 b o e).2.2;subst ho;obtain ⟨cs,k4,-⟩ := U.own_type g1 (g:=b) (by rw [e]; rfl);rw [h3] at k4;injection k4 with k4
 injection k4 with _ k4
 revert k4
 decide
end
end Go.Proofs.YtagolklnjhpbdaaDoor.K

namespace Go.Proofs.YtagolklnjhpbdaaDoor.K
open Go.RowKit Go.Proofs.YtagolklnjhpbdaaDoor.I
set_option maxRecDepth 100000 in
set_option maxHeartbeats 16000000 in
theorem nrfempty_any (s:Sn) (ra:Option Addr) (rn rc:Nat) (ga:Option Addr) (gn gc:Nat) (w:World) (hrn:rn=s.R.length) (hgn:gn=s.B.length) (hr1:(rn:Int)≤1000000) (hg1:(gn:Int)≤1000000) :
    Calls Tryd.prog 42 #[.agg (snA s ra rn rc ga gn gc)] w fun e w'=>e=.returned (.bool (decide (s=emptyN)))∧Below w.heap.size w w':=by
 obtain ⟨rb,hrb⟩ : ∃ rb,w.heap.size=rb:=⟨_,rfl⟩;obtain ⟨D,hD⟩ : ∃ D,decide (s=emptyN)=D:=⟨_,rfl⟩;rw [hD];obtain ⟨P,hP⟩ : ∃ P:Ending→World→Prop,(fun e w'=>e=.returned (.bool D)∧Below w.heap.size w w')=P:=⟨_,rfl⟩;rw [hP];obtain ⟨w1,hw1⟩ : ∃ w1,w.alloc (.cells (snA s ra rn rc ga gn gc) 32)=w1:=⟨_,rfl⟩;have hb1:Below rb w w1:=by rw [← hw1,← hrb]; exact (Below.refl _ _).alloc (Nat.le_refl _) _
 have hA:w1.heap[rb]?=some (.cells (snA s ra rn rc ga gn gc) 32 (0,0)):=by rw [← hw1,← hrb]; exact heap_alloc_new w _
 have HEnd:Hid (∀ b,(s=emptyN↔b=true)→P (.returned (.bool b)) w1):=hDx (fun b hb=>by
  rw [← hP];have:D=b:=by rw [← hD]; cases b <;> simp_all
  rw [this];exact ⟨rfl,by rw [hrb]; exact hb1⟩)
 obtain ⟨c0,c1,c2,c3,c4,c5,c6,c7,c8,c9⟩ := ten_cells hA;clear hP hD hb1 hA;obtain ⟨k,W,h,x,y,t,R,n,c,B⟩ := s;unfold emptyN at HEnd;unfold snA at hw1 ⊢;simp only at hw1 hrn hgn c0 c1 c2 c3 c4 c5 c6 c7 c8 c9 ⊢;have HBad:Hid ((⟨k,W,h,x,y,t,R,n,c,B⟩ : Sn)≠⟨0,0,0,0,0,⟨#[]⟩,[],0,0,[]⟩→P (.returned (.bool false)) w1):=hDx (fun h=>HEnd.out false ⟨fun e=>absurd e h,fun e=>by cases e⟩);have HW1:=hDx hw1;have HRb:=hDx hrb;have HRn:=hDx hrn;have HGn:=hDx hgn;clear hw1 hrb hrn hgn
 go_enter Tryd.func42,Tryd.ntmps42
 go_upto_region 1 with fail
 rw [HW1.out,HRb.out];by_cases h_k:k=0
 rotate_left
 · have q:(k == 0)=false:=by rw [beq_eq_false_iff_ne]; exact h_k
   have hend:Hid (P (.returned (.bool false)) w1):=hDx (HBad.out (fun e=>h_k (congrArg Sn.k e)));clear h_k
   go_wp2_with fail
   exact hend.out
 have q_k:(k == 0)=true:=by rw [beq_iff_eq]; exact h_k
 by_cases h_W:W=0
 rotate_left
 · have q:(W == 0)=false:=by rw [beq_eq_false_iff_ne]; exact h_W
   have hend:Hid (P (.returned (.bool false)) w1):=hDx (HBad.out (fun e=>h_W (congrArg Sn.w e)));clear h_W
   go_wp2_with fail
   exact hend.out
 have q_W:(W == 0)=true:=by rw [beq_iff_eq]; exact h_W
 by_cases h_h:h=0
 rotate_left
 · have q:(h == 0)=false:=by rw [beq_eq_false_iff_ne]; exact h_h
   have hend:Hid (P (.returned (.bool false)) w1):=hDx (HBad.out (fun e=>h_h (congrArg Sn.h e)));clear h_h
   go_wp2_with fail
   exact hend.out
 have q_h:(h == 0)=true:=by rw [beq_iff_eq]; exact h_h
 by_cases h_x:x=0
 rotate_left
 · have q:(x == 0)=false:=by rw [beq_eq_false_iff_ne]; exact h_x
   have hend:Hid (P (.returned (.bool false)) w1):=hDx (HBad.out (fun e=>h_x (congrArg Sn.x e)));clear h_x
   go_wp2_with fail
   exact hend.out
 have q_x:(x == 0)=true:=by rw [beq_iff_eq]; exact h_x
 by_cases h_y:y=0
 rotate_left
 · have q:(y == 0)=false:=by rw [beq_eq_false_iff_ne]; exact h_y
   have hend:Hid (P (.returned (.bool false)) w1):=hDx (HBad.out (fun e=>h_y (congrArg Sn.y e)));clear h_y
   go_wp2_with fail
   exact hend.out
 have q_y:(y == 0)=true:=by rw [beq_iff_eq]; exact h_y
 by_cases h_t:t.data.toList=[]
 rotate_left
 · have q:(t.toList == ([]:List UInt8))=false:=by rw [ByteArray.toList_eq,beq_eq_false_iff_ne]; exact h_t
   have q2:(t.toList == (⟨#[]⟩ : ByteArray).toList)=false:=by rw [ByteArray.toList_eq,ByteArray.toList_eq,beq_eq_false_iff_ne]; exact h_t
   have hend:Hid (P (.returned (.bool false)) w1):=hDx (HBad.out (fun e=>h_t (by have h:=congrArg Sn.t e; simp only at h; rw [h])));clear h_t
   go_wp2_with fail
   exact hend.out
 obtain rfl:t=⟨#[]⟩ := bytes_eqN (by rw [h_t]);by_cases h_R:rn=0
 rotate_left
 · have q:((rn:Int) == 0)=false:=by rw [beq_eq_false_iff_ne]; omega
   have hend:Hid (P (.returned (.bool false)) w1):=hDx (HBad.out (fun e=>h_R (by have h:=congrArg Sn.R e; simp only at h; rw [HRn.out,h]; rfl)));clear h_R
   go_wp2_with fail
   exact hend.out
 have q_R:((rn:Int) == 0)=true:=by rw [beq_iff_eq]; omega
 by_cases h_n:n=0
 rotate_left
 · have q:(n == 0)=false:=by rw [beq_eq_false_iff_ne]; exact h_n
   have hend:Hid (P (.returned (.bool false)) w1):=hDx (HBad.out (fun e=>h_n (congrArg Sn.n e)));clear h_n
   go_wp2_with fail
   exact hend.out
 have q_n:(n == 0)=true:=by rw [beq_iff_eq]; exact h_n
 by_cases h_c:c=0
 rotate_left
 · have q:(c == 0)=false:=by rw [beq_eq_false_iff_ne]; exact h_c
   have hend:Hid (P (.returned (.bool false)) w1):=hDx (HBad.out (fun e=>h_c (congrArg Sn.c e)));clear h_c
   go_wp2_with fail
   exact hend.out
 have q_c:(c == 0)=true:=by rw [beq_iff_eq]; exact h_c
 by_cases h_B:gn=0
 rotate_left
 · have q:((gn:Int) == 0)=false:=by rw [beq_eq_false_iff_ne]; omega
   have hend:Hid (P (.returned (.bool false)) w1):=hDx (HBad.out (fun e=>h_B (by have h:=congrArg Sn.B e; simp only at h; rw [HGn.out,h]; rfl)));clear h_B
   go_wp2_with fail
   exact hend.out
 have q_B:((gn:Int) == 0)=true:=by rw [beq_iff_eq]; omega
 have hend:Hid (P (.returned (.bool true)) w1):=hDx (HEnd.out true ⟨fun _=>rfl,fun _=>by
  rw [h_k,h_W,h_h,h_x,h_y,h_n,h_c,List.eq_nil_of_length_eq_zero (show R.length=0 by have:=HRn.out; omega),List.eq_nil_of_length_eq_zero (show B.length=0 by have:=HGn.out; omega)]⟩)
 clear h_k h_W h_h h_x h_y h_n h_c h_R h_B h_t
 go_wp2_with fail
 exact hend.out
end Go.Proofs.YtagolklnjhpbdaaDoor.K
