import Derived.Test.YtagolklnjhpbdaaDoorMerged0
import Derived.Test.YtagolklnjhpbdaaDoorMerged22
import Derived.Test.YtagolklnjhpbdaaDoorMerged12
namespace Go.Proofs.YtagolklnjhpbdaaDoor.K
open Go.RowKit Go.Proofs.YtagolklnjhpbdaaDoor.I
theorem no_draw {x s:Int} (h:x<0∨1114111<x∨s<0∨647<s):¬ DrawC x s:=by unfold DrawC; omega
theorem no_okC {x s p:Int} (h:x<0∨1114111<x∨s<0∨647<s∨p<0∨3<p):¬ okC ⟨x,s,p⟩ := by unfold okC; simp only; omega
set_option maxRecDepth 100000 in
set_option maxHeartbeats 16000000 in
theorem nrfmay_any (s:Sn) (ra:Option Addr) (rn rc:Nat) (ga:Option Addr) (gn gc:Nat) (w:World) (hI:SnIn .i64 ra rn rc ga gn gc s w) (hB:SnB s) :
    Calls Tryd.prog 15 #[.agg (snA s ra rn rc ga gn gc)] w fun e w'=>e=.returned (.bool (decide (MayN s)))∧Below w.heap.size w w':=by
 obtain ⟨rb,hrb⟩ : ∃ rb,w.heap.size=rb:=⟨_,rfl⟩;obtain ⟨D,hD⟩ : ∃ D,decide (MayN s)=D:=⟨_,rfl⟩;rw [hD];obtain ⟨P,hP⟩ : ∃ P:Ending→World→Prop,(fun e w'=>e=.returned (.bool D)∧Below w.heap.size w w')=P:=⟨_,rfl⟩;rw [hP];obtain ⟨w1,hw1⟩ : ∃ w1,w.alloc (.cells (snA s ra rn rc ga gn gc) 32)=w1:=⟨_,rfl⟩;have hb1:Below rb w w1:=by rw [← hw1,← hrb]; exact (Below.refl _ _).alloc (Nat.le_refl _) _
 have hA:w1.heap[rb]?=some (.cells (snA s ra rn rc ga gn gc) 32 (0,0)):=by rw [← hw1,← hrb]; exact heap_alloc_new w _
 have HEnd:Hid (∀ b v,(MayN s↔b=true)→Below rb w v→P (.returned (.bool b)) v):=hDx (fun b v hb hv=>by
  rw [← hP];have:D=b:=by rw [← hD]; cases b <;> simp_all
  rw [this];exact ⟨rfl,by rw [hrb]; exact hv⟩)
 have hrn:=hI.rows.len;have hgn:=hI.beg.len;have hrx:=hI.rows.ex;have hgx:=hI.beg;have hll:=hB.cells;have hr1:=hB.rows;have hg1:=hB.beg;have KE:=hDx (nrfempty_any s ra rn rc ga gn gc w1 hrn hgn (by omega) (by omega));obtain ⟨c0,c1,c2,c3,c4,c5,c6,c7,c8,c9⟩ := ten_cells hA;have HA1:=hDx hA;have HB1:=hDx hb1;clear hP hD hb1 hA hI hB;have HRx:=hDx hrx;have HGx:=hDx hgx;have HLl:=hDx hll;have hrI:(rn:Int)≤1000000:=by omega
 have hgI:(gn:Int)≤1000000:=by omega
 clear hrx hgx hll hr1 hg1;have HMay:Hid (s≠emptyN→(MayN s↔Stands s∧Counts s∧Shows s∧Begins s)):=hDx (fun h=>⟨fun e=>e.resolve_left h,fun e=>.inr e⟩);have HEm:Hid (s=emptyN→MayN s):=hDx (fun h=>.inl h);by_cases hem:s=emptyN
 · rw [decide_eq_true hem] at KE;have HE2:=hDx (HEm.out hem);obtain ⟨k,W,h,x,y,t,R,n,c,B⟩ := s;unfold snA at hw1 HA1 KE ⊢;simp only at hw1 c0 c1 c2 c3 c4 c5 c6 c7 c8 c9 ⊢;have HW1:=hDx hw1;have HRb:=hDx hrb;clear hw1 hrb hrn hgn hem
   go_enter Tryd.func15,Tryd.ntmps15
   go_upto_region 1 with fail
   rw [HW1.out,HRb.out]
   go_wp2_with fail
   refine KE.out.mono ?_;rintro e w2 ⟨rfl,hb2⟩;have hend:Hid (P (.returned (.bool true)) w2):=hDx (HEnd.out true w2 ⟨fun _=>rfl,fun _=>HE2.out⟩ (HB1.out.trans (hb2.mono HB1.out.size |>.mono (by have:=HRb.out; have:=HB1.out.size; omega))));clear hb2
   go_wp2_with fail
   exact hend.out
 rw [decide_eq_false hem] at KE;have hmy:=HMay.out hem;obtain ⟨k,W,h,x,y,t,R,n,c,B⟩ := s;have HBad:Hid (¬ (Stands ⟨k,W,h,x,y,t,R,n,c,B⟩∧Counts ⟨k,W,h,x,y,t,R,n,c,B⟩∧Shows ⟨k,W,h,x,y,t,R,n,c,B⟩∧Begins ⟨k,W,h,x,y,t,R,n,c,B⟩)→∀ v,Below rb w v→P (.returned (.bool false)) v):=hDx (fun hno v hv=>HEnd.out false v ⟨fun e=>absurd (hmy.1 e) hno,fun e=>by cases e⟩ hv);have HGood:Hid ((Stands ⟨k,W,h,x,y,t,R,n,c,B⟩∧Counts ⟨k,W,h,x,y,t,R,n,c,B⟩∧Shows ⟨k,W,h,x,y,t,R,n,c,B⟩∧Begins ⟨k,W,h,x,y,t,R,n,c,B⟩)→∀ v,Below rb w v→P (.returned (.bool true)) v):=hDx (fun hyes v hv=>HEnd.out true v ⟨fun _=>rfl,fun _=>hmy.2 hyes⟩ hv);unfold snA at hw1 HA1 KE ⊢;simp only at hw1 hrn hgn c0 c1 c2 c3 c4 c5 c6 c7 c8 c9 ⊢;have HW1:=hDx hw1;have HRb:=hDx hrb;have HRn:=hDx hrn;have HGn:=hDx hgn;clear hw1 hrb hem hmy hrn hgn
 go_enter Tryd.func15,Tryd.ntmps15
 go_upto_region 1 with fail
 rw [HW1.out,HRb.out]
 go_wp2_with fail
 refine KE.out.mono ?_;rintro e w2 ⟨rfl,hb2⟩;have hA2:=(hb2.block rb (gSx.1 HA1.out).1).trans HA1.out;have hB2:Below rb w w2:=HB1.out.trans (hb2.mono (by have:=(gSx.1 HA1.out).1; omega));clear c0 c1 c2 c3 c4 c5 c6 c7 c8 c9 hb2;have HB2:=hDx hB2;have HA2:=hDx hA2;obtain ⟨c0,c1,c2,c3,c4,c5,c6,c7,c8,c9⟩ := ten_cells (s:=⟨k,W,h,x,y,t,R,n,c,B⟩) hA2;simp only at c0 c1 c2 c3 c4 c5 c6 c7 c8 c9;have HS2:Hid (ShI rb (.slice ra rn rc) W w w2):=hDx ⟨hB2,c6,c1,(gSx.1 hA2).1⟩;clear hB2 hA2;by_cases h_a:k<1
 · have hend:Hid (P (.returned (.bool false)) w2):=hDx (HBad.out (fun hh=>by
    obtain ⟨h1,h2,h3,h4⟩ := hh;unfold Stands at h1;unfold Counts at h2;unfold Shows at h3;unfold Begins at h4;simp only at h1 h2 h3 h4;obtain ⟨h3,-⟩ := h3;obtain ⟨-,h4⟩ := h4;have e1:=HRn.out;have e2:=HGn.out;omega) w2 HB2.out)
   have qa1:(decide (k<1))=true:=by rw [decide_eq_true_iff]; omega
   have qa2:(decide (1 > k))=true:=by rw [decide_eq_true_iff]; omega
   clear h_a
   go_wp2_with fail
   exact hend.out
 have qa1:(decide (k<1))=false:=by rw [decide_eq_false_iff_not]; omega
 have qa2:(decide (1 > k))=false:=by rw [decide_eq_false_iff_not]; omega
 by_cases h_b:1152921504606846976<k
 · have hend:Hid (P (.returned (.bool false)) w2):=hDx (HBad.out (fun hh=>by
    obtain ⟨h1,h2,h3,h4⟩ := hh;unfold Stands at h1;unfold Counts at h2;unfold Shows at h3;unfold Begins at h4;simp only at h1 h2 h3 h4;obtain ⟨h3,-⟩ := h3;obtain ⟨-,h4⟩ := h4;have e1:=HRn.out;have e2:=HGn.out;omega) w2 HB2.out)
   have qb1:(decide (1152921504606846976<k))=true:=by rw [decide_eq_true_iff]; omega
   have qb2:(decide (k > 1152921504606846976))=true:=by rw [decide_eq_true_iff]; omega
   clear h_b
   go_wp2_with fail
   exact hend.out
 have qb1:(decide (1152921504606846976<k))=false:=by rw [decide_eq_false_iff_not]; omega
 have qb2:(decide (k > 1152921504606846976))=false:=by rw [decide_eq_false_iff_not]; omega
 by_cases h_c:W<1
 · have hend:Hid (P (.returned (.bool false)) w2):=hDx (HBad.out (fun hh=>by
    obtain ⟨h1,h2,h3,h4⟩ := hh;unfold Stands at h1;unfold Counts at h2;unfold Shows at h3;unfold Begins at h4;simp only at h1 h2 h3 h4;obtain ⟨h3,-⟩ := h3;obtain ⟨-,h4⟩ := h4;have e1:=HRn.out;have e2:=HGn.out;omega) w2 HB2.out)
   have qc1:(decide (W<1))=true:=by rw [decide_eq_true_iff]; omega
   have qc2:(decide (1 > W))=true:=by rw [decide_eq_true_iff]; omega
   clear h_c
   go_wp2_with fail
   exact hend.out
 have qc1:(decide (W<1))=false:=by rw [decide_eq_false_iff_not]; omega
 have qc2:(decide (1 > W))=false:=by rw [decide_eq_false_iff_not]; omega
 by_cases h_d:1000<W
 · have hend:Hid (P (.returned (.bool false)) w2):=hDx (HBad.out (fun hh=>by
    obtain ⟨h1,h2,h3,h4⟩ := hh;unfold Stands at h1;unfold Counts at h2;unfold Shows at h3;unfold Begins at h4;simp only at h1 h2 h3 h4;obtain ⟨h3,-⟩ := h3;obtain ⟨-,h4⟩ := h4;have e1:=HRn.out;have e2:=HGn.out;omega) w2 HB2.out)
   have qd1:(decide (1000<W))=true:=by rw [decide_eq_true_iff]; omega
   have qd2:(decide (W > 1000))=true:=by rw [decide_eq_true_iff]; omega
   clear h_d
   go_wp2_with fail
   exact hend.out
 have qd1:(decide (1000<W))=false:=by rw [decide_eq_false_iff_not]; omega
 have qd2:(decide (W > 1000))=false:=by rw [decide_eq_false_iff_not]; omega
 by_cases h_e:h<1
 · have hend:Hid (P (.returned (.bool false)) w2):=hDx (HBad.out (fun hh=>by
    obtain ⟨h1,h2,h3,h4⟩ := hh;unfold Stands at h1;unfold Counts at h2;unfold Shows at h3;unfold Begins at h4;simp only at h1 h2 h3 h4;obtain ⟨h3,-⟩ := h3;obtain ⟨-,h4⟩ := h4;have e1:=HRn.out;have e2:=HGn.out;omega) w2 HB2.out)
   have qe1:(decide (h<1))=true:=by rw [decide_eq_true_iff]; omega
   have qe2:(decide (1 > h))=true:=by rw [decide_eq_true_iff]; omega
   clear h_e
   go_wp2_with fail
   exact hend.out
 have qe1:(decide (h<1))=false:=by rw [decide_eq_false_iff_not]; omega
 have qe2:(decide (1 > h))=false:=by rw [decide_eq_false_iff_not]; omega
 by_cases h_f:1000<h
 · have hend:Hid (P (.returned (.bool false)) w2):=hDx (HBad.out (fun hh=>by
    obtain ⟨h1,h2,h3,h4⟩ := hh;unfold Stands at h1;unfold Counts at h2;unfold Shows at h3;unfold Begins at h4;simp only at h1 h2 h3 h4;obtain ⟨h3,-⟩ := h3;obtain ⟨-,h4⟩ := h4;have e1:=HRn.out;have e2:=HGn.out;omega) w2 HB2.out)
   have qf1:(decide (1000<h))=true:=by rw [decide_eq_true_iff]; omega
   have qf2:(decide (h > 1000))=true:=by rw [decide_eq_true_iff]; omega
   clear h_f
   go_wp2_with fail
   exact hend.out
 have qf1:(decide (1000<h))=false:=by rw [decide_eq_false_iff_not]; omega
 have qf2:(decide (h > 1000))=false:=by rw [decide_eq_false_iff_not]; omega
 by_cases h_g:x<0
 · have hend:Hid (P (.returned (.bool false)) w2):=hDx (HBad.out (fun hh=>by
    obtain ⟨h1,h2,h3,h4⟩ := hh;unfold Stands at h1;unfold Counts at h2;unfold Shows at h3;unfold Begins at h4;simp only at h1 h2 h3 h4;obtain ⟨h3,-⟩ := h3;obtain ⟨-,h4⟩ := h4;have e1:=HRn.out;have e2:=HGn.out;omega) w2 HB2.out)
   have qg1:(decide (x<0))=true:=by rw [decide_eq_true_iff]; omega
   have qg2:(decide (0 > x))=true:=by rw [decide_eq_true_iff]; omega
   clear h_g
   go_wp2_with fail
   exact hend.out
 have qg1:(decide (x<0))=false:=by rw [decide_eq_false_iff_not]; omega
 have qg2:(decide (0 > x))=false:=by rw [decide_eq_false_iff_not]; omega
 by_cases h_i:W≤x
 · have hend:Hid (P (.returned (.bool false)) w2):=hDx (HBad.out (fun hh=>by
    obtain ⟨h1,h2,h3,h4⟩ := hh;unfold Stands at h1;unfold Counts at h2;unfold Shows at h3;unfold Begins at h4;simp only at h1 h2 h3 h4;obtain ⟨h3,-⟩ := h3;obtain ⟨-,h4⟩ := h4;have e1:=HRn.out;have e2:=HGn.out;omega) w2 HB2.out)
   have qi1:(decide (x≥W))=true:=by rw [decide_eq_true_iff]; omega
   have qi2:(decide (W≤x))=true:=by rw [decide_eq_true_iff]; omega
   clear h_i
   go_wp2_with fail
   exact hend.out
 have qi1:(decide (x≥W))=false:=by rw [decide_eq_false_iff_not]; omega
 have qi2:(decide (W≤x))=false:=by rw [decide_eq_false_iff_not]; omega
 by_cases h_j:y<0
 · have hend:Hid (P (.returned (.bool false)) w2):=hDx (HBad.out (fun hh=>by
    obtain ⟨h1,h2,h3,h4⟩ := hh;unfold Stands at h1;unfold Counts at h2;unfold Shows at h3;unfold Begins at h4;simp only at h1 h2 h3 h4;obtain ⟨h3,-⟩ := h3;obtain ⟨-,h4⟩ := h4;have e1:=HRn.out;have e2:=HGn.out;omega) w2 HB2.out)
   have qj1:(decide (y<0))=true:=by rw [decide_eq_true_iff]; omega
   have qj2:(decide (0 > y))=true:=by rw [decide_eq_true_iff]; omega
   clear h_j
   go_wp2_with fail
   exact hend.out
 have qj1:(decide (y<0))=false:=by rw [decide_eq_false_iff_not]; omega
 have qj2:(decide (0 > y))=false:=by rw [decide_eq_false_iff_not]; omega
 by_cases h_l:h≤y
 · have hend:Hid (P (.returned (.bool false)) w2):=hDx (HBad.out (fun hh=>by
    obtain ⟨h1,h2,h3,h4⟩ := hh;unfold Stands at h1;unfold Counts at h2;unfold Shows at h3;unfold Begins at h4;simp only at h1 h2 h3 h4;obtain ⟨h3,-⟩ := h3;obtain ⟨-,h4⟩ := h4;have e1:=HRn.out;have e2:=HGn.out;omega) w2 HB2.out)
   have ql1:(decide (y≥h))=true:=by rw [decide_eq_true_iff]; omega
   have ql2:(decide (h≤y))=true:=by rw [decide_eq_true_iff]; omega
   clear h_l
   go_wp2_with fail
   exact hend.out
 have ql1:(decide (y≥h))=false:=by rw [decide_eq_false_iff_not]; omega
 have ql2:(decide (h≤y))=false:=by rw [decide_eq_false_iff_not]; omega
 by_cases h_m:(rn:Int)≠h
 · have hend:Hid (P (.returned (.bool false)) w2):=hDx (HBad.out (fun hh=>by
    obtain ⟨h1,h2,h3,h4⟩ := hh;unfold Stands at h1;unfold Counts at h2;unfold Shows at h3;unfold Begins at h4;simp only at h1 h2 h3 h4;obtain ⟨h3,-⟩ := h3;obtain ⟨-,h4⟩ := h4;have e1:=HRn.out;have e2:=HGn.out;omega) w2 HB2.out)
   have qm1:((rn:Int) != h)=true:=by rw [bne_iff_ne]; exact h_m
   clear h_m
   go_wp2_with fail
   exact hend.out
 have qm1:((rn:Int) != h)=false:=by rw [bne_eq_false_iff_eq]; omega
 by_cases h_o:(200:Int)<t.size
 · have hend:Hid (P (.returned (.bool false)) w2):=hDx (HBad.out (fun hh=>by
    obtain ⟨h1,h2,h3,h4⟩ := hh;unfold Stands at h1;unfold Counts at h2;unfold Shows at h3;unfold Begins at h4;simp only at h1 h2 h3 h4;obtain ⟨h3,-⟩ := h3;obtain ⟨-,h4⟩ := h4;have e1:=HRn.out;have e2:=HGn.out;omega) w2 HB2.out)
   have qo1:(decide ((200:Int)<(t.size:Int)))=true:=by rw [decide_eq_true_iff]; omega
   have qo2:(decide ((t.size:Int) > (200:Int)))=true:=by rw [decide_eq_true_iff]; omega
   have qo3:(decide (200<t.size))=true:=by rw [decide_eq_true_iff]; omega
   clear h_o
   go_wp2_with fail
   exact hend.out
 have qo1:(decide ((200:Int)<(t.size:Int)))=false:=by rw [decide_eq_false_iff_not]; omega
 have qo2:(decide ((t.size:Int) > (200:Int)))=false:=by rw [decide_eq_false_iff_not]; omega
 have qo3:(decide (200<t.size))=false:=by rw [decide_eq_false_iff_not]; omega
 by_cases h_p:n<0
 · have hend:Hid (P (.returned (.bool false)) w2):=hDx (HBad.out (fun hh=>by
    obtain ⟨h1,h2,h3,h4⟩ := hh;unfold Stands at h1;unfold Counts at h2;unfold Shows at h3;unfold Begins at h4;simp only at h1 h2 h3 h4;obtain ⟨h3,-⟩ := h3;obtain ⟨-,h4⟩ := h4;have e1:=HRn.out;have e2:=HGn.out;omega) w2 HB2.out)
   have qp1:(decide (n<0))=true:=by rw [decide_eq_true_iff]; omega
   have qp2:(decide (0 > n))=true:=by rw [decide_eq_true_iff]; omega
   clear h_p
   go_wp2_with fail
   exact hend.out
 have qp1:(decide (n<0))=false:=by rw [decide_eq_false_iff_not]; omega
 have qp2:(decide (0 > n))=false:=by rw [decide_eq_false_iff_not]; omega
 by_cases h_q:1152921504606846976<n
 · have hend:Hid (P (.returned (.bool false)) w2):=hDx (HBad.out (fun hh=>by
    obtain ⟨h1,h2,h3,h4⟩ := hh;unfold Stands at h1;unfold Counts at h2;unfold Shows at h3;unfold Begins at h4;simp only at h1 h2 h3 h4;obtain ⟨h3,-⟩ := h3;obtain ⟨-,h4⟩ := h4;have e1:=HRn.out;have e2:=HGn.out;omega) w2 HB2.out)
   have qq1:(decide (1152921504606846976<n))=true:=by rw [decide_eq_true_iff]; omega
   have qq2:(decide (n > 1152921504606846976))=true:=by rw [decide_eq_true_iff]; omega
   clear h_q
   go_wp2_with fail
   exact hend.out
 have qq1:(decide (1152921504606846976<n))=false:=by rw [decide_eq_false_iff_not]; omega
 have qq2:(decide (n > 1152921504606846976))=false:=by rw [decide_eq_false_iff_not]; omega
 by_cases h_r:c<0
 · have hend:Hid (P (.returned (.bool false)) w2):=hDx (HBad.out (fun hh=>by
    obtain ⟨h1,h2,h3,h4⟩ := hh;unfold Stands at h1;unfold Counts at h2;unfold Shows at h3;unfold Begins at h4;simp only at h1 h2 h3 h4;obtain ⟨h3,-⟩ := h3;obtain ⟨-,h4⟩ := h4;have e1:=HRn.out;have e2:=HGn.out;omega) w2 HB2.out)
   have qr1:(decide (c<0))=true:=by rw [decide_eq_true_iff]; omega
   have qr2:(decide (0 > c))=true:=by rw [decide_eq_true_iff]; omega
   clear h_r
   go_wp2_with fail
   exact hend.out
 have qr1:(decide (c<0))=false:=by rw [decide_eq_false_iff_not]; omega
 have qr2:(decide (0 > c))=false:=by rw [decide_eq_false_iff_not]; omega
 by_cases h_s:281474976710656<c
 · have hend:Hid (P (.returned (.bool false)) w2):=hDx (HBad.out (fun hh=>by
    obtain ⟨h1,h2,h3,h4⟩ := hh;unfold Stands at h1;unfold Counts at h2;unfold Shows at h3;unfold Begins at h4;simp only at h1 h2 h3 h4;obtain ⟨h3,-⟩ := h3;obtain ⟨-,h4⟩ := h4;have e1:=HRn.out;have e2:=HGn.out;omega) w2 HB2.out)
   have qs1:(decide (281474976710656<c))=true:=by rw [decide_eq_true_iff]; omega
   have qs2:(decide (c > 281474976710656))=true:=by rw [decide_eq_true_iff]; omega
   clear h_s
   go_wp2_with fail
   exact hend.out
 have qs1:(decide (281474976710656<c))=false:=by rw [decide_eq_false_iff_not]; omega
 have qs2:(decide (c > 281474976710656))=false:=by rw [decide_eq_false_iff_not]; omega
 by_cases h_u:(1024:Int)<gn
 · have hend:Hid (P (.returned (.bool false)) w2):=hDx (HBad.out (fun hh=>by
    obtain ⟨h1,h2,h3,h4⟩ := hh;unfold Stands at h1;unfold Counts at h2;unfold Shows at h3;unfold Begins at h4;simp only at h1 h2 h3 h4;obtain ⟨h3,-⟩ := h3;obtain ⟨-,h4⟩ := h4;have e1:=HRn.out;have e2:=HGn.out;omega) w2 HB2.out)
   have qu1:(decide ((1024:Int)<(gn:Int)))=true:=by rw [decide_eq_true_iff]; omega
   have qu2:(decide ((gn:Int) > (1024:Int)))=true:=by rw [decide_eq_true_iff]; omega
   have qu3:(decide (1024<gn))=true:=by rw [decide_eq_true_iff]; omega
   clear h_u
   go_wp2_with fail
   exact hend.out
 have qu1:(decide ((1024:Int)<(gn:Int)))=false:=by rw [decide_eq_false_iff_not]; omega
 have qu2:(decide ((gn:Int) > (1024:Int)))=false:=by rw [decide_eq_false_iff_not]; omega
 have qu3:(decide (1024<gn))=false:=by rw [decide_eq_false_iff_not]; omega
 have HOk:Hid (Stands ⟨k,W,h,x,y,t,R,n,c,B⟩∧Counts ⟨k,W,h,x,y,t,R,n,c,B⟩∧(R.length:Int)=h∧B.length≤1024):=hDx (by
  have e1:=HRn.out;have e2:=HGn.out;unfold Stands Counts;simp only;omega)
 clear h_a h_b h_c h_d h_e h_f h_g h_i h_j h_l h_m h_o h_p h_q h_r h_s h_u
 go_upto_region 7 with fail
 clear qa1 qa2 qb1 qb2 qc1 qc2 qd1 qd2 qe1 qe2 qf1 qf2 qg1 qg2 qi1 qi2 qj1 qj2 ql1 ql2 qm1 qo1 qo2 qo3 qp1 qp2 qq1 qq2 qr1 qr2 qs1 qs2 qu1 qu2 qu3 c0 c1 c2 c3 c4 c5 c6 c7 c8
 go_wp2_with fail
 clear c9
 go_loopw [104] (fun i wr=>∃ j:Nat,i=.int .i64 (j:Int)∧j≤gn∧Hid ((∀ g ∈ B.take j,DrawC g.1 g.2)∧ShI rb (.slice ra rn rc) W w wr)) (fun i _=>gn - (intOf i).toNat)
 case atStart=>exact ⟨0,rfl,Nat.zero_le _,hDx ⟨by simp,HS2.out⟩⟩
 case round =>
  obtain ⟨j,rfl,hj,HF⟩ := hrel;by_cases hlt:j<gn
  · have hd:decide (j<gn)=true:=decide_eq_true hlt;have hjI:(j:Int)<gn:=by omega
    have hjl:j<B.length:=by rw [← HGn.out]; exact hlt
    obtain ⟨b,off,rfl,hbl,hAt⟩ := HGx.out.at_.resolve_left (by intro e; (try simp only at e); rw [e] at hjl; simp at hjl);have hat:=hAt j B[j] (List.getElem?_eq_getElem hjl);have htk:=take_all (fun g:Int × Int=>DrawC g.1 g.2) B j hjl HF.out.1;have hmem:=List.getElem_mem hjl;obtain ⟨⟨gx,gs⟩,hx⟩ : ∃ g,B[j]=g:=⟨_,rfl⟩;rw [hx] at hat htk hmem;simp only at hat htk;have hbr:b<rb:=by rw [← HRb.out]; exact hbl
    have k0:wr.cell? ⟨b,off+j*2,none⟩=some (.int .i64 gx):=(HF.out.2.b.cell (p:=⟨b,off+j*2,none⟩) hbr).trans hat.1;have k1:wr.cell? ⟨b,off+j*2+1,none⟩=some (.int .i64 gs):=(HF.out.2.b.cell (p:=⟨b,off+j*2+1,none⟩) hbr).trans hat.2;obtain ⟨gb,hgb⟩ : ∃ gb,wr.heap.size=gb:=⟨_,rfl⟩;obtain ⟨w5,hw5⟩ : ∃ w5,wr.alloc (.cells #[.int .i64 gx,.int .i64 gs] 85)=w5:=⟨_,rfl⟩;have hnew:w5.heap[gb]?=some (.cells #[.int .i64 gx,.int .i64 gs] 85 (0,0)):=by rw [← hw5,← hgb]; exact heap_alloc_new wr _
    have m0:w5.cell? ⟨gb,0,none⟩=some (.int .i64 gx):=by rw [cell_block hnew]; rfl
    have m1:w5.cell? ⟨gb,1,none⟩=some (.int .i64 gs):=by rw [cell_block hnew]; rfl
    have hb5:Below wr.heap.size wr w5:=by rw [← hw5]; exact (Below.refl _ _).alloc (Nat.le_refl _) _
    have HS5:=hDx (HF.out.2.below hb5);have HW5:=hDx hw5;have HGb:=hDx hgb;have HTk:=hDx htk;have hbad:Hid (¬ DrawC gx gs→P (.returned (.bool false)) w5):=hDx (fun hno=>HBad.out (fun hh=>hno (hh.2.2.2.1 _ hmem)) w5 HS5.out.b);clear hjl hAt hat htk hmem hx hbl hbr hgb hw5 hnew hb5 HF
    go_upto_region 10 with fail
    rw [HW5.out,HGb.out];clear k0 k1;by_cases g_a:gx<0
    · have hend:Hid (P (.returned (.bool false)) w5):=hDx (hbad.out (no_draw (by omega)));have pa1:(decide (gx<0))=true:=by rw [decide_eq_true_iff]; omega
      have pa2:(decide (0 > gx))=true:=by rw [decide_eq_true_iff]; omega
      clear g_a
      go_wp2_with fail
      exact hend.out
    have pa1:(decide (gx<0))=false:=by rw [decide_eq_false_iff_not]; omega
    have pa2:(decide (0 > gx))=false:=by rw [decide_eq_false_iff_not]; omega
    by_cases g_b:1114111<gx
    · have hend:Hid (P (.returned (.bool false)) w5):=hDx (hbad.out (no_draw (by omega)));have pb1:(decide (1114111<gx))=true:=by rw [decide_eq_true_iff]; omega
      have pb2:(decide (gx > 1114111))=true:=by rw [decide_eq_true_iff]; omega
      clear g_b
      go_wp2_with fail
      exact hend.out
    have pb1:(decide (1114111<gx))=false:=by rw [decide_eq_false_iff_not]; omega
    have pb2:(decide (gx > 1114111))=false:=by rw [decide_eq_false_iff_not]; omega
    by_cases g_c:gs<0
    · have hend:Hid (P (.returned (.bool false)) w5):=hDx (hbad.out (no_draw (by omega)));have pc1:(decide (gs<0))=true:=by rw [decide_eq_true_iff]; omega
      have pc2:(decide (0 > gs))=true:=by rw [decide_eq_true_iff]; omega
      clear g_c
      go_wp2_with fail
      exact hend.out
    have pc1:(decide (gs<0))=false:=by rw [decide_eq_false_iff_not]; omega
    have pc2:(decide (0 > gs))=false:=by rw [decide_eq_false_iff_not]; omega
    by_cases g_d:647<gs
    · have hend:Hid (P (.returned (.bool false)) w5):=hDx (hbad.out (no_draw (by omega)));have pd1:(decide (647<gs))=true:=by rw [decide_eq_true_iff]; omega
      have pd2:(decide (gs > 647))=true:=by rw [decide_eq_true_iff]; omega
      clear g_d
      go_wp2_with fail
      exact hend.out
    have pd1:(decide (647<gs))=false:=by rw [decide_eq_false_iff_not]; omega
    have pd2:(decide (gs > 647))=false:=by rw [decide_eq_false_iff_not]; omega
    have HE:Hid ((∀ g ∈ B.take (j+1),DrawC g.1 g.2)∧ShI rb (.slice ra rn rc) W w w5):=hDx ⟨HTk.out (by unfold DrawC; omega),HS5.out⟩;clear g_a g_b g_c g_d
    go_wp2_with fail
    go_roundw
    case rel=>exact ⟨j+1,by go_num,by omega,HE⟩
    case measure=>simp [intOf]; omega
  · obtain rfl:j=gn:=by omega
    have hd:decide (j<j)=false:=by simp
    have HBg:Hid (∀ g ∈ B,DrawC g.1 g.2):=hDx (by have:=HF.out.1; rw [HGn.out,List.take_length] at this; exact this);have HS3:=hDx HF.out.2;have c6:=HS3.out.c6;clear HF hlt
    go_upto_region 13 with fail
    clear hd
    go_wp2_with fail
    clear c6
    go_loopw [130] (fun i wr=>∃ j:Nat,i=.int .i64 (j:Int)∧j≤rn∧Hid ((∀ r ∈ R.take j,RowOk W r)∧ShI rb (.slice ra rn rc) W w wr)) (fun i _=>rn - (intOf i).toNat)
    case atStart=>exact ⟨0,rfl,Nat.zero_le _,hDx ⟨by simp,HS3.out⟩⟩
    case round =>
     obtain ⟨j2,rfl,hj2,HF⟩ := hrel;by_cases hlt:j2<rn
     · have hd:decide (j2<rn)=true:=decide_eq_true hlt;have hjI:(j2:Int)<rn:=by omega
       have hjl:j2<R.length:=by rw [← HRn.out]; exact hlt
       obtain ⟨us0,hin,hrv,-⟩ := HRx.out;have hju:j2<us0.length:=by rw [hrv.1]; exact hjl
       obtain ⟨ab,ao,rfl,hab,hAt⟩ := hin.at_.resolve_left (by intro e; rw [e] at hju; simp at hju);have hat:=hAt j2 us0[j2] (List.getElem?_eq_getElem hju);have hrj:=hrv.2 j2 us0[j2] R[j2] (List.getElem?_eq_getElem hju) (List.getElem?_eq_getElem hjl);have htk:=take_all (RowOk W) R j2 hjl HF.out.1;have hll:=HLl.out R[j2] (List.getElem_mem hjl);have hmem:=List.getElem_mem hjl;obtain ⟨⟨xa,xn,xc,xb⟩,hu⟩ : ∃ u,us0[j2]=u:=⟨_,rfl⟩;obtain ⟨r,hre⟩ : ∃ r,R[j2]=r:=⟨_,rfl⟩;rw [hu] at hat hrj;rw [hre] at hrj htk hll hmem;unfold Rv.val at hrj;simp only at hrj hat;obtain ⟨hxb,hcl,hnl,hft,htp,hxl⟩ := hrj.of;have hab':ab<rb:=by rw [← HRb.out]; exact hab
       have k0:wr.cell? ⟨ab,ao+j2*2,none⟩=some (.slice xa xn xc):=(HF.out.2.b.cell (p:=⟨ab,ao+j2*2,none⟩) hab').trans hat.1;have k1:wr.cell? ⟨ab,ao+j2*2+1,none⟩=some (.bool xb):=(HF.out.2.b.cell (p:=⟨ab,ao+j2*2+1,none⟩) hab').trans hat.2;obtain ⟨gb,hgb⟩ : ∃ gb,wr.heap.size=gb:=⟨_,rfl⟩;obtain ⟨w5,hw5⟩ : ∃ w5,wr.alloc (.cells #[.slice xa xn xc,.bool xb] 63)=w5:=⟨_,rfl⟩;have hnew:w5.heap[gb]?=some (.cells #[.slice xa xn xc,.bool xb] 63 (0,0)):=by rw [← hw5,← hgb]; exact heap_alloc_new wr _
       have m0:w5.cell? ⟨gb,0,none⟩=some (.slice xa xn xc):=by rw [cell_block hnew]; rfl
       have hb5:Below wr.heap.size wr w5:=by rw [← hw5]; exact (Below.refl _ _).alloc (Nat.le_refl _) _
       have hs5:=HF.out.2.below hb5;have n1:=hs5.c1;have HW5:=hDx hw5;have HGb:=hDx hgb;have HTk:=hDx htk;have HS5:=hDx hs5;have HCl:=hDx hcl;have HMem:=hDx hmem;have HXl:=hDx hxl;have hxI:(xn:Int)≤1000000:=by omega
       clear hjl hin hrv hju hAt hat hrj htk hu hre hcl hnl hft htp hxl hxb hab hgb hw5 hnew hb5 hs5 hll hmem hab' HF;by_cases hWl:(xn:Int)=W
       rotate_left
       · have q:((xn:Int) != W)=true:=by rw [bne_iff_ne]; exact hWl
         have hend:Hid (P (.returned (.bool false)) w5):=hDx (HBad.out (fun hh=>hWl (by rw [HXl.out]; exact (hh.2.2.1.2 _ HMem.out).1)) w5 HS5.out.b);clear hWl
         go_upto_region 16 with fail
         rw [HW5.out,HGb.out];clear k0 k1
         go_wp2_with fail
         exact hend.out
       have q:((xn:Int) != W)=false:=by rw [bne_eq_false_iff_eq]; exact hWl
       have HWl:Hid ((r.l.length:Int)=W):=hDx (by rw [← HXl.out]; exact hWl);clear hWl
       go_upto_region 16 with fail
       rw [HW5.out,HGb.out];clear k0 k1
       go_wp2_with fail
       clear m0 n1 q
       go_loopw [143] (fun i wr=>∃ k:Nat,i=.int .i64 (k:Int)∧k≤xn∧Hid ((∀ c ∈ r.l.take k,okC c)∧ShI rb (.slice (some ⟨ab,ao,none⟩) rn rc) W w wr∧Below w5.heap.size w5 wr)) (fun i _=>xn - (intOf i).toNat)
       case atStart=>exact ⟨0,rfl,Nat.zero_le _,hDx ⟨by simp,HS5.out,Below.refl _ _⟩⟩
       case round =>
        obtain ⟨m,rfl,hm,HG⟩ := hrel;by_cases hlt2:m<xn
        · have hd2:decide (m<xn)=true:=decide_eq_true hlt2;have hmI:(m:Int)<xn:=by omega
          have hml:m<r.l.length:=by rw [← HXl.out]; exact hlt2
          obtain ⟨cb,co,rfl,hcb,hCt⟩ := HCl.out.at_.resolve_left (by intro e; rw [e] at hml; simp at hml);have hct:=hCt m r.l[m] (List.getElem?_eq_getElem hml);have htk2:=take_all okC r.l m hml HG.out.1;have hmem2:=List.getElem_mem hml;obtain ⟨⟨x1,x2,x3⟩,hcc⟩ : ∃ c,r.l[m]=c:=⟨_,rfl⟩;rw [hcc] at hct htk2 hmem2;have hcb':cb<rb:=by rw [← HRb.out]; exact hcb
          have l0:wr.cell? ⟨cb,co+m*3,none⟩=some (.int .i64 x1):=(HG.out.2.1.b.cell (p:=⟨cb,co+m*3,none⟩) hcb').trans hct.c0;have l1:wr.cell? ⟨cb,co+m*3+1,none⟩=some (.int .i64 x2):=(HG.out.2.1.b.cell (p:=⟨cb,co+m*3+1,none⟩) hcb').trans hct.c1;have l2:wr.cell? ⟨cb,co+m*3+2,none⟩=some (.int .i64 x3):=(HG.out.2.1.b.cell (p:=⟨cb,co+m*3+2,none⟩) hcb').trans hct.c2;obtain ⟨qb,hqb⟩ : ∃ qb,wr.heap.size=qb:=⟨_,rfl⟩;obtain ⟨w7,hw7⟩ : ∃ w7,wr.alloc (.cells #[.int .i64 x1,.int .i64 x2,.int .i64 x3] 87)=w7:=⟨_,rfl⟩;have hnew:w7.heap[qb]?=some (.cells #[.int .i64 x1,.int .i64 x2,.int .i64 x3] 87 (0,0)):=by rw [← hw7,← hqb]; exact heap_alloc_new wr _
          have p0:w7.cell? ⟨qb,0,none⟩=some (.int .i64 x1):=by rw [cell_block hnew]; rfl
          have p1:w7.cell? ⟨qb,1,none⟩=some (.int .i64 x2):=by rw [cell_block hnew]; rfl
          have p2:w7.cell? ⟨qb,2,none⟩=some (.int .i64 x3):=by rw [cell_block hnew]; rfl
          have hb7:Below wr.heap.size wr w7:=by rw [← hw7]; exact (Below.refl _ _).alloc (Nat.le_refl _) _
          have HS7:=hDx (HG.out.2.1.below hb7);have HG7:=hDx (HG.out.2.2.trans (hb7.mono HG.out.2.2.size));have HW7:=hDx hw7;have HQb:=hDx hqb;have HTk2:=hDx htk2;have hbad:Hid (¬ okC ⟨x1,x2,x3⟩→P (.returned (.bool false)) w7):=hDx (fun hno=>HBad.out (fun hh=>hno ((hh.2.2.1.2 _ HMem.out).2 _ hmem2)) w7 HS7.out.b);clear hml hCt hct htk2 hcc hcb hcb' hqb hw7 hnew hb7 hmem2 HG
          go_upto_region 21 with fail
          rw [HW7.out,HQb.out];clear l0 l1 l2;by_cases g_a:x1<0
          · have hend:Hid (P (.returned (.bool false)) w7):=hDx (hbad.out (no_okC (by omega)));have ra1:(decide (x1<0))=true:=by rw [decide_eq_true_iff]; omega
            have ra2:(decide (0 > x1))=true:=by rw [decide_eq_true_iff]; omega
            clear g_a
            go_wp2_with fail
            exact hend.out
          have ra1:(decide (x1<0))=false:=by rw [decide_eq_false_iff_not]; omega
          have ra2:(decide (0 > x1))=false:=by rw [decide_eq_false_iff_not]; omega
          by_cases g_b:1114111<x1
          · have hend:Hid (P (.returned (.bool false)) w7):=hDx (hbad.out (no_okC (by omega)));have rb1:(decide (1114111<x1))=true:=by rw [decide_eq_true_iff]; omega
            have rb2:(decide (x1 > 1114111))=true:=by rw [decide_eq_true_iff]; omega
            clear g_b
            go_wp2_with fail
            exact hend.out
          have rb1:(decide (1114111<x1))=false:=by rw [decide_eq_false_iff_not]; omega
          have rb2:(decide (x1 > 1114111))=false:=by rw [decide_eq_false_iff_not]; omega
          by_cases g_c:x2<0
          · have hend:Hid (P (.returned (.bool false)) w7):=hDx (hbad.out (no_okC (by omega)));have rc1:(decide (x2<0))=true:=by rw [decide_eq_true_iff]; omega
            have rc2:(decide (0 > x2))=true:=by rw [decide_eq_true_iff]; omega
            clear g_c
            go_wp2_with fail
            exact hend.out
          have rc1:(decide (x2<0))=false:=by rw [decide_eq_false_iff_not]; omega
          have rc2:(decide (0 > x2))=false:=by rw [decide_eq_false_iff_not]; omega
          by_cases g_d:647<x2
          · have hend:Hid (P (.returned (.bool false)) w7):=hDx (hbad.out (no_okC (by omega)));have rd1:(decide (647<x2))=true:=by rw [decide_eq_true_iff]; omega
            have rd2:(decide (x2 > 647))=true:=by rw [decide_eq_true_iff]; omega
            clear g_d
            go_wp2_with fail
            exact hend.out
          have rd1:(decide (647<x2))=false:=by rw [decide_eq_false_iff_not]; omega
          have rd2:(decide (x2 > 647))=false:=by rw [decide_eq_false_iff_not]; omega
          by_cases g_e:x3<0
          · have hend:Hid (P (.returned (.bool false)) w7):=hDx (hbad.out (no_okC (by omega)));have re1:(decide (x3<0))=true:=by rw [decide_eq_true_iff]; omega
            have re2:(decide (0 > x3))=true:=by rw [decide_eq_true_iff]; omega
            clear g_e
            go_wp2_with fail
            exact hend.out
          have re1:(decide (x3<0))=false:=by rw [decide_eq_false_iff_not]; omega
          have re2:(decide (0 > x3))=false:=by rw [decide_eq_false_iff_not]; omega
          by_cases g_f:3<x3
          · have hend:Hid (P (.returned (.bool false)) w7):=hDx (hbad.out (no_okC (by omega)));have rf1:(decide (3<x3))=true:=by rw [decide_eq_true_iff]; omega
            have rf2:(decide (x3 > 3))=true:=by rw [decide_eq_true_iff]; omega
            clear g_f
            go_wp2_with fail
            exact hend.out
          have rf1:(decide (3<x3))=false:=by rw [decide_eq_false_iff_not]; omega
          have rf2:(decide (x3 > 3))=false:=by rw [decide_eq_false_iff_not]; omega
          have HE:Hid ((∀ c ∈ r.l.take (m+1),okC c)∧ShI rb (.slice (some ⟨ab,ao,none⟩) rn rc) W w w7∧Below w5.heap.size w5 w7):=hDx ⟨HTk2.out (by unfold okC; simp only; omega),HS7.out,HG7.out⟩;clear g_a g_b g_c g_d g_e g_f
          go_wp2_with fail
          go_roundw
          case rel=>exact ⟨m+1,by go_num,by omega,HE⟩
          case measure=>simp [intOf]; omega
        · obtain rfl:m=xn:=by omega
          have hd2:decide (m<m)=false:=by simp
          have HE:Hid ((∀ r ∈ R.take (j2+1),RowOk W r)∧ShI rb (.slice (some ⟨ab,ao,none⟩) rn rc) W w wr):=hDx ⟨HTk.out ⟨HWl.out,by have:=HG.out.1; rw [HXl.out,List.take_length] at this; exact this⟩,HG.out.2.1⟩;clear HG hlt2
          go_wp2_with fail
          go_roundw
          case rel=>exact ⟨j2+1,by go_num,by omega,HE⟩
          case measure=>simp [intOf]; omega
     · obtain rfl:j2=rn:=by omega
       have hd:decide (j2<j2)=false:=by simp
       have hall:∀ r ∈ R,RowOk W r:=by have:=HF.out.1; rw [HRn.out,List.take_length] at this; exact this
       have hend:Hid (P (.returned (.bool true)) wr):=hDx (HGood.out ⟨HOk.out.1,HOk.out.2.1,⟨HOk.out.2.2.1,hall⟩,⟨HBg.out,HOk.out.2.2.2⟩⟩ wr HF.out.2.b);clear HF hall hlt
       go_wp2_with fail
       exact hend.out
end Go.Proofs.YtagolklnjhpbdaaDoor.K
