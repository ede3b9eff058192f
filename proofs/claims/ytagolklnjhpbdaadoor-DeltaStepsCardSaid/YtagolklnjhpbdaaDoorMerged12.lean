import Derived.Test.YtagolklnjhpbdaaDoorMerged0
import Derived.Test.YtagolklnjhpbdaaDoorMerged11
import Derived.Test.YtagolklnjhpbdaaDoorMerged9
import Derived.Test.YtagolklnjhpbdaaDoorMerged10
import Derived.Test.YtagolklnjhpbdaaDoorMerged7
namespace Go.Proofs.YtagolklnjhpbdaaDoor.K
open Go.RowKit Go.Proofs.YtagolklnjhpbdaaDoor.I
theorem okC_draw (c:Cel):okC c↔DrawC c.rune c.style∧(0≤c.part∧c.part≤3):=by
 unfold okC DrawC;exact ⟨fun h=>⟨⟨h.1,h.2.1⟩,h.2.2⟩,fun h=>⟨h.1.1,h.1.2,h.2⟩⟩
def RowOk (W:Int) (r:Ro):Prop:=(r.l.length:Int)=W∧∀ c ∈ r.l,okC c
structure ShI (rb:Nat) (vs:Value) (W:Int) (w wr:World):Prop where
 b:Below rb w wr
 c6:wr.cell? ⟨rb,6,none⟩=some vs
 c1:wr.cell? ⟨rb,1,none⟩=some (.int .i64 W)
 s:rb<wr.heap.size
theorem ShI.below {rb:Nat} {vs:Value} {W:Int} {w wr w':World} (h:ShI rb vs W w wr) (hb:Below wr.heap.size wr w'):ShI rb vs W w w' :=
 ⟨h.b.trans (hb.mono (Nat.le_of_lt h.s)),(hb.cell (p:=⟨rb,6,none⟩) h.s).trans h.c6,(hb.cell (p:=⟨rb,1,none⟩) h.s).trans h.c1,Nat.lt_of_lt_of_le h.s hb.size⟩
set_option maxRecDepth 100000 in
set_option maxHeartbeats 16000000 in
theorem shows_any (s:Sn) (ra:Option Addr) (rn rc:Nat) (ga:Option Addr) (gn gc:Nat) (w:World) (hI:RowsL .i32 [] ra rn rc s.R w) (hr:∀ r ∈ s.R,AllC Rng r.l) (hl:∀ r ∈ s.R,r.l.length≤1000000) :
    Calls Tryd.prog 62 #[.agg (snA s ra rn rc ga gn gc)] w fun e w'=>e=.returned (.bool (decide (Shows s)))∧Below w.heap.size w w':=by
 obtain ⟨k,W,h,x,y,t,R,n,c,B⟩ := s;simp only at hI hr hl;obtain ⟨rb,hrb⟩ : ∃ rb,w.heap.size=rb:=⟨_,rfl⟩;rw [hrb];obtain ⟨D,hD⟩ : ∃ D,decide (Shows ⟨k,W,h,x,y,t,R,n,c,B⟩)=D:=⟨_,rfl⟩;rw [hD];have hdef:Shows ⟨k,W,h,x,y,t,R,n,c,B⟩↔(R.length:Int)=h∧∀ r ∈ R,RowOk W r:=Iff.rfl
 obtain ⟨P,hP⟩ : ∃ P:Ending→World→Prop,(fun e w'=>e=.returned (.bool D)∧Below rb w w')=P:=⟨_,rfl⟩;rw [hP];have HP:=hDx hP;have HD:Hid (∀ b,(Shows ⟨k,W,h,x,y,t,R,n,c,B⟩↔b=true)→D=b):=hDx (fun b hb=>by rw [← hD]; cases b <;> simp_all);have HDef:=hDx hdef;have hlen:=hI.len;have HLn:=hDx hlen;have HRb:=hDx hrb;have hex:=hI.ex;have HI:=hDx hex;have HRg:=hDx hr;have HLl:=hDx hl;unfold snA;simp only;obtain ⟨w1,hw1⟩ : ∃ w1,w.alloc (.cells #[.int .i64 k,.int .i64 W,.int .i64 h,.int .i64 x,.int .i64 y,.string t,.slice ra rn rc,.int .i64 n,.int .i64 c,.slice ga gn gc] 25)=w1:=⟨_,rfl⟩;have hb1:Below rb w w1:=by rw [← hw1,← hrb]; exact (Below.refl _ _).alloc (Nat.le_refl _) _
 have hk1:w1.heap[rb]?=some (.cells #[.int .i64 k,.int .i64 W,.int .i64 h,.int .i64 x,.int .i64 y,.string t,.slice ra rn rc,.int .i64 n,.int .i64 c,.slice ga gn gc] 25 (0,0)):=by rw [← hw1,← hrb]; exact heap_alloc_new w _
 have c6:w1.cell? ⟨rb,6,none⟩=some (.slice ra rn rc):=by rw [cell_block hk1]; rfl
 have c1:w1.cell? ⟨rb,1,none⟩=some (.int .i64 W):=by rw [cell_block hk1]; rfl
 have c2:w1.cell? ⟨rb,2,none⟩=some (.int .i64 h):=by rw [cell_block hk1]; rfl
 have HS1:Hid (ShI rb (.slice ra rn rc) W w w1):=hDx ⟨hb1,c6,c1,(gSx.1 hk1).1⟩;have HW1:=hDx hw1;have hnI:(rn:Int)≤9223372036854775807:=by obtain ⟨vs,h1,-⟩ := hex; have h2:=h1.fit; have h3:=h1.top; omega
 clear hP hD hdef hI hr hl hex hb1 hk1 hw1 hrb;by_cases hH:(rn:Int)=h
 rotate_left
 · have q:((rn:Int) != h)=true:=by rw [bne_iff_ne]; exact hH
   have hend:Hid (P (.returned (.bool false)) w1):=hDx (by
    rw [← HP.out,HD.out false (by rw [HDef.out,← hlen]; exact ⟨fun e=>absurd e.1 hH,fun e=>by cases e⟩)];exact ⟨rfl,HS1.out.b⟩)
   clear hH hlen
   go_enter Tryd.func62,Tryd.ntmps62
   go_upto_region 1 with fail
   rw [HW1.out,HRb.out]
   go_wp2_with fail
   exact hend.out
 have q:((rn:Int) != h)=false:=by rw [bne_eq_false_iff_eq]; exact hH
 have HH:Hid ((R.length:Int)=h):=hDx (by rw [← hlen]; exact hH);clear hH hlen
 go_enter Tryd.func62,Tryd.ntmps62
 go_upto_region 1 with fail
 rw [HW1.out,HRb.out]
 go_wp2_with fail
 clear c6 c1 c2 q
 go_loopw [16] (fun i wr=>∃ j:Nat,i=.int .i64 (j:Int)∧j≤rn∧Hid ((∀ r ∈ R.take j,RowOk W r)∧ShI rb (.slice ra rn rc) W w wr)) (fun i _=>rn - (intOf i).toNat)
 case atStart=>exact ⟨0,rfl,Nat.zero_le _,hDx ⟨by simp,HS1.out⟩⟩
 case round =>
  obtain ⟨j,rfl,hj,HF⟩ := hrel;by_cases hlt:j<rn
  · have hd:decide (j<rn)=true:=decide_eq_true hlt;have hjI:(j:Int)<rn:=by omega
    have hjl:j<R.length:=by rw [← HLn.out]; exact hlt
    obtain ⟨us0,hin,hrv,-⟩ := HI.out;have hju:j<us0.length:=by rw [hrv.1]; exact hjl
    obtain ⟨ab,ao,rfl,hab,hAt⟩ := hin.at_.resolve_left (by intro e; rw [e] at hju; simp at hju);have hat:=hAt j us0[j] (List.getElem?_eq_getElem hju);have hrj:=hrv.2 j us0[j] R[j] (List.getElem?_eq_getElem hju) (List.getElem?_eq_getElem hjl);have htk:=take_all (RowOk W) R j hjl HF.out.1;have hrg:=HRg.out R[j] (List.getElem_mem hjl);have hll:=HLl.out R[j] (List.getElem_mem hjl);have hmem:=List.getElem_mem hjl;obtain ⟨⟨xa,xn,xc,xb⟩,hu⟩ : ∃ u,us0[j]=u:=⟨_,rfl⟩;obtain ⟨r,hre⟩ : ∃ r,R[j]=r:=⟨_,rfl⟩;rw [hu] at hat hrj;rw [hre] at hrj htk hrg hll hmem;unfold Rv.val at hrj;simp only at hrj hat;obtain ⟨hxb,hcl,hnl,hft,htp,hxl⟩ := hrj.of;have hab':ab<rb:=by rw [← HRb.out]; exact hab
    have k0:wr.cell? ⟨ab,ao+j*2,none⟩=some (.slice xa xn xc):=(HF.out.2.b.cell (p:=⟨ab,ao+j*2,none⟩) hab').trans hat.1;have k1:wr.cell? ⟨ab,ao+j*2+1,none⟩=some (.bool xb):=(HF.out.2.b.cell (p:=⟨ab,ao+j*2+1,none⟩) hab').trans hat.2;obtain ⟨gb,hgb⟩ : ∃ gb,wr.heap.size=gb:=⟨_,rfl⟩;obtain ⟨w5,hw5⟩ : ∃ w5,wr.alloc (.cells #[.slice xa xn xc,.bool xb] 57)=w5:=⟨_,rfl⟩;have hnew:w5.heap[gb]?=some (.cells #[.slice xa xn xc,.bool xb] 57 (0,0)):=by rw [← hw5,← hgb]; exact heap_alloc_new wr _
    have m0:w5.cell? ⟨gb,0,none⟩=some (.slice xa xn xc):=by rw [cell_block hnew]; rfl
    have hb5:Below wr.heap.size wr w5:=by rw [← hw5]; exact (Below.refl _ _).alloc (Nat.le_refl _) _
    have hs5:=HF.out.2.below hb5;have n1:=hs5.c1;have HW5:=hDx hw5;have HGb:=hDx hgb;have HTk:=hDx htk;have HS5:=hDx hs5;have HCl:=hDx hcl;have HRg5:=hDx hrg;have HMem:=hDx hmem;have HXl:=hDx hxl;have hxI:(xn:Int)≤1000000:=by omega
    have hgs:gb<w5.heap.size:=(gSx.1 hnew).1;have HGs:=hDx hgs;clear hjl hin hrv hju hAt hat hrj htk hu hre hcl hnl hft htp hxl hxb hab hgb hw5 hnew hb5 hs5 hrg hll hmem hab' HF hgs;by_cases hWl:(xn:Int)=W
    rotate_left
    · have q:((xn:Int) != W)=true:=by rw [bne_iff_ne]; exact hWl
      have hend:Hid (P (.returned (.bool false)) w5):=hDx (by
       rw [← HP.out,HD.out false (by rw [HDef.out]; exact ⟨fun e=>absurd (e.2 _ HMem.out).1 (by rw [← HXl.out]; exact hWl),fun e=>by cases e⟩)];exact ⟨rfl,HS5.out.b⟩)
      clear hWl
      go_upto_region 6 with fail
      rw [HW5.out,HGb.out];clear k0 k1
      go_wp2_with fail
      exact hend.out
    have q:((xn:Int) != W)=false:=by rw [bne_eq_false_iff_eq]; exact hWl
    have HWl:Hid ((r.l.length:Int)=W):=hDx (by rw [← HXl.out]; exact hWl);clear hWl
    go_upto_region 6 with fail
    rw [HW5.out,HGb.out];clear k0 k1
    go_wp2_with fail
    clear m0 n1 q
    go_loopw [29] (fun i wr=>∃ k:Nat,i=.int .i64 (k:Int)∧k≤xn∧Hid ((∀ c ∈ r.l.take k,okC c)∧ShI rb (.slice (some ⟨ab,ao,none⟩) rn rc) W w wr∧Below w5.heap.size w5 wr)) (fun i _=>xn - (intOf i).toNat)
    case atStart=>exact ⟨0,rfl,Nat.zero_le _,hDx ⟨by simp,HS5.out,Below.refl _ _⟩⟩
    case round =>
     obtain ⟨m,rfl,hm,HG⟩ := hrel;by_cases hlt2:m<xn
     · have hd2:decide (m<xn)=true:=decide_eq_true hlt2;have hmI:(m:Int)<xn:=by omega
       have hml:m<r.l.length:=by rw [← HXl.out]; exact hlt2
       obtain ⟨cb,co,rfl,hcb,hCt⟩ := HCl.out.at_.resolve_left (by intro e; rw [e] at hml; simp at hml);have hct:=hCt m r.l[m] (List.getElem?_eq_getElem hml);have htk2:=take_all okC r.l m hml HG.out.1;have hcg:=HRg5.out r.l[m] (List.getElem_mem hml);have hmem2:=List.getElem_mem hml;obtain ⟨⟨x1,x2,x3⟩,hcc⟩ : ∃ c,r.l[m]=c:=⟨_,rfl⟩;rw [hcc] at hct htk2 hcg hmem2;have hcb':cb<rb:=by rw [← HRb.out]; exact hcb
       have l0:wr.cell? ⟨cb,co+m*3,none⟩=some (.int .i32 x1):=(HG.out.2.1.b.cell (p:=⟨cb,co+m*3,none⟩) hcb').trans hct.c0;have l1:wr.cell? ⟨cb,co+m*3+1,none⟩=some (.int .i64 x2):=(HG.out.2.1.b.cell (p:=⟨cb,co+m*3+1,none⟩) hcb').trans hct.c1;have l2:wr.cell? ⟨cb,co+m*3+2,none⟩=some (.int .i64 x3):=(HG.out.2.1.b.cell (p:=⟨cb,co+m*3+2,none⟩) hcb').trans hct.c2;obtain ⟨qb,hqb⟩ : ∃ qb,wr.heap.size=qb:=⟨_,rfl⟩;obtain ⟨w7,hw7⟩ : ∃ w7,wr.alloc (.cells #[.int .i32 x1,.int .i64 x2,.int .i64 x3] 118)=w7:=⟨_,rfl⟩;have hnew:w7.heap[qb]?=some (.cells #[.int .i32 x1,.int .i64 x2,.int .i64 x3] 118 (0,0)):=by rw [← hw7,← hqb]; exact heap_alloc_new wr _
       have p0:w7.cell? ⟨qb,0,none⟩=some (.int .i32 x1):=by rw [cell_block hnew]; rfl
       have p1:w7.cell? ⟨qb,1,none⟩=some (.int .i64 x2):=by rw [cell_block hnew]; rfl
       have p2:w7.cell? ⟨qb,2,none⟩=some (.int .i64 x3):=by rw [cell_block hnew]; rfl
       have hb7:Below wr.heap.size wr w7:=by rw [← hw7]; exact (Below.refl _ _).alloc (Nat.le_refl _) _
       have hs7:=HG.out.2.1.below hb7;have hg7:=HG.out.2.2.trans (hb7.mono HG.out.2.2.size);have HN:=hDx (drawable_any x1 x2 hcg w7);have HN2:=hDx (within_any x3 0 3 w7);have HW7:=hDx hw7;have HQb:=hDx hqb;have HTk2:=hDx htk2;have HS7:=hDx hs7;have HG7:=hDx hg7;have HMem2:=hDx hmem2;have hbad:Hid (¬ okC ⟨x1,x2,x3⟩→P (.returned (.bool false)) w7):=hDx (fun hno=>by
        rw [← HP.out,HD.out false (by rw [HDef.out]; exact ⟨fun e=>absurd ((e.2 _ HMem.out).2 _ HMem2.out) hno,fun e=>by cases e⟩)];exact ⟨rfl,HS7.out.b⟩)
       clear hml hCt hct htk2 hcg hcc hcb hcb' hqb hw7 hnew hb7 hs7 hg7 hmem2 HG;by_cases hdr:DrawC x1 x2
       rotate_left
       · rw [decide_eq_false hdr] at HN;have hend:Hid (P (.returned (.bool false)) w7):=hDx (hbad.out (by rw [okC_draw]; exact fun e=>hdr e.1));clear hdr
         go_upto_region 11 with fail
         rw [HW7.out,HQb.out];clear l0 l1 l2
         go_wp2_with fail
         refine HN.out.mono ?_;rintro e w8 ⟨rfl,rfl⟩
         go_wp2_with fail
         exact hend.out
       rw [decide_eq_true hdr] at HN;by_cases hpt:0≤x3∧x3≤3
       rotate_left
       · rw [decide_eq_false hpt] at HN2;have hend:Hid (P (.returned (.bool false)) w7):=hDx (hbad.out (by rw [okC_draw]; exact fun e=>hpt e.2));clear hdr hpt
         go_upto_region 11 with fail
         rw [HW7.out,HQb.out];clear l0 l1 l2
         go_wp2_with fail
         refine HN.out.mono ?_;rintro e w8 ⟨rfl,rfl⟩
         go_wp2_with fail
         refine HN2.out.mono ?_;rintro e w8 ⟨rfl,rfl⟩
         go_wp2_with fail
         exact hend.out
       rw [decide_eq_true hpt] at HN2;have HE:Hid ((∀ c ∈ r.l.take (m+1),okC c)∧ShI rb (.slice (some ⟨ab,ao,none⟩) rn rc) W w w7∧Below w5.heap.size w5 w7):=hDx ⟨HTk2.out ((okC_draw _).2 ⟨hdr,hpt⟩),HS7.out,HG7.out⟩;clear hdr hpt
       go_upto_region 11 with fail
       rw [HW7.out,HQb.out];clear l0 l1 l2
       go_wp2_with fail
       refine HN.out.mono ?_;rintro e w8 ⟨rfl,rfl⟩
       go_wp2_with fail
       refine HN2.out.mono ?_;rintro e w8 ⟨rfl,rfl⟩
       go_wp2_with fail
       go_roundw
       case rel=>exact ⟨m+1,by go_num,by omega,HE⟩
       case measure=>simp [intOf]; omega
     · obtain rfl:m=xn:=by omega
       have hd2:decide (m<m)=false:=by simp
       have HE:Hid ((∀ r ∈ R.take (j+1),RowOk W r)∧ShI rb (.slice (some ⟨ab,ao,none⟩) rn rc) W w wr):=hDx ⟨HTk.out ⟨HWl.out,by have:=HG.out.1; rw [HXl.out,List.take_length] at this; exact this⟩,HG.out.2.1⟩;clear HG hlt2
       go_wp2_with fail
       go_roundw
       case rel=>exact ⟨j+1,by go_num,by omega,HE⟩
       case measure=>simp [intOf]; omega
  · obtain rfl:j=rn:=by omega
    have hd:decide (j<j)=false:=by simp
    have hall:∀ r ∈ R,RowOk W r:=by have:=HF.out.1; rw [HLn.out,List.take_length] at this; exact this
    have hend:Hid (P (.returned (.bool true)) wr):=hDx (by
     rw [← HP.out,HD.out true (by rw [HDef.out]; exact ⟨fun _=>rfl,fun _=>⟨HH.out,hall⟩⟩)];exact ⟨rfl,HF.out.2.b⟩)
    clear HF hall hlt
    go_wp2_with fail
    exact hend.out
end Go.Proofs.YtagolklnjhpbdaaDoor.K

namespace Go.Proofs.YtagolklnjhpbdaaDoor.K
open Go.RowKit Go.Proofs.YtagolklnjhpbdaaDoor.I
set_option maxRecDepth 100000 in
set_option maxHeartbeats 8000000 in
theorem equalG_any (a1:Option Addr) (n1 c1:Nat) (l1:List (Int × Int)) (a2:Option Addr) (n2 c2:Nat) (l2:List (Int × Int)) (w:World) (h1:PairsIn .i32 a1 n1 c1 l1 w) (h2:PairsIn .i32 a2 n2 c2 l2 w) (hn:n1≤1000000) (hn2:n2≤1000000) :
    Calls Tryd.prog 54 #[.slice a1 n1 c1,.slice a2 n2 c2] w fun e w'=>e=.returned (.bool (decide (l1=l2)))∧Below w.heap.size w w':=by
 obtain ⟨P,hP⟩ : ∃ P:Ending→World→Prop,(fun e w'=>e=.returned (.bool (decide (l1=l2)))∧Below w.heap.size w w')=P:=⟨_,rfl⟩;rw [hP];have HP:=hDx hP;have HL1:=hDx h1.len;have HL2:=hDx h2.len;have H1:=hDx h1;have H2:=hDx h2;have hnI:(n1:Int)≤1000000:=by omega
 clear hP h1 h2;by_cases hne:n1=n2
 · subst hne;have q0:((n1:Int) != (n1:Int))=false:=by simp
   go_enter Tryd.func54,Tryd.ntmps54
   go_wp2_with fail
   go_loopw [13] (fun i wr=>∃ j:Nat,i=.int .i64 (j:Int)∧j≤n1∧Hid (l1.take j=l2.take j∧Below w.heap.size w wr)) (fun i _=>n1 - (intOf i).toNat)
   case atStart=>exact ⟨0,rfl,Nat.zero_le _,hDx ⟨rfl,Below.refl _ _⟩⟩
   case round =>
    obtain ⟨j,rfl,hj,HF⟩ := hrel;by_cases hlt:j<n1
    · have hd:decide (j<n1)=true:=decide_eq_true hlt;have hjI:(j:Int)<n1:=by omega
      have hj1:j<l1.length:=by rw [← HL1.out]; exact hlt
      have hj2:j<l2.length:=by rw [← HL2.out]; exact hlt
      obtain ⟨b1,o1,rfl,hb1,hA1⟩ := H1.out.at_.resolve_left (by intro e; rw [e] at hj1; simp at hj1);obtain ⟨b2,o2,rfl,hb2,hA2⟩ := H2.out.at_.resolve_left (by intro e; rw [e] at hj2; simp at hj2);have hat1:=hA1 j l1[j] (List.getElem?_eq_getElem hj1);have hat2:=hA2 j l2[j] (List.getElem?_eq_getElem hj2);have t1:=List.take_succ_eq_append_getElem hj1;have t2:=List.take_succ_eq_append_getElem hj2;have ne:l1[j]≠l2[j]→l1≠l2:=fun hh e=>hh (by subst e; rfl)
      obtain ⟨⟨x1,s1⟩,e1⟩ : ∃ g,l1[j]=g:=⟨_,rfl⟩;obtain ⟨⟨x2,s2⟩,e2⟩ : ∃ g,l2[j]=g:=⟨_,rfl⟩;rw [e1] at hat1 t1 ne;rw [e2] at hat2 t2 ne;have k0:wr.cell? ⟨b1,o1+j*2,none⟩=some (.int .i32 x1):=(HF.out.2.cell (p:=⟨b1,o1+j*2,none⟩) hb1).trans hat1.1;have k1:wr.cell? ⟨b1,o1+j*2+1,none⟩=some (.int .i64 s1):=(HF.out.2.cell (p:=⟨b1,o1+j*2+1,none⟩) hb1).trans hat1.2;have k2:wr.cell? ⟨b2,o2+j*2,none⟩=some (.int .i32 x2):=(HF.out.2.cell (p:=⟨b2,o2+j*2,none⟩) hb2).trans hat2.1;have k3:wr.cell? ⟨b2,o2+j*2+1,none⟩=some (.int .i64 s2):=(HF.out.2.cell (p:=⟨b2,o2+j*2+1,none⟩) hb2).trans hat2.2;have HB5:Hid (Below w.heap.size w wr):=hDx HF.out.2;have HT:Hid ((x1,s1)=(x2,s2)→l1.take (j+1)=l2.take (j+1)):=hDx (fun e=>by rw [t1,t2,HF.out.1,e]);have HNe:=hDx ne;clear hj1 hj2 hA1 hA2 hat1 hat2 t1 t2 ne e1 e2 hb1 hb2 HF
      go_upto_region 6 with fail
      have z0:=fun d os=>cell_regrown k0 d os
      have z1':=fun d os=>cell_regrown k1 d os
      have z2':=fun d os=>cell_regrown k2 d os
      have z3:=fun d os=>cell_regrown k3 d os
      clear k0 k1 k2 k3;by_cases hx:x1=x2
      · subst hx;by_cases hs:s1=s2
        · subst hs;refine wp_region_quiet_below (by kernel_rfl) (by kernel_rfl) ?_
          repeat (go_big_quiet_step (fail))
          refine wpQuiet_nil ?_;intro _ hw';obtain ⟨⟨dq,osq⟩,hw''⟩ := hw';have HE2:Hid (Below w.heap.size w (Go.Sort.grow (redrawn wr dq) osq)):=hDx (HB5.out.trans ((below_regrown _ _ _).mono HB5.out.size));rw [hw''];simp only;obtain ⟨w9,hw9⟩ : ∃ w9,Go.Sort.grow (redrawn wr dq) osq=w9:=⟨_,rfl⟩;rw [hw9] at HE2 ⊢;clear hw'' hw9 z0 z1' z2' z3;have HE:Hid (l1.take (j+1)=l2.take (j+1)∧Below w.heap.size w w9):=hDx ⟨HT.out rfl,HE2.out⟩
          go_wp2_with fail
          go_roundw
          case rel=>exact ⟨j+1,by go_num,by omega,HE⟩
          case measure=>simp [intOf]; omega
        · refine wp_region_quiet_below (by kernel_rfl) (by kernel_rfl) ?_
          repeat (go_big_quiet_step (fail))
          refine wpQuiet_nil ?_;intro _ hw';obtain ⟨⟨dq,osq⟩,hw''⟩ := hw';have HE2:Hid (Below w.heap.size w (Go.Sort.grow (redrawn wr dq) osq)):=hDx (HB5.out.trans ((below_regrown _ _ _).mono HB5.out.size));rw [hw''];simp only;obtain ⟨w9,hw9⟩ : ∃ w9,Go.Sort.grow (redrawn wr dq) osq=w9:=⟨_,rfl⟩;rw [hw9] at HE2 ⊢;clear hw'' hw9 z0 z1' z2' z3;have hend:Hid (P (.returned (.bool false)) w9):=hDx (by rw [← HP.out,decide_eq_false (HNe.out (fun e=>hs (congrArg Prod.snd e)))]; exact ⟨rfl,HE2.out⟩);clear hs
          go_wp2_with fail
          exact hend.out
      · refine wp_region_quiet_below (by kernel_rfl) (by kernel_rfl) ?_
        repeat (go_big_quiet_step (fail))
        refine wpQuiet_nil ?_;intro _ hw';obtain ⟨⟨dq,osq⟩,hw''⟩ := hw';have HE2:Hid (Below w.heap.size w (Go.Sort.grow (redrawn wr dq) osq)):=hDx (HB5.out.trans ((below_regrown _ _ _).mono HB5.out.size));rw [hw''];simp only;obtain ⟨w9,hw9⟩ : ∃ w9,Go.Sort.grow (redrawn wr dq) osq=w9:=⟨_,rfl⟩;rw [hw9] at HE2 ⊢;clear hw'' hw9 z0 z1' z2' z3;have hend:Hid (P (.returned (.bool false)) w9):=hDx (by rw [← HP.out,decide_eq_false (HNe.out (fun e=>hx (congrArg Prod.fst e)))]; exact ⟨rfl,HE2.out⟩);clear hx
        go_wp2_with fail
        exact hend.out
    · obtain rfl:j=n1:=by omega
      have hd:decide (j<j)=false:=by simp
      have he:l1=l2:=by
       have h:=HF.out.1;rw [List.take_of_length_le (by rw [HL1.out]; exact Nat.le_refl _),List.take_of_length_le (by rw [HL2.out]; exact Nat.le_refl _)] at h;exact h
      have hend:Hid (P (.returned (.bool true)) wr):=hDx (by rw [← HP.out,decide_eq_true he]; exact ⟨rfl,HF.out.2⟩);clear he HF hlt
      go_wp2_with fail
      exact hend.out
 · have q0:((n1:Int) != (n2:Int))=true:=by rw [bne_iff_ne]; omega
   have hend:Hid (P (.returned (.bool false)) w):=hDx (by
    rw [← HP.out,decide_eq_false (fun e=>hne (by rw [HL1.out,HL2.out,e]))];exact ⟨rfl,Below.refl _ _⟩)
   clear hne
   go_enter Tryd.func54,Tryd.ntmps54
   go_wp2_with fail
   exact hend.out
end Go.Proofs.YtagolklnjhpbdaaDoor.K

namespace Go.Proofs.YtagolklnjhpbdaaDoor.K
open Go.RowKit
end Go.Proofs.YtagolklnjhpbdaaDoor.K

namespace Go.Proofs.YtagolklnjhpbdaaDoor.K
open Go.RowKit
theorem RvsIn.sub {q n c:Nat} {us:List Rv} {w:World} (h:RvsIn (some ⟨q,0,none⟩) n c us w) (t m:Nat) (hm:t+m≤n):RvsIn (some ⟨q,t*2,none⟩) m (c - t) ((us.take (t+m)).drop t) w:=by
 have hl:=h.len;have hf:=h.fit;refine ⟨by rw [List.length_drop,List.length_take]; omega,by omega,by have:=h.top; omega,?_⟩;rcases h.at_ with e | ⟨b,off,ha,hb,hi⟩
 · left; rw [e]; simp
 · cases ha;refine .inr ⟨q,t*2,rfl,hb,fun i u hu=>?_⟩;rw [List.getElem?_drop,List.getElem?_take] at hu
   split at hu
   · have:=hi (t+i) u hu;rw [show t*2+i*2=0+(t+i)*2 by omega];exact this
   · cases hu
end Go.Proofs.YtagolklnjhpbdaaDoor.K

namespace Go.Proofs.YtagolklnjhpbdaaDoor.K
open Go.RowKit
end Go.Proofs.YtagolklnjhpbdaaDoor.K

namespace Go.Proofs.YtagolklnjhpbdaaDoor.K
open Go.RowKit
def upd (us:List Rv) (t s m:Nat):List Rv:=us.take t++(us.drop s).take m++us.drop (t+m)
theorem RowsV.inL {rk:IntKind} {us:List Rv} {rs:List Ro} {w:World} (h:RowsV rk us rs w) (t b:Nat) {f:List Rv→List Rv} {f':List Ro→List Ro} (hf:∀ us rs,RowsV rk us rs w→RowsV rk (f us) (f' rs) w):RowsV rk (D.inL us t b f) (D.inL rs t b f') w :=
 ((h.take t).append (hf _ _ ((h.take (b+1)).drop t))).append (h.drop (b+1))
theorem RowsV.upR {rk:IntKind} {us:List Rv} {rs:List Ro} {w:World} {u:Rv} {r:Ro} (h:RowsV rk us rs w) (hu:RowV rk u.val r w) (k:Nat):RowsV rk (D.upR us k u) (D.upR rs k r) w:=by
 unfold D.upR;rw [h.1];exact (h.drop k).append (RowsV.rep hu _)
theorem RowsV.downR {rk:IntKind} {us:List Rv} {rs:List Ro} {w:World} {u:Rv} {r:Ro} (h:RowsV rk us rs w) (hu:RowV rk u.val r w) (k:Nat):RowsV rk (D.downR us k u) (D.downR rs k r) w:=by
 unfold D.downR;rw [h.1];exact (RowsV.rep hu _).append (h.take _)
theorem TyC.keptB {base:Nat} {u:Rv} {L:List Nat} {w w':World} (h:TyC base u w) (hk:KeepB L w w') (hL:∀ p ∈ L,p<w.heap.size→∃ cs T,w.heap[p]?=some (.cells cs T (0,0))∧T≠118):(∀ b off,u.a=some ⟨b,off,none⟩→b<w.heap.size→w'.heap[b]?=w.heap[b]?)∧TyC base u w':=by
 have hne:∀ b off,u.a=some ⟨b,off,none⟩→b<w.heap.size→w'.heap[b]?=w.heap[b]?:=fun b off e hl=>hk.block b hl (fun hb=>by
  obtain ⟨cs,T,hp,hT⟩ := hL b hb hl;exact h.ne hp hT b off e rfl)
 exact ⟨hne,h.moved hne⟩
end Go.Proofs.YtagolklnjhpbdaaDoor.K

namespace Go.Proofs.YtagolklnjhpbdaaDoor.K
open Go.RowKit
theorem RowsL.sub {rk:IntKind} {L L':List Nat} {a:Option Addr} {n c:Nat} {rs:List Ro} {w:World} (h:RowsL rk L' a n c rs w) (hL:∀ p ∈ L,p ∈ L'):RowsL rk L a n c rs w:=by
 obtain ⟨vs,h1,h2,h3⟩ := h.ex;exact ⟨⟨vs,h1,h2,fun u hu hn b off e hb=>h3 u hu hn b off e (hL b hb)⟩,h.nil,fun hn b off e hb=>h.off hn b off e (hL b hb)⟩
end Go.Proofs.YtagolklnjhpbdaaDoor.K

namespace Go.Proofs.YtagolklnjhpbdaaDoor.K
open Go.RowKit
theorem RvsIn.at {q n cap m k C T off len c':Nat} {us:List Rv} {w:World} (h:RvsIn (some ⟨q,0,none⟩) n cap us w) (hm:T+m≤n) (hk:k≤m) (hC:cap - T=C) (ho:k≠0→off=(T+(m - k))*2) (hl:len=k) (hc:c'=C - (m - k)):RvsIn (some ⟨q,off,none⟩) len c' ((us.take (T+m)).drop (T+(m - k))) w:=by
 subst hl hc;have hn:=h.len;have hf:=h.fit;have h1:=h.sub (T+(m - len)) len (by omega);have e1:T+(m - len)+len=T+m:=by omega
 have e2:cap - (T+(m - len))=C - (m - len):=by omega
 rw [e1,e2] at h1;by_cases h0:len=0
 · exact ⟨h1.len,h1.fit,h1.top,.inl (List.eq_nil_of_length_eq_zero (by rw [← h1.len]; exact h0))⟩
 · rw [ho h0]; exact h1
end Go.Proofs.YtagolklnjhpbdaaDoor.K

namespace Go.Proofs.YtagolklnjhpbdaaDoor.K
open Go.RowKit Go.Shelf
attribute [local go_sem] Oper.semAt_some
theorem KeepB.grown {L:List Nat} {w w' w'':World} {row:Option Nat} (h:KeepB L w w') (hg:w'.grownBy w'' row) (hr:∀ r,row=some r→w.heap.size≤r):KeepB L w w'' :=
 ⟨hg.os.trans h.os,hg.tape.trans h.tape,hg.output.trans h.output,Nat.le_trans h.size hg.size,fun i hi hn=>(hg.block i (Nat.lt_of_lt_of_le hi h.size) (fun e=>by have:=hr i e.symm; omega)).trans (h.block i hi hn)⟩
theorem KeepB.from_ {L:List Nat} {w w':World} (h:KeepB L w w') (hL:∀ p ∈ L,p<w.heap.size→∃ cs T,w.heap[p]?=some (.cells cs T (0,0))) (B:Nat):KeepsFrom B w w':=⟨h.size,fun i o _ hi ho=>h.block1 hi (fun e=>by
 obtain ⟨cs,T,hp⟩ := hL i e (gSx.1 hi).1;rw [hi] at hp; cases hp; cases ho)⟩
abbrev ItR (w:World):={ x:It w // AllC Rng x.r.l }
def ItR.u {w:World} (x:ItR w):Rv:=x.1.u
def ItR.r {w:World} (x:ItR w):Ro:=x.1.r
end Go.Proofs.YtagolklnjhpbdaaDoor.K
