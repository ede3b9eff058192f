import Derived.Test.YtagolklnjhpbdaaDoorMerged0
import Derived.Test.YtagolklnjhpbdaaDoorMerged7
import Derived.Test.YtagolklnjhpbdaaDoorMerged12
import Derived.Lib.QuietBelow
import Derived.BigQuiet
namespace Go.Proofs.YtagolklnjhpbdaaDoor.K
open Go.Proofs.YtagolklnjhpbdaaDoor.R (agree_frame)
open Go.RowKit
theorem take_one {α:Type} (l:List α) (j:Nat) (h:j<l.length):l.take (j+1)=l.take j++[l[j]]:=by
 rw [List.take_add_one,List.getElem?_eq_getElem h]; rfl
def EqOk (x s t x' s' t':Int) (b1 o1 b2 o2 n c1 c2 j:Nat) (d:Bool):Nat→Value→World→Prop
  | 0,u,_=>u=.slice (some ⟨b1,o1,none⟩) n c1
  | 1,u,_=>u=.int .i64 (j:Int)
  | 2,u,_=>u=.pointer (some ⟨b1,o1+j*3,none⟩)
  | 3,u,_=>u=.agg #[.int .i32 x,.int .i64 s,.int .i64 t]
  | 4,u,_=>u=.slice (some ⟨b2,o2,none⟩) n c2
  | 5,u,_=>u=.int .i64 (j:Int)
  | 6,u,_=>u=.pointer (some ⟨b2,o2+j*3,none⟩)
  | 7,u,_=>u=(.agg #[.int .i32 x',.int .i64 s',.int .i64 t'])
  | 8,u,_=>u=.bool d
  | _,_,_=>True
set_option maxRecDepth 100000 in
set_option maxHeartbeats 8000000 in
theorem equal_any (a1 a2:Option Addr) (n n2 c1 c2:Nat) (l1 l2:List Cel) (w:World) (h1:CelsIn .i32 a1 n l1 w) (h2:CelsIn .i32 a2 n2 l2 w) (hn:(n:Int)≤1000000) (hn2:(n2:Int)≤1000000) :
    Calls Tryd.prog 79 #[.slice a1 n c1,.slice a2 n2 c2] w fun e w'=>e=.returned (.bool (decide (l1=l2)))∧Below w.heap.size w w':=by
 obtain ⟨rb,hrb⟩ : ∃ rb,w.heap.size=rb:=⟨_,rfl⟩;rw [hrb];obtain ⟨D,hD⟩ : ∃ D,decide (l1=l2)=D:=⟨_,rfl⟩;obtain ⟨P,hP⟩ : ∃ P:Ending→World→Prop,(fun e w'=>e=.returned (.bool D)∧Below rb w w')=P:=⟨_,rfl⟩;rw [hD,hP];have HP:=hDx hP;have HD:=hDx hD;have HL1:=hDx h1.len;have HL2:=hDx h2.len;have H1:=hDx h1;have H2:=hDx h2;have HRb:=hDx hrb;by_cases hnn:n=n2
 · subst hnn;have q1:((n:Int) != (n:Int))=false:=by simp
   clear hP hD h1 h2 hrb hn2
   go_enter Tryd.func79,Tryd.ntmps79
   go_wp2_with fail
   go_loopw [13] (fun i wr=>∃ j:Nat,i=.int .i64 (j:Int)∧j≤n∧Hid (l1.take j=l2.take j∧Below rb w wr)) (fun i _=>n - (intOf i).toNat)
   case atStart=>exact ⟨0,rfl,by omega,hDx ⟨by simp,Below.refl _ _⟩⟩
   case round =>
    obtain ⟨j,rfl,hj,HF⟩ := hrel;by_cases hlt:j<n
    · have hd:decide (j<n)=true:=by simp; omega
      have hj1:j<l1.length:=by rw [← HL1.out]; exact hlt
      have hj2:j<l2.length:=by rw [← HL2.out]; exact hlt
      obtain ⟨b1,o1,rfl,hb1,hA1⟩ := H1.out.at_.resolve_left (by intro e; rw [e] at hj1; simp at hj1);obtain ⟨b2,o2,rfl,hb2,hA2⟩ := H2.out.at_.resolve_left (by intro e; rw [e] at hj2; simp at hj2);have hat1:=(hA1 j l1[j] (List.getElem?_eq_getElem hj1)).block (HF.out.2.block b1 (by rw [← HRb.out]; exact hb1));have hat2:=(hA2 j l2[j] (List.getElem?_eq_getElem hj2)).block (HF.out.2.block b2 (by rw [← HRb.out]; exact hb2));have hs1:=take_one l1 j hj1;have hs2:=take_one l2 j hj2;obtain ⟨k1,hk1⟩ : ∃ k,l1[j]=k:=⟨_,rfl⟩;obtain ⟨k2,hk2⟩ : ∃ k,l2[j]=k:=⟨_,rfl⟩;rw [hk1] at hat1 hs1;rw [hk2] at hat2 hs2;obtain ⟨x,s,t⟩ := k1;obtain ⟨x',s',t'⟩ := k2;have HX0:=hDx hat1.c0;have HX1:=hDx hat1.c1;have HX2:=hDx hat1.c2;have HY0:=hDx hat2.c0;have HY1:=hDx hat2.c1;have HY2:=hDx hat2.c2;have hbw:=HF.out.2.size;have HX:Hid (b1<wr.heap.size):=hDx (by have:=HF.out.2.size; omega)
      have HY:Hid (b2<wr.heap.size):=hDx (by have:=HF.out.2.size; omega);have HS1:=hDx hs1;have HS2:=hDx hs2;have HK1:=hDx hk1;have HK2:=hDx hk2;obtain ⟨dd,hdd⟩ : ∃ dd,(!(decide (x=x') && decide (s=s') && decide (t=t')))=dd:=⟨_,rfl⟩;have HDd:=hDx hdd;clear hA1 hA2 hat1 hat2 hs1 hs2 hk1 hk2 hdd hb1 hb2 hbw
      go_upto_region 6 with fail
      refine Go.Proofs.YtagolklnjhpbdaaDoor.R.wp_region_tail 9 (by kernel_rfl) (fun u=>Below wr.heap.size wr u) (fun u v=>Below u.heap.size u v) (EqOk x s t x' s' t' b1 o1 b2 o2 n c1 c2 j dd) (by rfl) (by kernel_rfl) (by decide) (by kernel_rfl) (by kernel_rfl) (by kernel_rfl) ?hC ?hOk ?hop ?hdone ((Below.refl _ _).drew)
      case hC=>exact fun u v h1 h2=>h1.trans (h2.mono h1.size)
      case hOk =>
       intro i u w w' h _;unfold EqOk at h ⊢
       split <;> first | exact True.intro | exact h
      case hop =>
       refine ⟨?_,?_,?_,?_,?_,?_,?_,?_,?_,trivial⟩
       · intro z v hz hag hdep;refine .inl ⟨rfl,fun K hK=>?_⟩;have d0:z.tmps.getD 0 undef=.slice (some ⟨b1,o1,none⟩) n c1:=hag.2.2 0 (by kernel_rfl);have e0:=gEx d0;clear hdep hag;go_simp;exact hK _ _ (Below.refl _ _) rfl
       · intro z v hz hag hdep;refine .inl ⟨rfl,fun K hK=>?_⟩;have d5:z.tmps.getD 5 undef=.int .i64 (j:Int):=hag.2.2 5 (by kernel_rfl);have e5:=gEx d5;clear hdep hag;go_simp;exact hK _ _ (Below.refl _ _) rfl
       · intro z v hz hag hdep;refine .inl ⟨rfl,fun K hK=>?_⟩;have d16:z.tmps.getD 16 undef=.slice (some ⟨b1,o1,none⟩) n c1:=hdep ⟨0,.data⟩ (by simp) rfl _ _ rfl rfl;have e16:=gEx d16;have d17:z.tmps.getD 17 undef=.int .i64 (j:Int):=hdep ⟨1,.data⟩ (by simp) rfl _ _ rfl rfl;have e17:=gEx d17;clear hdep hag;go_simp;exact hK _ _ (Below.refl _ _) rfl
       · intro z v hz hag hdep;refine .inl ⟨rfl,fun K hK=>?_⟩;have d18:z.tmps.getD 18 undef=.pointer (some ⟨b1,o1+j*3,none⟩):=hdep ⟨2,.data⟩ (by simp) rfl _ _ rfl rfl;have e18:=gEx d18;have l0:v.cell? ⟨b1,o1+j*3,none⟩=some (.int .i32 x):=(hz.cell (p:=⟨b1,o1+j*3+0,none⟩) HX.out).trans HX0.out;have l1:v.cell? ⟨b1,o1+j*3+1,none⟩=some (.int .i64 s):=(hz.cell (p:=⟨b1,o1+j*3+1,none⟩) HX.out).trans HX1.out;have l2:v.cell? ⟨b1,o1+j*3+2,none⟩=some (.int .i64 t):=(hz.cell (p:=⟨b1,o1+j*3+2,none⟩) HX.out).trans HX2.out;clear hdep hag;go_simp;exact hK _ _ (Below.refl _ _) rfl
       · intro z v hz hag hdep;refine .inl ⟨rfl,fun K hK=>?_⟩;have d1:z.tmps.getD 1 undef=.slice (some ⟨b2,o2,none⟩) n c2:=hag.2.2 1 (by kernel_rfl);have e1:=gEx d1;clear hdep hag;go_simp;exact hK _ _ (Below.refl _ _) rfl
       · intro z v hz hag hdep;refine .inl ⟨rfl,fun K hK=>?_⟩;have d5:z.tmps.getD 5 undef=.int .i64 (j:Int):=hag.2.2 5 (by kernel_rfl);have e5:=gEx d5;clear hdep hag;go_simp;exact hK _ _ (Below.refl _ _) rfl
       · intro z v hz hag hdep;refine .inl ⟨rfl,fun K hK=>?_⟩;have d20:z.tmps.getD 20 undef=.slice (some ⟨b2,o2,none⟩) n c2:=hdep ⟨4,.data⟩ (by simp) rfl _ _ rfl rfl;have e20:=gEx d20;have d21:z.tmps.getD 21 undef=.int .i64 (j:Int):=hdep ⟨5,.data⟩ (by simp) rfl _ _ rfl rfl;have e21:=gEx d21;clear hdep hag;go_simp;exact hK _ _ (Below.refl _ _) rfl
       · intro z v hz hag hdep;refine .inl ⟨rfl,fun K hK=>?_⟩;have d22:z.tmps.getD 22 undef=.pointer (some ⟨b2,o2+j*3,none⟩):=hdep ⟨6,.data⟩ (by simp) rfl _ _ rfl rfl;have e22:=gEx d22;have l0:v.cell? ⟨b2,o2+j*3,none⟩=some (.int .i32 x'):=(hz.cell (p:=⟨b2,o2+j*3+0,none⟩) HY.out).trans HY0.out;have l1:v.cell? ⟨b2,o2+j*3+1,none⟩=some (.int .i64 s'):=(hz.cell (p:=⟨b2,o2+j*3+1,none⟩) HY.out).trans HY1.out;have l2:v.cell? ⟨b2,o2+j*3+2,none⟩=some (.int .i64 t'):=(hz.cell (p:=⟨b2,o2+j*3+2,none⟩) HY.out).trans HY2.out;clear hdep hag;go_simp;exact hK _ _ (Below.refl _ _) rfl
       · intro z v hz hag hdep;refine .inl ⟨rfl,fun K hK=>?_⟩;have d19:z.tmps.getD 19 undef=.agg #[.int .i32 x,.int .i64 s,.int .i64 t]:=hdep ⟨3,.data⟩ (by simp) rfl _ _ rfl rfl;have e19:=gEx d19;have d23:z.tmps.getD 23 undef=(.agg #[.int .i32 x',.int .i64 s',.int .i64 t']):=hdep ⟨7,.data⟩ (by simp) rfl _ _ rfl rfl;have e23:=gEx d23;clear hdep hag hz;go_simp;have hk:=hK (.bool dd) v (Below.refl _ _) rfl;have hdd:=HDd.out;by_cases hx:x=x'
         · rw [if_pos hx];by_cases hs:s=s'
           · rw [if_pos hs];by_cases ht:t=t'
             · rw [if_pos ht]; rw [show dd=false by rw [← hdd]; simp [hx,hs,ht]] at hk; exact hk
             · rw [if_neg ht]; rw [show dd=true by rw [← hdd]; simp [ht]] at hk; exact hk
           · rw [if_neg hs]; rw [show dd=true by rw [← hdd]; simp [hs]] at hk; exact hk
         · rw [if_neg hx]; rw [show dd=true by rw [← hdd]; simp [hx]] at hk; exact hk
      case hdone =>
       intro z v hz hag hok hno;clear hno;have d24:z.tmps.getD 24 undef=.bool dd:=hok 8 _ 24 (by decide) rfl rfl;obtain ⟨uu,hu,hzz⟩ := agree_frame [16,17,18,19,20,21,22,23,24] rfl hag;have e24:=(hu 24).trans d24;subst hzz;have HZ:Hid (Below rb w v):=hDx (HF.out.2.trans (hz.mono (by have:=HF.out.2.size; have:=HRb.out; omega)));clear d24 hu hag hok hz;simp only [List.foldl_cons,List.foldl_nil];rw [e24];clear e24
       dsimp only [List.drop]
       simp only [wpList]
       dsimp only [Exit.then]
       simp only [List.setIfInBounds_toArray,List.set_cons_succ,List.set_cons_zero];generalize uu 16=u16',uu 17=u17',uu 18=u18',uu 19=u19',uu 20=u20',uu 21=u21',uu 22=u22',uu 23=u23';clear uu HX0 HX1 HX2 HY0 HY1 HY2 HX HY hd;cases dd
       · rename_i KK aa
         apply aa
         go_upto_region 8 with fail
         go_wp2
         go_roundw
         case rel=>exact ⟨j+1,by go_num,by omega,hDx ⟨by
          have h:=HDd.out;simp at h;rw [HS1.out,HS2.out,HF.out.1,h.1.1,h.1.2,h.2],HZ.out⟩⟩
         case measure=>simp [intOf]; omega
       · have hne:¬ l1=l2:=by
          intro e;have h1:=HK1.out;have h2:=HK2.out;have h3:l1[j]?=l2[j]?:=by rw [e]
          rw [List.getElem?_eq_getElem hj1,List.getElem?_eq_getElem hj2,h1,h2] at h3;have h:=HDd.out;cases h3;simp at h
         obtain rfl:D=false:=by rw [← HD.out]; simp [hne]
         clear hne;rename_i KK aa
         apply aa
         go_wp2
         rw [← HP.out];exact ⟨rfl,HZ.out⟩
    · obtain rfl:j=n:=by omega
      have hd:decide ((j:Int)<(j:Int))=false:=by simp
      have he:l1=l2:=by
       have h:=HF.out.1;rw [List.take_of_length_le (Nat.le_of_eq HL1.out.symm),List.take_of_length_le (Nat.le_of_eq HL2.out.symm)] at h;exact h
      obtain rfl:D=true:=by rw [← HD.out]; simp [he]
      clear he
      go_wp2
      rw [← HP.out];exact ⟨rfl,HF.out.2⟩
 · have hne:¬ l1=l2:=fun e=>hnn (by rw [h1.len,h2.len,e])
   have q1:((n:Int) != (n2:Int))=true:=by rw [bne_iff_ne]; omega
   obtain rfl:D=false:=by rw [← hD]; simp [hne]
   clear hP hD h1 h2 hrb hnn hne
   go_enter Tryd.func79,Tryd.ntmps79
   go_wp2_with fail
   rw [← HP.out];exact ⟨rfl,Below.refl _ _⟩
set_option maxRecDepth 100000 in
set_option maxHeartbeats 8000000 in
theorem rowSame_any (a1 a2:Option Addr) (n1 n2 c1 c2:Nat) (r1 r2:Bool) (l1 l2:List Cel) (w:World) (h1:CelsIn .i32 a1 n1 l1 w) (h2:CelsIn .i32 a2 n2 l2 w) (hn:(n1:Int)≤1000000) (hn2:(n2:Int)≤1000000) :
    Calls Tryd.prog 56 #[.agg #[.slice a1 n1 c1,.bool r1],.agg #[.slice a2 n2 c2,.bool r2]] w fun e w'=>e=.returned (.bool (decide ((⟨l1,r1⟩ : Ro)=⟨l2,r2⟩)))∧Below w.heap.size w w':=by
 obtain ⟨rb,hrb⟩ : ∃ rb,w.heap.size=rb:=⟨_,rfl⟩;rw [hrb];obtain ⟨D,hD⟩ : ∃ D,decide ((⟨l1,r1⟩ : Ro)=⟨l2,r2⟩)=D:=⟨_,rfl⟩;rw [hD];obtain ⟨w2,hw2⟩ : ∃ w2,(w.alloc (.cells #[.slice a1 n1 c1,.bool r1] 57)).alloc (.cells #[.slice a2 n2 c2,.bool r2] 57)=w2:=⟨_,rfl⟩;have hb2:Below rb w w2:=by rw [← hw2,← hrb]; exact ((Below.refl _ _).alloc (Nat.le_refl _) _).alloc (by simp) _
 have hq1:RoB 57 rb (.slice a1 n1 c1) r1 w2:=by rw [← hw2,← hrb]; exact (RoB.new _ _ _ _).belowAll ((Below.refl _ _).alloc (Nat.le_refl _) _)
 have hq2:RoB 57 (rb+1) (.slice a2 n2 c2) r2 w2:=by
  have h:=RoB.new 57 (w.alloc (.cells #[.slice a1 n1 c1,.bool r1] 57)) (.slice a2 n2 c2) r2;rw [World.size_alloc,hrb,hw2] at h;exact h
 have HE:=hDx (equal_any a1 a2 n1 n2 c1 c2 l1 l2 w2 (h1.belowAll (by rw [hrb]; exact hb2)) (h2.belowAll (by rw [hrb]; exact hb2)) hn hn2);have c0:=hq1.c0;have c1':=hq1.c1;have c2':=hq2.c0;have c3:=hq2.c1;have HSz:Hid (rb≤w2.heap.size):=hDx (by have:=hb2.size; omega);have HB2:=hDx hb2;have HW2:=hDx hw2;have HRb:=hDx hrb;have HD:=hDx hD;clear hb2 hq1 hq2 hw2 hrb hD h1 h2;by_cases hr:r1=r2
 · subst hr;have hDe:decide (l1=l2)=D:=by rw [← HD.out]; simp
   rw [hDe] at HE;clear hDe;have q:(r1 == r1)=true:=by simp
   go_enter Tryd.func56,Tryd.ntmps56
   go_upto_region 1 with fail
   rw [HW2.out,HRb.out]
   go_wp2_with (go_at_call 79; refine HE.out.mono ?_; rintro e w3 ⟨rfl,hb3⟩)
   go_ret
   exact ⟨rfl,HB2.out.trans (hb3.mono HSz.out)⟩
 · have hDe:D=false:=by rw [← HD.out]; simp [hr]
   subst hDe;have q:(r1 == r2)=false:=by rw [beq_eq_false_iff_ne]; exact hr
   have hway:(r1=true∧r2=false)∨(r1=false∧r2=true):=by
    cases r1 <;> cases r2 <;> simp at hr ⊢
   clear hr HD;rcases hway with ⟨rfl,rfl⟩ | ⟨rfl,rfl⟩
   all_goals
     go_enter Tryd.func56,Tryd.ntmps56
     go_upto_region 1 with fail
     rw [HW2.out,HRb.out]
     go_wp2_with fail
     go_ret
     exact ⟨rfl,HB2.out⟩
end Go.Proofs.YtagolklnjhpbdaaDoor.K

namespace Go.Proofs.YtagolklnjhpbdaaDoor.K
open Go.RowKit
theorem takeR_one {α:Type} (l:List α) (j:Nat) (h:j<l.length):l.take (j+1)=l.take j++[l[j]]:=by rw [List.take_add_one,List.getElem?_eq_getElem h]; rfl
set_option maxRecDepth 100000 in
set_option maxHeartbeats 4000000 in
theorem eqRows_any {a1 a2:Option Addr} {n1 c1 n2 c2:Nat} {us1 us2:List Rv} {rs1 rs2:List Ro} (w:World) (h1:RvsIn a1 n1 c1 us1 w) (h2:RvsIn a2 n2 c2 us2 w) (v1:RowsV .i32 us1 rs1 w) (v2:RowsV .i32 us2 rs2 w) (hl1:∀ r ∈ rs1,r.l.length≤1000) (hl2:∀ r ∈ rs2,r.l.length≤1000) (hn1:n1≤1000) (hn2:n2≤1000) :
    Calls Tryd.prog 55 #[.slice a1 n1 c1,.slice a2 n2 c2,.func (.func 56) #[] #[]] w fun e w'=>e=.returned (.bool (decide (rs1=rs2)))∧Below w.heap.size w w':=by
 obtain ⟨rb,hrb⟩ : ∃ rb,w.heap.size=rb:=⟨_,rfl⟩;rw [hrb];obtain ⟨D,hD⟩ : ∃ D,decide (rs1=rs2)=D:=⟨_,rfl⟩;obtain ⟨P,hP⟩ : ∃ P:Ending→World→Prop,(fun e w'=>e=.returned (.bool D)∧Below rb w w')=P:=⟨_,rfl⟩;rw [hD,hP];have HP:=hDx hP;have HD:=hDx hD;have HL1:Hid (n1=rs1.length):=hDx (h1.len.trans v1.1);have HL2:Hid (n2=rs2.length):=hDx (h2.len.trans v2.1);have H1:=hDx h1;have H2:=hDx h2;have HV1:=hDx v1;have HV2:=hDx v2;have HR1:=hDx hl1;have HR2:=hDx hl2;have HRb:=hDx hrb;by_cases hnn:n1=n2
 · subst hnn;have q1:((n1:Int) != (n1:Int))=false:=by simp
   clear hP hD h1 h2 v1 v2 hl1 hl2 hrb hn2
   go_enter Tryd.func55,Tryd.ntmps55
   go_wp2_with fail
   go_loopw [17] (fun i wr=>∃ j:Nat,i=.int .i64 (j:Int)∧j≤n1∧Hid (rs1.take j=rs2.take j∧Below rb w wr)) (fun i _=>n1 - (intOf i).toNat)
   case atStart=>exact ⟨0,rfl,by omega,hDx ⟨by simp,Below.refl _ _⟩⟩
   case round =>
    obtain ⟨j,rfl,hj,HF⟩ := hrel;by_cases hlt:j<n1
    · have hd:decide (j<n1)=true:=by simp; omega
      have hj1:j<rs1.length:=by rw [← HL1.out]; exact hlt
      have hj2:j<rs2.length:=by rw [← HL2.out]; exact hlt
      have hu1:j<us1.length:=by rw [HV1.out.1]; exact hj1
      have hu2:j<us2.length:=by rw [HV2.out.1]; exact hj2
      obtain ⟨b1,o1,rfl,hb1,hA1⟩ := H1.out.at_.resolve_left (by intro e; rw [e] at hu1; simp at hu1);obtain ⟨b2,o2,rfl,hb2,hA2⟩ := H2.out.at_.resolve_left (by intro e; rw [e] at hu2; simp at hu2);have hbw:Below w.heap.size w wr:=by rw [HRb.out]; exact HF.out.2
      have hat1:=hA1 j us1[j] (List.getElem?_eq_getElem hu1);have hat2:=hA2 j us2[j] (List.getElem?_eq_getElem hu2);have hr1:=(HV1.out.2 j us1[j] rs1[j] (List.getElem?_eq_getElem hu1) (List.getElem?_eq_getElem hj1)).belowAll hbw;have hr2:=(HV2.out.2 j us2[j] rs2[j] (List.getElem?_eq_getElem hu2) (List.getElem?_eq_getElem hj2)).belowAll hbw;have hs1:=takeR_one rs1 j hj1;have hs2:=takeR_one rs2 j hj2;have hm1:=HR1.out rs1[j] (List.getElem_mem hj1);have hm2:=HR2.out rs2[j] (List.getElem_mem hj2);obtain ⟨⟨x1,m1,y1,g1⟩,hx1⟩ : ∃ k,us1[j]=k:=⟨_,rfl⟩;obtain ⟨⟨x2,m2,y2,g2⟩,hx2⟩ : ∃ k,us2[j]=k:=⟨_,rfl⟩;obtain ⟨r1,hre1⟩ : ∃ k,rs1[j]=k:=⟨_,rfl⟩;obtain ⟨r2,hre2⟩ : ∃ k,rs2[j]=k:=⟨_,rfl⟩;rw [hx1] at hat1 hr1;rw [hx2] at hat2 hr2;rw [hre1] at hr1 hs1 hm1;rw [hre2] at hr2 hs2 hm2
      have p0:wr.cell? ⟨b1,o1+j*2,none⟩=some (.slice x1 m1 y1):=(World.cell?_of_block (a:=⟨b1,o1+j*2,none⟩) (hbw.block b1 hb1)).trans hat1.1;have p1:wr.cell? ⟨b1,o1+j*2+1,none⟩=some (.bool g1):=(World.cell?_of_block (a:=⟨b1,o1+j*2+1,none⟩) (hbw.block b1 hb1)).trans hat1.2;have p2:wr.cell? ⟨b2,o2+j*2,none⟩=some (.slice x2 m2 y2):=(World.cell?_of_block (a:=⟨b2,o2+j*2,none⟩) (hbw.block b2 hb2)).trans hat2.1;have p3:wr.cell? ⟨b2,o2+j*2+1,none⟩=some (.bool g2):=(World.cell?_of_block (a:=⟨b2,o2+j*2+1,none⟩) (hbw.block b2 hb2)).trans hat2.2;have hX:b1<wr.heap.size:=Nat.lt_of_lt_of_le hb1 hbw.size;have hY:b2<wr.heap.size:=Nat.lt_of_lt_of_le hb2 hbw.size;obtain ⟨w1,hw1⟩ : ∃ w1,wr.alloc (.cells #[.slice x1 m1 y1,.bool g1] 57)=w1:=⟨_,rfl⟩;obtain ⟨w2,hw2⟩ : ∃ w2,w1.alloc (.cells #[.slice x2 m2 y2,.bool g2] 57)=w2:=⟨_,rfl⟩
      have hbb:Below wr.heap.size wr w2:=by rw [← hw2,← hw1]; exact ((Below.refl _ _).alloc (Nat.le_refl _) _).alloc (by simp) _
      have hr1':=hr1.belowAll hbb;have hr2':=hr2.belowAll hbb;unfold Rv.val at hr1' hr2';simp only at hr1' hr2';obtain ⟨hg1,hi1,-,-,-,hk1⟩ := hr1'.of;obtain ⟨hg2,hi2,-,-,-,hk2⟩ := hr2'.of;have HS:=hDx (rowSame_any x1 x2 m1 m2 y1 y2 g1 g2 r1.l r2.l w2 hi1 hi2 (by omega) (by omega));have hee:(⟨r1.l,g1⟩ : Ro)=r1:=by rw [hg1]
      have hee2:(⟨r2.l,g2⟩ : Ro)=r2:=by rw [hg2]
      rw [hee,hee2] at HS;have HS1:=hDx hs1;have HS2:=hDx hs2;have HE1:=hDx hre1;have HE2:=hDx hre2;have HBb:=hDx hbb;have HW1:=hDx hw1;have HW2:=hDx hw2;have HBw:=hDx hbw;clear hA1 hA2 hat1 hat2 hr1 hr2 hs1 hs2 hm1 hm2 hx1 hx2 hre1 hre2 hb1 hb2 hw1 hw2 hbb hr1' hr2' hi1 hi2 hk1 hk2 hg1 hg2 hee hee2 hbw hu1 hu2;by_cases hE:r1=r2
      · have hde:decide (r1=r2)=true:=decide_eq_true hE;rw [hde] at HS;have HE:=hDx hE;clear hE hde
        go_wp2_with fail
        first | rw [HW1.out,HW2.out] | skip
        refine HS.out.mono ?_;rintro e w3 ⟨rfl,hb3⟩;have HF3:Hid (rs1.take (j+1)=rs2.take (j+1)∧Below rb w w3):=hDx ⟨by rw [HS1.out,HS2.out,HF.out.1,HE.out],HF.out.2.trans ((HBb.out.trans (hb3.mono HBb.out.size)).mono (by have:=HBw.out.size; have:=HRb.out; omega))⟩;clear hb3
        go_wp2_with fail
        go_roundw
        case rel=>exact ⟨j+1,by go_num,by omega,HF3⟩
        case measure=>simp [intOf]; omega
      · have hde:decide (r1=r2)=false:=decide_eq_false hE;rw [hde] at HS;have HE:=hDx hE;clear hE hde
        go_wp2_with fail
        first | rw [HW1.out,HW2.out] | skip
        refine HS.out.mono ?_;rintro e w3 ⟨rfl,hb3⟩;have hne:D=false:=by
         rw [← HD.out];refine decide_eq_false (fun e=>HE.out ?_);subst e;rw [← HE1.out,← HE2.out]
        have HF3:Hid (P (.returned (.bool false)) w3):=hDx (by rw [← HP.out,hne]; exact ⟨rfl,HF.out.2.trans ((HBb.out.trans (hb3.mono HBb.out.size)).mono (by have:=HBw.out.size; have:=HRb.out; omega))⟩);clear hb3 hne
        go_wp2_with fail
        exact HF3.out
    · obtain rfl:j=n1:=by omega
      have hd:decide (j<j)=false:=by simp
      have hd':decide ((j:Int)<(j:Int))=false:=by simp
      go_wp2
      rw [← HP.out];obtain ⟨h3,h4⟩ := HF.out;rw [List.take_of_length_le (by rw [← HL1.out]; exact Nat.le_refl _),List.take_of_length_le (by rw [← HL2.out]; exact Nat.le_refl _)] at h3;exact ⟨by rw [← HD.out,h3]; simp,h4⟩
 · have q1:((n1:Int) != (n2:Int))=true:=by simp; omega
   have hne:D=false:=by
    rw [← hD];refine decide_eq_false (fun e=>hnn ?_);rw [HL1.out,HL2.out,e]
   clear hP hD h1 h2 v1 v2 hl1 hl2 hrb
   go_enter Tryd.func55,Tryd.ntmps55
   go_wp2
   rw [← HP.out,hne];exact ⟨rfl,Below.refl _ _⟩
end Go.Proofs.YtagolklnjhpbdaaDoor.K

namespace Go.Proofs.YtagolklnjhpbdaaDoor.K
open Go.RowKit Go.Proofs.YtagolklnjhpbdaaDoor.I
theorem bytes_eqN {a b:ByteArray} (h:a.data.toList=b.data.toList):a=b:=by
 cases a; cases b
 congr 1
 exact Array.toList_inj.1 h
structure SnB (s:Sn):Prop where
 rows:s.R.length≤1000
 cells:∀ r ∈ s.R,r.l.length≤1000
 rng:∀ r ∈ s.R,AllC Rng r.l
 beg:s.B.length≤1000000
 brng:∀ g ∈ s.B,-2147483648≤g.1∧g.1≤2147483647
theorem SnB.empty:SnB emptyN:=⟨Nat.zero_le _,(fun r h=>by cases h),(fun r h=>by cases h),Nat.zero_le _,(fun r h=>by cases h)⟩
set_option maxRecDepth 100000 in
set_option maxHeartbeats 16000000 in
theorem nsame_any (s s2:Sn) (ra:Option Addr) (rn rc:Nat) (rga:Option Addr) (rgn rgc:Nat) (qa:Option Addr) (qn qc:Nat) (qga:Option Addr) (qgn qgc:Nat) (w:World) (h1:SnIn .i32 ra rn rc rga rgn rgc s w) (h2:SnIn .i32 qa qn qc qga qgn qgc s2 w) (m1:SnB s) (m2:SnB s2) :
    Calls Tryd.prog 22 #[.agg (snA s ra rn rc rga rgn rgc),.agg (snA s2 qa qn qc qga qgn qgc)] w fun e w'=>e=.returned (.bool (decide (s=s2)))∧Below w.heap.size w w':=by
 obtain ⟨rb,hrb⟩ : ∃ rb,w.heap.size=rb:=⟨_,rfl⟩;obtain ⟨D,hD⟩ : ∃ D,decide (s=s2)=D:=⟨_,rfl⟩;rw [hD];obtain ⟨P,hP⟩ : ∃ P:Ending→World→Prop,(fun e w'=>e=.returned (.bool D)∧Below w.heap.size w w')=P:=⟨_,rfl⟩;rw [hP];obtain ⟨w1,hw1⟩ : ∃ w1,w.alloc (.cells (snA s ra rn rc rga rgn rgc) 25)=w1:=⟨_,rfl⟩;obtain ⟨w2,hw2⟩ : ∃ w2,w1.alloc (.cells (snA s2 qa qn qc qga qgn qgc) 25)=w2:=⟨_,rfl⟩;have hs1:w1.heap.size=rb+1:=by rw [← hw1,World.size_alloc,hrb]
 have hb1:Below rb w w1:=by rw [← hw1,← hrb]; exact (Below.refl _ _).alloc (Nat.le_refl _) _
 have hb2:Below rb w w2:=by rw [← hw2]; exact hb1.alloc (by omega) _
 have hA1:w1.heap[rb]?=some (.cells (snA s ra rn rc rga rgn rgc) 25 (0,0)):=by rw [← hw1,← hrb]; exact heap_alloc_new w _
 have hA:w2.heap[rb]?=some (.cells (snA s ra rn rc rga rgn rgc) 25 (0,0)):=by rw [← hw2,Below.heap_alloc _ _ _ (by omega)]; exact hA1
 have hB:w2.heap[rb+1]?=some (.cells (snA s2 qa qn qc qga qgn qgc) 25 (0,0)):=by rw [← hw2,← hs1]; exact heap_alloc_new w1 _
 have g1:=h1.belowAll (by rw [hrb]; exact hb2);have g2:=h2.belowAll (by rw [hrb]; exact hb2);have KG:=hDx (equalG_any rga rgn rgc s.B qga qgn qgc s2.B w2 g1.beg g2.beg (by rw [g1.beg.len]; exact m1.beg) (by rw [g2.beg.len]; exact m2.beg));have KR:Hid (∀ w3,Below w2.heap.size w2 w3→Calls Tryd.prog 55 #[.slice ra rn rc,.slice qa qn qc,.func (.func 56) #[] #[]] w3 fun e w'=>e=.returned (.bool (decide (s.R=s2.R)))∧Below w3.heap.size w3 w'):=hDx (fun w3 hb=>by
  have k1:=g1.rows.below hb;have k2:=g2.rows.below hb;have e1:=k1.len;have e2:=k2.len;obtain ⟨us1,i1,v1,-⟩ := k1.ex;obtain ⟨us2,i2,v2,-⟩ := k2.ex;exact eqRows_any w3 i1 i2 v1 v2 m1.cells m2.cells (by rw [e1]; exact m1.rows) (by rw [e2]; exact m2.rows))
 have HEnd:Hid (∀ b,(s=s2↔b=true)→∀ w3,Below w2.heap.size w2 w3→P (.returned (.bool b)) w3):=hDx (fun b hb w3 h3=>by
  rw [← hP];have:D=b:=by rw [← hD]; cases b <;> simp_all
  rw [this];exact ⟨rfl,by rw [hrb]; exact hb2.trans (h3.mono hb2.size |>.mono (by have:=hb2.size; omega))⟩)
 clear hP hD h1 h2 m1 m2 g1 g2 hb1 hb2 hA1;obtain ⟨ak,aw,ah,ax,ay,at_,aR,an,ac,aB⟩ := s;obtain ⟨bk,bw,bh,bx,bY,bt,bR,bn,bc,bB⟩ := s2;have HBad:Hid ((⟨ak,aw,ah,ax,ay,at_,aR,an,ac,aB⟩ : Sn)≠⟨bk,bw,bh,bx,bY,bt,bR,bn,bc,bB⟩→∀ w3,Below w2.heap.size w2 w3→P (.returned (.bool false)) w3):=hDx (fun h w3 h3=>HEnd.out false ⟨fun e=>absurd e h,fun e=>by cases e⟩ w3 h3);unfold snA at hw1 hw2 hA hB ⊢;simp only at hw1 hw2 hA hB ⊢ KG KR;have ca0:w2.cell? ⟨rb,0,none⟩=some (.int .i64 ak):=by rw [cell_block hA]; rfl
 have ca1:w2.cell? ⟨rb,1,none⟩=some (.int .i64 aw):=by rw [cell_block hA]; rfl
 have ca2:w2.cell? ⟨rb,2,none⟩=some (.int .i64 ah):=by rw [cell_block hA]; rfl
 have ca3:w2.cell? ⟨rb,3,none⟩=some (.int .i64 ax):=by rw [cell_block hA]; rfl
 have ca4:w2.cell? ⟨rb,4,none⟩=some (.int .i64 ay):=by rw [cell_block hA]; rfl
 have ca5:w2.cell? ⟨rb,5,none⟩=some (.string at_):=by rw [cell_block hA]; rfl
 have ca6:w2.cell? ⟨rb,6,none⟩=some (.slice ra rn rc):=by rw [cell_block hA]; rfl
 have ca7:w2.cell? ⟨rb,7,none⟩=some (.int .i64 an):=by rw [cell_block hA]; rfl
 have ca8:w2.cell? ⟨rb,8,none⟩=some (.int .i64 ac):=by rw [cell_block hA]; rfl
 have ca9:w2.cell? ⟨rb,9,none⟩=some (.slice rga rgn rgc):=by rw [cell_block hA]; rfl
 have cb0:w2.cell? ⟨rb+1,0,none⟩=some (.int .i64 bk):=by rw [cell_block hB]; rfl
 have cb1:w2.cell? ⟨rb+1,1,none⟩=some (.int .i64 bw):=by rw [cell_block hB]; rfl
 have cb2:w2.cell? ⟨rb+1,2,none⟩=some (.int .i64 bh):=by rw [cell_block hB]; rfl
 have cb3:w2.cell? ⟨rb+1,3,none⟩=some (.int .i64 bx):=by rw [cell_block hB]; rfl
 have cb4:w2.cell? ⟨rb+1,4,none⟩=some (.int .i64 bY):=by rw [cell_block hB]; rfl
 have cb5:w2.cell? ⟨rb+1,5,none⟩=some (.string bt):=by rw [cell_block hB]; rfl
 have cb6:w2.cell? ⟨rb+1,6,none⟩=some (.slice qa qn qc):=by rw [cell_block hB]; rfl
 have cb7:w2.cell? ⟨rb+1,7,none⟩=some (.int .i64 bn):=by rw [cell_block hB]; rfl
 have cb8:w2.cell? ⟨rb+1,8,none⟩=some (.int .i64 bc):=by rw [cell_block hB]; rfl
 have cb9:w2.cell? ⟨rb+1,9,none⟩=some (.slice qga qgn qgc):=by rw [cell_block hB]; rfl
 have HLt:Hid (rb<w2.heap.size∧rb+1<w2.heap.size):=hDx ⟨(gSx.1 hA).1,(gSx.1 hB).1⟩;have HW1:=hDx hw1;have HW2:=hDx hw2;have HRb:=hDx hrb;have HS1:=hDx hs1;clear hw1 hw2 hA hB hrb hs1
 go_enter Tryd.func22,Tryd.ntmps22
 go_upto_region 1 with fail
 rw [HW1.out,HW2.out,HRb.out];by_cases h_k:ak=bk
 rotate_left
 · have q:(ak == bk)=false:=by rw [beq_eq_false_iff_ne]; exact h_k
   have hend:Hid (P (.returned (.bool false)) w2):=hDx (HBad.out (fun e=>h_k (congrArg Sn.k e)) w2 (Below.refl _ _));clear h_k
   go_wp2_with fail
   exact hend.out
 subst h_k;by_cases h_w:aw=bw
 rotate_left
 · have q:(aw == bw)=false:=by rw [beq_eq_false_iff_ne]; exact h_w
   have hend:Hid (P (.returned (.bool false)) w2):=hDx (HBad.out (fun e=>h_w (congrArg Sn.w e)) w2 (Below.refl _ _));clear h_w
   go_wp2_with fail
   exact hend.out
 subst h_w;by_cases h_h:ah=bh
 rotate_left
 · have q:(ah == bh)=false:=by rw [beq_eq_false_iff_ne]; exact h_h
   have hend:Hid (P (.returned (.bool false)) w2):=hDx (HBad.out (fun e=>h_h (congrArg Sn.h e)) w2 (Below.refl _ _));clear h_h
   go_wp2_with fail
   exact hend.out
 subst h_h;by_cases h_x:ax=bx
 rotate_left
 · have q:(ax == bx)=false:=by rw [beq_eq_false_iff_ne]; exact h_x
   have hend:Hid (P (.returned (.bool false)) w2):=hDx (HBad.out (fun e=>h_x (congrArg Sn.x e)) w2 (Below.refl _ _));clear h_x
   go_wp2_with fail
   exact hend.out
 subst h_x;by_cases h_y:ay=bY
 rotate_left
 · have q:(ay == bY)=false:=by rw [beq_eq_false_iff_ne]; exact h_y
   have hend:Hid (P (.returned (.bool false)) w2):=hDx (HBad.out (fun e=>h_y (congrArg Sn.y e)) w2 (Below.refl _ _));clear h_y
   go_wp2_with fail
   exact hend.out
 subst h_y;by_cases h_t:at_=bt
 rotate_left
 · have q:(at_.toList == bt.toList)=false:=by
    rw [beq_eq_false_iff_ne,ByteArray.toList_eq,ByteArray.toList_eq];exact fun e=>h_t (bytes_eqN e)
   have hend:Hid (P (.returned (.bool false)) w2):=hDx (HBad.out (fun e=>h_t (congrArg Sn.t e)) w2 (Below.refl _ _));clear h_t
   go_wp2_with fail
   exact hend.out
 subst h_t;by_cases h_n:an=bn
 rotate_left
 · have q:(an == bn)=false:=by rw [beq_eq_false_iff_ne]; exact h_n
   have hend:Hid (P (.returned (.bool false)) w2):=hDx (HBad.out (fun e=>h_n (congrArg Sn.n e)) w2 (Below.refl _ _));clear h_n
   go_wp2_with fail
   exact hend.out
 subst h_n;by_cases h_c:ac=bc
 rotate_left
 · have q:(ac == bc)=false:=by rw [beq_eq_false_iff_ne]; exact h_c
   have hend:Hid (P (.returned (.bool false)) w2):=hDx (HBad.out (fun e=>h_c (congrArg Sn.c e)) w2 (Below.refl _ _));clear h_c
   go_wp2_with fail
   exact hend.out
 subst h_c;have KB:=KG.out;by_cases h_B:aB=bB
 rotate_left
 · rw [decide_eq_false h_B] at KB;have hend:Hid (∀ w3,Below w2.heap.size w2 w3→P (.returned (.bool false)) w3):=hDx (fun w3 h3=>HBad.out (fun e=>h_B (congrArg Sn.B e)) w3 h3);have K2:=hDx KB;clear h_B KB
   go_wp2_with fail
   refine K2.out.mono ?_;rintro e w3 ⟨rfl,h3⟩;have h4:=hend.out w3 h3;clear h3
   go_wp2_with fail
   exact h4
 rw [decide_eq_true h_B] at KB;subst h_B;have K2:=hDx KB;have HE2:Hid (∀ w3,Below w2.heap.size w2 w3→P (.returned (.bool (decide (aR=bR)))) w3):=hDx (fun w3 h3=>HEnd.out _ (by rw [decide_eq_true_iff]; exact ⟨fun e=>congrArg Sn.R e,fun e=>by rw [e]⟩) w3 h3);clear KB
 go_wp2_with fail
 refine K2.out.mono ?_;rintro e w3 ⟨rfl,h3⟩;have l6:w3.cell? ⟨rb,6,none⟩=some (.slice ra rn rc):=(h3.cell (p:=⟨rb,6,none⟩) HLt.out.1).trans ca6;have l7:w3.cell? ⟨rb+1,6,none⟩=some (.slice qa qn qc):=(h3.cell (p:=⟨rb+1,6,none⟩) HLt.out.2).trans cb6;have K3:=hDx (KR.out w3 h3);have H3:=hDx h3;clear h3 ca0 ca1 ca2 ca3 ca4 ca5 ca6 ca7 ca8 ca9 cb0 cb1 cb2 cb3 cb4 cb5 cb6 cb7 cb8 cb9
 go_wp2_with fail
 refine K3.out.mono ?_;rintro e w4 ⟨rfl,h4⟩;have hend:=HE2.out w4 (H3.out.trans (h4.mono H3.out.size));generalize decide (aR=bR)=D2 at hend;clear h4 l6 l7;cases D2
 · go_wp2_with fail
   exact hend
 · go_wp2_with fail
   exact hend
end Go.Proofs.YtagolklnjhpbdaaDoor.K
