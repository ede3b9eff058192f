import Derived.Test.YtagolklnjhpbdaaDoorMerged0
import Derived.Test.YtagolklnjhpbdaaDoorMerged23
import Derived.Test.YtagolklnjhpbdaaDoorMerged1
import Derived.Test.YtagolklnjhpbdaaDoorMerged9
import Derived.Test.YtagolklnjhpbdaaDoorMerged17
import Derived.BigQuiet
import Derived.Lib.QuietBelow
namespace Go.Proofs.YtagolklnjhpbdaaDoor.K
open Go.Proofs.YtagolklnjhpbdaaDoor.R (agree_frame wp_region_kept)
open Go.RowKit Go.Proofs.YtagolklnjhpbdaaDoor.I
structure PfS (gb:Nat) (x y zt:Int) (w5 u:World):Prop where
 b:Below w5.heap.size w5 u
 h:u.heap[gb]?=some (.cells #[.int .i64 x,.int .i64 y,.int .i64 zt] 87 (0,0))
theorem PfS.c0 {gb:Nat} {x y zt:Int} {w5 u:World} (h:PfS gb x y zt w5 u):u.cell? ⟨gb,0,none⟩=some (.int .i64 x):=by rw [cell_block h.h]; rfl
theorem PfS.c1 {gb:Nat} {x y zt:Int} {w5 u:World} (h:PfS gb x y zt w5 u):u.cell? ⟨gb,1,none⟩=some (.int .i64 y):=by rw [cell_block h.h]; rfl
theorem PfS.c2 {gb:Nat} {x y zt:Int} {w5 u:World} (h:PfS gb x y zt w5 u):u.cell? ⟨gb,2,none⟩=some (.int .i64 zt):=by rw [cell_block h.h]; rfl
theorem PfS.below {gb:Nat} {x y zt:Int} {w5 u u':World} (h:PfS gb x y zt w5 u) (hb:Below u.heap.size u u'):PfS gb x y zt w5 u':=⟨h.b.trans (hb.mono h.b.size),(hb.block gb (gSx.1 h.h).1).trans h.h⟩
def PfOk (gb:Nat) (kk x y zt:Int) (t sa sb sc sd:ByteArray):Nat→Value→World→Prop
  | 0,u,_=>u=.string t
  | 1,u,_=>u=.int .i64 kk
  | 2,u,_=>u=.string sa
  | 3,u,_=>u=.pointer (some ⟨gb,0,none⟩)
  | 4,u,_=>u=.int .i64 x
  | 5,u,_=>u=.string sb
  | 6,u,_=>u=.string (sa++sb)
  | 7,u,_=>u=.pointer (some ⟨gb,1,none⟩)
  | 8,u,_=>u=.int .i64 y
  | 9,u,_=>u=.string sc
  | 10,u,_=>u=.string (sa++sb++sc)
  | 11,u,_=>u=.pointer (some ⟨gb,2,none⟩)
  | 12,u,_=>u=.int .i64 zt
  | 13,u,_=>u=.string sd
  | 14,u,_=>u=.string (sa++sb++sc++sd)
  | 15,u,_=>u=.string (t++(sa++sb++sc++sd))
  | 16,u,_=>u=.string (t++(sa++sb++sc++sd))
  | _,_,_=>True
set_option maxRecDepth 100000 in
set_option maxHeartbeats 16000000 in
theorem refPackRow_any (a:Option Addr) (n c:Nat) (bw:Bool) (r:Ro) (w:World) (hI:RowV .i64 (.agg #[.slice a n c,.bool bw]) r w) (hn:n≤20000) :
    Calls Tryd.prog 40 #[.agg #[.slice a n c,.bool bw]] w fun e w'=>∃ t:ByteArray,e=.returned (.string t)∧t.data.toList=packR r∧Below w.heap.size w w':=by
 obtain ⟨P,hP⟩ : ∃ P:Ending→World→Prop,(fun e w'=>∃ t:ByteArray,e=.returned (.string t)∧t.data.toList=packR r∧Below w.heap.size w w')=P:=⟨_,rfl⟩;rw [hP];have HP:=hDx hP;obtain ⟨hwr,hcl,hnl,hft,htp,hml⟩ := hI.of;obtain ⟨rb,hrb⟩ : ∃ rb,w.heap.size=rb:=⟨_,rfl⟩;obtain ⟨w1,hw1⟩ : ∃ w1,w.alloc (.cells #[.slice a n c,.bool bw] 63)=w1:=⟨_,rfl⟩;have hb1:Below w.heap.size w w1:=by rw [← hw1]; exact (Below.refl _ _).alloc (Nat.le_refl _) _
 have hr1:w1.heap[rb]?=some (.cells #[.slice a n c,.bool bw] 63 (0,0)):=by rw [← hw1,← hrb]; exact heap_alloc_new w _
 have c0:w1.cell? ⟨rb,0,none⟩=some (.slice a n c):=by rw [cell_block hr1]; rfl
 have c1:w1.cell? ⟨rb,1,none⟩=some (.bool bw):=by rw [cell_block hr1]; rfl
 have HR1:=hDx hr1;have HB1:=hDx hb1;have HCl:=hDx (hcl.belowAll hb1);have HW1:=hDx hw1;have HRb:=hDx hrb;have HLn:=hDx hml;have HWr:=hDx hwr;have hcI:(n:Int)≤c:=by omega
 have hcT:(c:Int)≤9223372036854775807:=htp;have hnI:(n:Int)≤20000:=by omega
 obtain ⟨t0,ht0⟩ : ∃ t0:ByteArray,t0=(if bw=true then ⟨#[1]⟩ else ⟨#[0]⟩):=⟨_,rfl⟩;have hT0:t0.data.toList=digs (clipN (wrapN r.wrapped)):=by
  rw [ht0,hwr];cases r.wrapped <;> decide +kernel
 have HT0:=hDx hT0;clear hP hI hcl hnl hft htp hml hrb hw1 hb1 hr1 hT0 hwr;rcases Bool.eq_false_or_eq_true bw with hbw | hbw
 all_goals
   subst hbw;simp only [if_true,Bool.false_eq_true,if_false] at ht0
   go_enter Tryd.func40,Tryd.ntmps40
   go_upto_region 1 with fail
   rw [HW1.out,HRb.out]
   go_wp2_with fail
   go_loopw [3,4,12] (fun u v i wr=>∃ (j k:Nat) (t:ByteArray),u=.string t∧v=.int .i64 (k:Int)∧i=.int .i64 (j:Int)∧j≤n∧k≤j∧Hid (t.data.toList++packC k (r.l.drop j)=digs (clipN (wrapN r.wrapped))++packC 0 r.l∧Below w1.heap.size w1 wr)) (fun _ _ i _=>n - (intOf i).toNat)
   case atStart=>exact ⟨0,0,t0,by rw [ht0],rfl,rfl,Nat.zero_le _,Nat.zero_le _,hDx ⟨by rw [HT0.out]; rfl,Below.refl _ _⟩⟩
   case round =>
    obtain ⟨j,k,t,rfl,rfl,rfl,hj,hkj,HF⟩ := hrel;by_cases hlt:j<n
    · have hd:decide (j<n)=true:=decide_eq_true hlt;have hjI:(j:Int)<n:=by omega
      have hkI:(k:Int)≤20000:=by omega
      have hjl:j<r.l.length:=by rw [← HLn.out]; exact hlt
      obtain ⟨b,off,rfl,hbl,hAt⟩ := HCl.out.at_.resolve_left (by intro e; rw [e] at hjl; simp at hjl);have hat:=(hAt j r.l[j] (List.getElem?_eq_getElem hjl)).block (HF.out.2.block b hbl);obtain ⟨⟨x,y,zt⟩,hcx⟩ : ∃ g,r.l[j]=g:=⟨_,rfl⟩;rw [hcx] at hat;have k0:=hat.c0;have k1:=hat.c1;have k2:=hat.c2;simp only at k0 k1 k2;have HT:=hDx HF.out.1;have HTl:Hid ((t.size:Int)≤1000000):=hDx (by
       have h1:=congrArg List.length HF.out.1;rw [List.length_append,List.length_append] at h1;have h2:=packC_len r.l 0;have h3:=digs_nine (clipN (wrapN r.wrapped)) (clipN_le _);have h4:t.size=t.data.toList.length:=rfl;have:=HLn.out;omega)
      obtain ⟨gb,hgb⟩ : ∃ gb,wr.heap.size=gb:=⟨_,rfl⟩;obtain ⟨wc,hwc⟩ : ∃ w5,wr.alloc (.cells #[.int .i64 x,.int .i64 y,.int .i64 zt] 87)=w5:=⟨_,rfl⟩;have hbc:Below wr.heap.size wr wc:=by rw [← hwc]; exact (Below.refl _ _).alloc (Nat.le_refl _) _
      have hgc:wc.heap[gb]?=some (.cells #[.int .i64 x,.int .i64 y,.int .i64 zt] 87 (0,0)):=by rw [← hwc,← hgb]; exact heap_alloc_new wr _
      have HBc:=hDx (HF.out.2.trans (hbc.mono HF.out.2.size));have HGc:=hDx hgc;have HWc:=hDx hwc;have HGb:=hDx hgb;have g0:wc.cell? ⟨gb,0,none⟩=some (.int .i64 x):=by rw [cell_block hgc]; rfl
      have g1:wc.cell? ⟨gb,1,none⟩=some (.int .i64 y):=by rw [cell_block hgc]; rfl
      have g2:wc.cell? ⟨gb,2,none⟩=some (.int .i64 zt):=by rw [cell_block hgc]; rfl
      have s0:=fun d os=>cell_regrown g0 d os
      have s1:=fun d os=>cell_regrown g1 d os
      have s2:=fun d os=>cell_regrown g2 d os
      have hrc:wc.cell? ⟨rb,0,none⟩=some (.slice (some ⟨b,off,none⟩) n c):=(HBc.out.cell (p:=⟨rb,0,none⟩) (gSx.1 HR1.out).1).trans c0;have s3:=fun d os=>cell_regrown hrc d os
      clear hwc hgb hbc hgc HF hat g0 g1 g2 hrc
      go_upto_region 9 with fail
      rw [HWc.out,HGb.out];clear k0 k1 k2;by_cases hj1:j+1<n
      · have hd1:decide ((j:Int)+1<n)=true:=decide_eq_true (by omega);have hd2:decide (j+1<n)=true:=decide_eq_true hj1;have hj1':=hj1;rw [HLn.out] at hj1;have hat2:=(hAt (j+1) r.l[j+1] (List.getElem?_eq_getElem hj1)).block (HBc.out.block b hbl);obtain ⟨⟨x2,y2,z2⟩,hcx2⟩ : ∃ g,r.l[j+1]=g:=⟨_,rfl⟩;rw [hcx2] at hat2;have v0:=fun d os=>cell_regrown hat2.c0 d os
        have v1:=fun d os=>cell_regrown hat2.c1 d os
        have v2:=fun d os=>cell_regrown hat2.c2 d os
        simp only at v0 v1 v2;by_cases e1:x=x2
        · subst e1;by_cases e2:y=y2
          · subst e2;by_cases e3:zt=z2
            · subst e3;have hsame:r.l[j+1]=r.l[j]:=by rw [hcx,hcx2]
              clear hat2 hcx2 hAt;refine wp_region_quiet_below (by kernel_rfl) (by kernel_rfl) ?_
              repeat (go_big_quiet_step (fail))
              refine wpQuiet_nil ?_;intro _ hw';obtain ⟨⟨dq,osq⟩,hw''⟩ := hw';have hb9:=below_regrown wc dq osq;obtain ⟨w5,hw5⟩ : ∃ w9,Go.Sort.grow (redrawn wc dq) osq=w9:=⟨_,rfl⟩;rw [hw''];simp only;rw [hw5] at hb9 ⊢;have HB5:Hid (Below w1.heap.size w1 w5):=hDx (HBc.out.trans (hb9.mono HBc.out.size));clear hw'' hw5 s0 s1 s2 s3 v0 v1 v2;have HE:Hid (t.data.toList++packC (k+1) (r.l.drop (j+1))=digs (clipN (wrapN r.wrapped))++packC 0 r.l):=hDx (by rw [← packC_same r.l j k hj1 hsame]; exact HT.out);clear hb9 hsame
              go_wp2_with fail
              go_roundw
              case rel=>exact ⟨j+1,k+1,t,rfl,by first | rfl | go_num,by first | rfl | go_num,by omega,by omega,hDx ⟨HE.out,HB5.out⟩⟩
              case measure=>simp [intOf]; omega
            · have hdiff:∀ h2:j+1<r.l.length,r.l[j+1]≠r.l[j]:=fun _=>by rw [hcx,hcx2]; intro h; injection h with h1 h2 h3; exact e3 h3.symm
              clear hat2 hcx2 hAt;refine wp_region_quiet_below (by kernel_rfl) (by kernel_rfl) ?_
              repeat (go_big_quiet_step (fail))
              refine wpQuiet_nil ?_;intro _ hw';obtain ⟨⟨dq,osq⟩,hw''⟩ := hw';have hb9:=below_regrown wc dq osq;obtain ⟨w5,hw5⟩ : ∃ w9,Go.Sort.grow (redrawn wc dq) osq=w9:=⟨_,rfl⟩;rw [hw''];simp only;rw [hw5] at hb9 ⊢;have HB5:Hid (Below w1.heap.size w1 w5):=hDx (HBc.out.trans (hb9.mono HBc.out.size));clear hw'' hw5 s0 s1 s2 s3 v0 v1 v2;have hpo:=packC_other r.l j k hjl hdiff;rw [hcx] at hpo;have h0:PfS gb x y zt w5 w5:=⟨Below.refl _ _,(hb9.block gb (gSx.1 HGc.out).1).trans HGc.out⟩;obtain ⟨kk,hkk⟩ : ∃ kk:Int,(k:Int)+1=kk:=⟨_,rfl⟩;obtain ⟨sa,hsa⟩ : ∃ sa:ByteArray,sa.data.toList=digs (clipN kk):=⟨⟨(digs (clipN kk)).toArray⟩,by simp⟩;obtain ⟨sb,hsb⟩ : ∃ sb:ByteArray,sb.data.toList=digs (clipN x):=⟨⟨(digs (clipN x)).toArray⟩,by simp⟩;obtain ⟨sc,hsc⟩ : ∃ sb:ByteArray,sb.data.toList=digs (clipN y):=⟨⟨(digs (clipN y)).toArray⟩,by simp⟩
              obtain ⟨sd,hsd⟩ : ∃ sb:ByteArray,sb.data.toList=digs (clipN zt):=⟨⟨(digs (clipN zt)).toArray⟩,by simp⟩;have HSa:=hDx hsa;have HSb:=hDx hsb;have HSc:=hDx hsc;have HSd:=hDx hsd;have H0:=hDx h0;have HSz:Hid ((sa.size:Int)≤9∧(sb.size:Int)≤9∧(sc.size:Int)≤9∧(sd.size:Int)≤9∧(t.size:Int)≤1000000):=hDx (by
               have hz:∀ u:ByteArray,u.size=u.data.toList.length:=fun _=>rfl
               have e1:=hz sa;have e2:=hz sb;have e3:=hz sc;have e4:=hz sd;have e5:=hz t;rw [hsa] at e1;rw [hsb] at e2;rw [hsc] at e3;rw [hsd] at e4;have n1:=digs_nine (clipN kk) (clipN_le _);have n2:=digs_nine (clipN x) (clipN_le _);have n3:=digs_nine (clipN y) (clipN_le _);have n4:=digs_nine (clipN zt) (clipN_le _);have n5:=HTl.out;omega)
              have HE:Hid ((t++(sa++sb++sc++sd)).data.toList++packC 0 (r.l.drop (j+1))=digs (clipN (wrapN r.wrapped))++packC 0 r.l):=hDx (by
               rw [← HT.out,hpo,append_list,append_list,append_list,append_list,hsa,hsb,hsc,hsd,← hkk];unfold runB;have e:(((k+1:Nat)):Int)=(k:Int)+1:=by omega
               rw [e];simp only [List.append_assoc])
              clear hb9 hpo h0 hsa hsb hsc hsd hdiff
              go_upto_region 10 with fail
              rw [hkk];refine wp_region_kept [] [0,0,0,0,0,0,0,0,0,0,0,0,0,0,0,0,0] (by kernel_rfl) (fun _ _ u=>PfS gb x y zt w5 u) (fun _ _=>True) (PfOk gb kk x y zt t sa sb sc sd) (by rfl) (by kernel_rfl) (by kernel_rfl) (by kernel_rfl) (by kernel_rfl) ?hcong ?hOk ?hop ?hdone ?h0
              case hcong=>exact fun k f f2 u hs hst=>hst
              case hOk=>intro i u w1 w2 h hr; unfold PfOk at h ⊢; split <;> first | exact True.intro | exact h
              case h0=>exact H0.out.below ((Below.refl _ _).drew)
              case hop =>
               refine ⟨?_,?_,?_,?_,?_,?_,?_,?_,?_,?_,?_,?_,?_,?_,?_,?_,?_,trivial⟩
               · intro k z v hk hst hag hdep hfr;refine .inl ⟨rfl,fun K hK=>?_⟩;have d3:z.tmps.getD 3 undef=.string t:=hfr 3 (by kernel_rfl);have e3:=gEx d3;have HSt:=hDx hst;clear hdep hfr hag hst;go_simp;exact hK _ _ trivial rfl HSt.out
               · intro k z v hk hst hag hdep hfr;refine .inl ⟨rfl,fun K hK=>?_⟩;have d4:z.tmps.getD 4 undef=.int .i64 kk:=hag.2.2 4 (by kernel_rfl);have e4:=gEx d4;have HSt:=hDx hst;clear hdep hfr hag hst;go_simp;exact hK _ _ trivial rfl HSt.out
               · intro k z v hk hst hag hdep hfr;refine .inl ⟨rfl,fun K hK=>?_⟩;have d36:z.tmps.getD 36 undef=.int .i64 kk:=hdep ⟨1,.data⟩ (by simp) rfl _ _ rfl rfl;have e36:=gEx d36;have hst:PfS gb x y zt w5 v:=hst;have HC:=hDx (refnum_any kk v);have HSt:=hDx hst;clear hdep hfr hag hst;go_simp;refine HC.out.mono ?_;rintro e w' ⟨u,rfl,hu,hb⟩;obtain rfl:u=sa:=bytes_eq (by rw [hu,HSa.out]);exact hK _ _ trivial rfl (HSt.out.below hb)
               · intro k z v hk hst hag hdep hfr;refine .inl ⟨rfl,fun K hK=>?_⟩;have d6:z.tmps.getD 6 undef=.pointer (some ⟨gb,0,none⟩):=hag.2.2 6 (by kernel_rfl);have e6:=gEx d6;have HSt:=hDx hst;clear hdep hfr hag hst;go_simp;exact hK _ _ trivial rfl HSt.out
               · intro k z v hk hst hag hdep hfr;refine .inl ⟨rfl,fun K hK=>?_⟩;have d38:z.tmps.getD 38 undef=.pointer (some ⟨gb,0,none⟩):=hdep ⟨3,.data⟩ (by simp) rfl _ _ rfl rfl;have e38:=gEx d38;have hst:PfS gb x y zt w5 v:=hst;have l0:=hst.c0;have HSt:=hDx hst;clear hdep hfr hag hst;go_simp;exact hK _ _ trivial rfl HSt.out
               · intro k z v hk hst hag hdep hfr;refine .inl ⟨rfl,fun K hK=>?_⟩;have d39:z.tmps.getD 39 undef=.int .i64 x:=hdep ⟨4,.data⟩ (by simp) rfl _ _ rfl rfl;have e39:=gEx d39;have hst:PfS gb x y zt w5 v:=hst;have HC:=hDx (refnum_any x v);have HSt:=hDx hst;clear hdep hfr hag hst;go_simp;refine HC.out.mono ?_;rintro e w' ⟨u,rfl,hu,hb⟩;obtain rfl:u=sb:=bytes_eq (by rw [hu,HSb.out]);exact hK _ _ trivial rfl (HSt.out.below hb)
               · intro k z v hk hst hag hdep hfr;refine .inl ⟨rfl,fun K hK=>?_⟩;have d37:z.tmps.getD 37 undef=.string sa:=hdep ⟨2,.data⟩ (by simp) rfl _ _ rfl rfl;have e37:=gEx d37;have d40:z.tmps.getD 40 undef=.string sb:=hdep ⟨5,.data⟩ (by simp) rfl _ _ rfl rfl;have e40:=gEx d40;have HSt:=hDx hst;have l9:=HSz.out;obtain ⟨l91,l92,l93,l94,l95⟩ := l9;clear hdep hfr hag hst;go_simp;rw [if_neg (by (try simp only [ByteArray.size_append]); omega)];exact hK _ _ trivial rfl HSt.out
               · intro k z v hk hst hag hdep hfr;refine .inl ⟨rfl,fun K hK=>?_⟩;have d6:z.tmps.getD 6 undef=.pointer (some ⟨gb,0,none⟩):=hag.2.2 6 (by kernel_rfl);have e6:=gEx d6;have HSt:=hDx hst;clear hdep hfr hag hst;go_simp;exact hK _ _ trivial rfl HSt.out
               · intro k z v hk hst hag hdep hfr;refine .inl ⟨rfl,fun K hK=>?_⟩;have d42:z.tmps.getD 42 undef=.pointer (some ⟨gb,1,none⟩):=hdep ⟨7,.data⟩ (by simp) rfl _ _ rfl rfl;have e42:=gEx d42;have hst:PfS gb x y zt w5 v:=hst;have l1:=hst.c1;have HSt:=hDx hst;clear hdep hfr hag hst;go_simp;exact hK _ _ trivial rfl HSt.out
               · intro k z v hk hst hag hdep hfr;refine .inl ⟨rfl,fun K hK=>?_⟩;have d43:z.tmps.getD 43 undef=.int .i64 y:=hdep ⟨8,.data⟩ (by simp) rfl _ _ rfl rfl;have e43:=gEx d43;have hst:PfS gb x y zt w5 v:=hst;have HC:=hDx (refnum_any y v);have HSt:=hDx hst;clear hdep hfr hag hst;go_simp;refine HC.out.mono ?_;rintro e w' ⟨u,rfl,hu,hb⟩;obtain rfl:u=sc:=bytes_eq (by rw [hu,HSc.out]);exact hK _ _ trivial rfl (HSt.out.below hb)
               · intro k z v hk hst hag hdep hfr;refine .inl ⟨rfl,fun K hK=>?_⟩;have d41:z.tmps.getD 41 undef=.string (sa++sb):=hdep ⟨6,.data⟩ (by simp) rfl _ _ rfl rfl;have e41:=gEx d41;have d44:z.tmps.getD 44 undef=.string sc:=hdep ⟨9,.data⟩ (by simp) rfl _ _ rfl rfl;have e44:=gEx d44;have HSt:=hDx hst;have l9:=HSz.out;obtain ⟨l91,l92,l93,l94,l95⟩ := l9;clear hdep hfr hag hst;go_simp;rw [if_neg (by (try simp only [ByteArray.size_append]); omega)];exact hK _ _ trivial rfl HSt.out
               · intro k z v hk hst hag hdep hfr;refine .inl ⟨rfl,fun K hK=>?_⟩;have d6:z.tmps.getD 6 undef=.pointer (some ⟨gb,0,none⟩):=hag.2.2 6 (by kernel_rfl);have e6:=gEx d6;have HSt:=hDx hst;clear hdep hfr hag hst;go_simp;exact hK _ _ trivial rfl HSt.out
               · intro k z v hk hst hag hdep hfr;refine .inl ⟨rfl,fun K hK=>?_⟩;have d46:z.tmps.getD 46 undef=.pointer (some ⟨gb,2,none⟩):=hdep ⟨11,.data⟩ (by simp) rfl _ _ rfl rfl;have e46:=gEx d46;have hst:PfS gb x y zt w5 v:=hst;have l2:=hst.c2;have HSt:=hDx hst;clear hdep hfr hag hst;go_simp;exact hK _ _ trivial rfl HSt.out
               · intro k z v hk hst hag hdep hfr;refine .inl ⟨rfl,fun K hK=>?_⟩;have d47:z.tmps.getD 47 undef=.int .i64 zt:=hdep ⟨12,.data⟩ (by simp) rfl _ _ rfl rfl;have e47:=gEx d47;have hst:PfS gb x y zt w5 v:=hst;have HC:=hDx (refnum_any zt v);have HSt:=hDx hst;clear hdep hfr hag hst;go_simp;refine HC.out.mono ?_;rintro e w' ⟨u,rfl,hu,hb⟩;obtain rfl:u=sd:=bytes_eq (by rw [hu,HSd.out]);exact hK _ _ trivial rfl (HSt.out.below hb)
               · intro k z v hk hst hag hdep hfr;refine .inl ⟨rfl,fun K hK=>?_⟩;have d45:z.tmps.getD 45 undef=.string (sa++sb++sc):=hdep ⟨10,.data⟩ (by simp) rfl _ _ rfl rfl;have e45:=gEx d45;have d48:z.tmps.getD 48 undef=.string sd:=hdep ⟨13,.data⟩ (by simp) rfl _ _ rfl rfl;have e48:=gEx d48;have HSt:=hDx hst;have l9:=HSz.out;obtain ⟨l91,l92,l93,l94,l95⟩ := l9;clear hdep hfr hag hst;go_simp;rw [if_neg (by (try simp only [ByteArray.size_append]); omega)];exact hK _ _ trivial rfl HSt.out
               · intro k z v hk hst hag hdep hfr;refine .inl ⟨rfl,fun K hK=>?_⟩;have d35:z.tmps.getD 35 undef=.string t:=hdep ⟨0,.data⟩ (by simp) rfl _ _ rfl rfl;have e35:=gEx d35;have d49:z.tmps.getD 49 undef=.string (sa++sb++sc++sd):=hdep ⟨14,.data⟩ (by simp) rfl _ _ rfl rfl;have e49:=gEx d49;have HSt:=hDx hst;have l9:=HSz.out;obtain ⟨l91,l92,l93,l94,l95⟩ := l9;clear hdep hfr hag hst;go_simp;rw [if_neg (by (try simp only [ByteArray.size_append]); omega)];exact hK _ _ trivial rfl HSt.out
               · intro k z v hk hst hag hdep hfr;refine .inl ⟨rfl,fun K hK=>?_⟩;have d50:z.tmps.getD 50 undef=.string (t++(sa++sb++sc++sd)):=hdep ⟨15,.data⟩ (by simp) rfl _ _ rfl rfl;have e50:=gEx d50;have HSt:=hDx hst;clear hdep hfr hag hst;go_simp;exact hK _ _ trivial rfl HSt.out
              case hdone =>
               intro z' v hst hag hok;have hb:PfS gb x y zt w5 v:=hst;have d3:z'.tmps.getD 3 undef=.string (t++(sa++sb++sc++sd)):=hok 16 _ 3 rfl rfl;have HBv:Hid (Below w1.heap.size w1 v):=hDx (HB5.out.trans (hb.b.mono HB5.out.size));clear hst hb;obtain ⟨uu,hu,hzz⟩ := agree_frame [35,36,37,38,39,40,41,42,43,44,45,46,47,48,49,50,3] rfl hag;have e3:=(hu 3).trans d3;subst hzz;simp only [List.foldl_cons,List.foldl_nil];rw [e3];clear e3 d3 hu hag hok
               try dsimp only [Exit.then]
               simp only [List.setIfInBounds_toArray,List.set_cons_succ,List.set_cons_zero];generalize uu 35=u35',uu 36=u36',uu 37=u37',uu 38=u38',uu 39=u39',uu 40=u40',uu 41=u41',uu 42=u42',uu 43=u43',uu 44=u44',uu 45=u45',uu 46=u46',uu 47=u47',uu 48=u48',uu 49=u49',uu 50=u50';clear uu
               go_wp2_with fail
               go_roundw
               case rel=>exact ⟨j+1,0,_,rfl,by first | rfl | go_num,by first | rfl | go_num,by omega,by omega,hDx ⟨HE.out,HBv.out⟩⟩
               case measure=>simp [intOf]; omega
          · have hdiff:∀ h2:j+1<r.l.length,r.l[j+1]≠r.l[j]:=fun _=>by rw [hcx,hcx2]; intro h; injection h with h1 h2 h3; exact e2 h2.symm
            clear hat2 hcx2 hAt;refine wp_region_quiet_below (by kernel_rfl) (by kernel_rfl) ?_
            repeat (go_big_quiet_step (fail))
            refine wpQuiet_nil ?_;intro _ hw';obtain ⟨⟨dq,osq⟩,hw''⟩ := hw';have hb9:=below_regrown wc dq osq;obtain ⟨w5,hw5⟩ : ∃ w9,Go.Sort.grow (redrawn wc dq) osq=w9:=⟨_,rfl⟩;rw [hw''];simp only;rw [hw5] at hb9 ⊢;have HB5:Hid (Below w1.heap.size w1 w5):=hDx (HBc.out.trans (hb9.mono HBc.out.size));clear hw'' hw5 s0 s1 s2 s3 v0 v1 v2;have hpo:=packC_other r.l j k hjl hdiff;rw [hcx] at hpo;have h0:PfS gb x y zt w5 w5:=⟨Below.refl _ _,(hb9.block gb (gSx.1 HGc.out).1).trans HGc.out⟩;obtain ⟨kk,hkk⟩ : ∃ kk:Int,(k:Int)+1=kk:=⟨_,rfl⟩;obtain ⟨sa,hsa⟩ : ∃ sa:ByteArray,sa.data.toList=digs (clipN kk):=⟨⟨(digs (clipN kk)).toArray⟩,by simp⟩;obtain ⟨sb,hsb⟩ : ∃ sb:ByteArray,sb.data.toList=digs (clipN x):=⟨⟨(digs (clipN x)).toArray⟩,by simp⟩;obtain ⟨sc,hsc⟩ : ∃ sb:ByteArray,sb.data.toList=digs (clipN y):=⟨⟨(digs (clipN y)).toArray⟩,by simp⟩
            obtain ⟨sd,hsd⟩ : ∃ sb:ByteArray,sb.data.toList=digs (clipN zt):=⟨⟨(digs (clipN zt)).toArray⟩,by simp⟩;have HSa:=hDx hsa;have HSb:=hDx hsb;have HSc:=hDx hsc;have HSd:=hDx hsd;have H0:=hDx h0;have HSz:Hid ((sa.size:Int)≤9∧(sb.size:Int)≤9∧(sc.size:Int)≤9∧(sd.size:Int)≤9∧(t.size:Int)≤1000000):=hDx (by
             have hz:∀ u:ByteArray,u.size=u.data.toList.length:=fun _=>rfl
             have e1:=hz sa;have e2:=hz sb;have e3:=hz sc;have e4:=hz sd;have e5:=hz t;rw [hsa] at e1;rw [hsb] at e2;rw [hsc] at e3;rw [hsd] at e4;have n1:=digs_nine (clipN kk) (clipN_le _);have n2:=digs_nine (clipN x) (clipN_le _);have n3:=digs_nine (clipN y) (clipN_le _);have n4:=digs_nine (clipN zt) (clipN_le _);have n5:=HTl.out;omega)
            have HE:Hid ((t++(sa++sb++sc++sd)).data.toList++packC 0 (r.l.drop (j+1))=digs (clipN (wrapN r.wrapped))++packC 0 r.l):=hDx (by
             rw [← HT.out,hpo,append_list,append_list,append_list,append_list,hsa,hsb,hsc,hsd,← hkk];unfold runB;have e:(((k+1:Nat)):Int)=(k:Int)+1:=by omega
             rw [e];simp only [List.append_assoc])
            clear hb9 hpo h0 hsa hsb hsc hsd hdiff
            go_upto_region 10 with fail
            rw [hkk];refine wp_region_kept [] [0,0,0,0,0,0,0,0,0,0,0,0,0,0,0,0,0] (by kernel_rfl) (fun _ _ u=>PfS gb x y zt w5 u) (fun _ _=>True) (PfOk gb kk x y zt t sa sb sc sd) (by rfl) (by kernel_rfl) (by kernel_rfl) (by kernel_rfl) (by kernel_rfl) ?hcong ?hOk ?hop ?hdone ?h0
            case hcong=>exact fun k f f2 u hs hst=>hst
            case hOk=>intro i u w1 w2 h hr; unfold PfOk at h ⊢; split <;> first | exact True.intro | exact h
            case h0=>exact H0.out.below ((Below.refl _ _).drew)
            case hop =>
             refine ⟨?_,?_,?_,?_,?_,?_,?_,?_,?_,?_,?_,?_,?_,?_,?_,?_,?_,trivial⟩
             · intro k z v hk hst hag hdep hfr;refine .inl ⟨rfl,fun K hK=>?_⟩;have d3:z.tmps.getD 3 undef=.string t:=hfr 3 (by kernel_rfl);have e3:=gEx d3;have HSt:=hDx hst;clear hdep hfr hag hst;go_simp;exact hK _ _ trivial rfl HSt.out
             · intro k z v hk hst hag hdep hfr;refine .inl ⟨rfl,fun K hK=>?_⟩;have d4:z.tmps.getD 4 undef=.int .i64 kk:=hag.2.2 4 (by kernel_rfl);have e4:=gEx d4;have HSt:=hDx hst;clear hdep hfr hag hst;go_simp;exact hK _ _ trivial rfl HSt.out
             · intro k z v hk hst hag hdep hfr;refine .inl ⟨rfl,fun K hK=>?_⟩;have d36:z.tmps.getD 36 undef=.int .i64 kk:=hdep ⟨1,.data⟩ (by simp) rfl _ _ rfl rfl;have e36:=gEx d36;have hst:PfS gb x y zt w5 v:=hst;have HC:=hDx (refnum_any kk v);have HSt:=hDx hst;clear hdep hfr hag hst;go_simp;refine HC.out.mono ?_;rintro e w' ⟨u,rfl,hu,hb⟩;obtain rfl:u=sa:=bytes_eq (by rw [hu,HSa.out]);exact hK _ _ trivial rfl (HSt.out.below hb)
             · intro k z v hk hst hag hdep hfr;refine .inl ⟨rfl,fun K hK=>?_⟩;have d6:z.tmps.getD 6 undef=.pointer (some ⟨gb,0,none⟩):=hag.2.2 6 (by kernel_rfl);have e6:=gEx d6;have HSt:=hDx hst;clear hdep hfr hag hst;go_simp;exact hK _ _ trivial rfl HSt.out
             · intro k z v hk hst hag hdep hfr;refine .inl ⟨rfl,fun K hK=>?_⟩;have d38:z.tmps.getD 38 undef=.pointer (some ⟨gb,0,none⟩):=hdep ⟨3,.data⟩ (by simp) rfl _ _ rfl rfl;have e38:=gEx d38;have hst:PfS gb x y zt w5 v:=hst;have l0:=hst.c0;have HSt:=hDx hst;clear hdep hfr hag hst;go_simp;exact hK _ _ trivial rfl HSt.out
             · intro k z v hk hst hag hdep hfr;refine .inl ⟨rfl,fun K hK=>?_⟩;have d39:z.tmps.getD 39 undef=.int .i64 x:=hdep ⟨4,.data⟩ (by simp) rfl _ _ rfl rfl;have e39:=gEx d39;have hst:PfS gb x y zt w5 v:=hst;have HC:=hDx (refnum_any x v);have HSt:=hDx hst;clear hdep hfr hag hst;go_simp;refine HC.out.mono ?_;rintro e w' ⟨u,rfl,hu,hb⟩;obtain rfl:u=sb:=bytes_eq (by rw [hu,HSb.out]);exact hK _ _ trivial rfl (HSt.out.below hb)
             · intro k z v hk hst hag hdep hfr;refine .inl ⟨rfl,fun K hK=>?_⟩;have d37:z.tmps.getD 37 undef=.string sa:=hdep ⟨2,.data⟩ (by simp) rfl _ _ rfl rfl;have e37:=gEx d37;have d40:z.tmps.getD 40 undef=.string sb:=hdep ⟨5,.data⟩ (by simp) rfl _ _ rfl rfl;have e40:=gEx d40;have HSt:=hDx hst;have l9:=HSz.out;obtain ⟨l91,l92,l93,l94,l95⟩ := l9;clear hdep hfr hag hst;go_simp;rw [if_neg (by (try simp only [ByteArray.size_append]); omega)];exact hK _ _ trivial rfl HSt.out
             · intro k z v hk hst hag hdep hfr;refine .inl ⟨rfl,fun K hK=>?_⟩;have d6:z.tmps.getD 6 undef=.pointer (some ⟨gb,0,none⟩):=hag.2.2 6 (by kernel_rfl);have e6:=gEx d6;have HSt:=hDx hst;clear hdep hfr hag hst;go_simp;exact hK _ _ trivial rfl HSt.out
             · intro k z v hk hst hag hdep hfr;refine .inl ⟨rfl,fun K hK=>?_⟩;have d42:z.tmps.getD 42 undef=.pointer (some ⟨gb,1,none⟩):=hdep ⟨7,.data⟩ (by simp) rfl _ _ rfl rfl;have e42:=gEx d42;have hst:PfS gb x y zt w5 v:=hst;have l1:=hst.c1;have HSt:=hDx hst;clear hdep hfr hag hst;go_simp;exact hK _ _ trivial rfl HSt.out
             · intro k z v hk hst hag hdep hfr;refine .inl ⟨rfl,fun K hK=>?_⟩;have d43:z.tmps.getD 43 undef=.int .i64 y:=hdep ⟨8,.data⟩ (by simp) rfl _ _ rfl rfl;have e43:=gEx d43;have hst:PfS gb x y zt w5 v:=hst;have HC:=hDx (refnum_any y v);have HSt:=hDx hst;clear hdep hfr hag hst;go_simp;refine HC.out.mono ?_;rintro e w' ⟨u,rfl,hu,hb⟩;obtain rfl:u=sc:=bytes_eq (by rw [hu,HSc.out]);exact hK _ _ trivial rfl (HSt.out.below hb)
             · intro k z v hk hst hag hdep hfr;refine .inl ⟨rfl,fun K hK=>?_⟩;have d41:z.tmps.getD 41 undef=.string (sa++sb):=hdep ⟨6,.data⟩ (by simp) rfl _ _ rfl rfl;have e41:=gEx d41;have d44:z.tmps.getD 44 undef=.string sc:=hdep ⟨9,.data⟩ (by simp) rfl _ _ rfl rfl;have e44:=gEx d44;have HSt:=hDx hst;have l9:=HSz.out;obtain ⟨l91,l92,l93,l94,l95⟩ := l9;clear hdep hfr hag hst;go_simp;rw [if_neg (by (try simp only [ByteArray.size_append]); omega)];exact hK _ _ trivial rfl HSt.out
             · intro k z v hk hst hag hdep hfr;refine .inl ⟨rfl,fun K hK=>?_⟩;have d6:z.tmps.getD 6 undef=.pointer (some ⟨gb,0,none⟩):=hag.2.2 6 (by kernel_rfl);have e6:=gEx d6;have HSt:=hDx hst;clear hdep hfr hag hst;go_simp;exact hK _ _ trivial rfl HSt.out
             · intro k z v hk hst hag hdep hfr;refine .inl ⟨rfl,fun K hK=>?_⟩;have d46:z.tmps.getD 46 undef=.pointer (some ⟨gb,2,none⟩):=hdep ⟨11,.data⟩ (by simp) rfl _ _ rfl rfl;have e46:=gEx d46;have hst:PfS gb x y zt w5 v:=hst;have l2:=hst.c2;have HSt:=hDx hst;clear hdep hfr hag hst;go_simp;exact hK _ _ trivial rfl HSt.out
             · intro k z v hk hst hag hdep hfr;refine .inl ⟨rfl,fun K hK=>?_⟩;have d47:z.tmps.getD 47 undef=.int .i64 zt:=hdep ⟨12,.data⟩ (by simp) rfl _ _ rfl rfl;have e47:=gEx d47;have hst:PfS gb x y zt w5 v:=hst;have HC:=hDx (refnum_any zt v);have HSt:=hDx hst;clear hdep hfr hag hst;go_simp;refine HC.out.mono ?_;rintro e w' ⟨u,rfl,hu,hb⟩;obtain rfl:u=sd:=bytes_eq (by rw [hu,HSd.out]);exact hK _ _ trivial rfl (HSt.out.below hb)
             · intro k z v hk hst hag hdep hfr;refine .inl ⟨rfl,fun K hK=>?_⟩;have d45:z.tmps.getD 45 undef=.string (sa++sb++sc):=hdep ⟨10,.data⟩ (by simp) rfl _ _ rfl rfl;have e45:=gEx d45;have d48:z.tmps.getD 48 undef=.string sd:=hdep ⟨13,.data⟩ (by simp) rfl _ _ rfl rfl;have e48:=gEx d48;have HSt:=hDx hst;have l9:=HSz.out;obtain ⟨l91,l92,l93,l94,l95⟩ := l9;clear hdep hfr hag hst;go_simp;rw [if_neg (by (try simp only [ByteArray.size_append]); omega)];exact hK _ _ trivial rfl HSt.out
             · intro k z v hk hst hag hdep hfr;refine .inl ⟨rfl,fun K hK=>?_⟩;have d35:z.tmps.getD 35 undef=.string t:=hdep ⟨0,.data⟩ (by simp) rfl _ _ rfl rfl;have e35:=gEx d35;have d49:z.tmps.getD 49 undef=.string (sa++sb++sc++sd):=hdep ⟨14,.data⟩ (by simp) rfl _ _ rfl rfl;have e49:=gEx d49;have HSt:=hDx hst;have l9:=HSz.out;obtain ⟨l91,l92,l93,l94,l95⟩ := l9;clear hdep hfr hag hst;go_simp;rw [if_neg (by (try simp only [ByteArray.size_append]); omega)];exact hK _ _ trivial rfl HSt.out
             · intro k z v hk hst hag hdep hfr;refine .inl ⟨rfl,fun K hK=>?_⟩;have d50:z.tmps.getD 50 undef=.string (t++(sa++sb++sc++sd)):=hdep ⟨15,.data⟩ (by simp) rfl _ _ rfl rfl;have e50:=gEx d50;have HSt:=hDx hst;clear hdep hfr hag hst;go_simp;exact hK _ _ trivial rfl HSt.out
            case hdone =>
             intro z' v hst hag hok;have hb:PfS gb x y zt w5 v:=hst;have d3:z'.tmps.getD 3 undef=.string (t++(sa++sb++sc++sd)):=hok 16 _ 3 rfl rfl;have HBv:Hid (Below w1.heap.size w1 v):=hDx (HB5.out.trans (hb.b.mono HB5.out.size));clear hst hb;obtain ⟨uu,hu,hzz⟩ := agree_frame [35,36,37,38,39,40,41,42,43,44,45,46,47,48,49,50,3] rfl hag;have e3:=(hu 3).trans d3;subst hzz;simp only [List.foldl_cons,List.foldl_nil];rw [e3];clear e3 d3 hu hag hok
             try dsimp only [Exit.then]
             simp only [List.setIfInBounds_toArray,List.set_cons_succ,List.set_cons_zero];generalize uu 35=u35',uu 36=u36',uu 37=u37',uu 38=u38',uu 39=u39',uu 40=u40',uu 41=u41',uu 42=u42',uu 43=u43',uu 44=u44',uu 45=u45',uu 46=u46',uu 47=u47',uu 48=u48',uu 49=u49',uu 50=u50';clear uu
             go_wp2_with fail
             go_roundw
             case rel=>exact ⟨j+1,0,_,rfl,by first | rfl | go_num,by first | rfl | go_num,by omega,by omega,hDx ⟨HE.out,HBv.out⟩⟩
             case measure=>simp [intOf]; omega
        · have hdiff:∀ h2:j+1<r.l.length,r.l[j+1]≠r.l[j]:=fun _=>by rw [hcx,hcx2]; intro h; injection h with h1 h2 h3; exact e1 h1.symm
          clear hat2 hcx2 hAt;refine wp_region_quiet_below (by kernel_rfl) (by kernel_rfl) ?_
          repeat (go_big_quiet_step (fail))
          refine wpQuiet_nil ?_;intro _ hw';obtain ⟨⟨dq,osq⟩,hw''⟩ := hw';have hb9:=below_regrown wc dq osq;obtain ⟨w5,hw5⟩ : ∃ w9,Go.Sort.grow (redrawn wc dq) osq=w9:=⟨_,rfl⟩;rw [hw''];simp only;rw [hw5] at hb9 ⊢;have HB5:Hid (Below w1.heap.size w1 w5):=hDx (HBc.out.trans (hb9.mono HBc.out.size));clear hw'' hw5 s0 s1 s2 s3 v0 v1 v2;have hpo:=packC_other r.l j k hjl hdiff;rw [hcx] at hpo;have h0:PfS gb x y zt w5 w5:=⟨Below.refl _ _,(hb9.block gb (gSx.1 HGc.out).1).trans HGc.out⟩;obtain ⟨kk,hkk⟩ : ∃ kk:Int,(k:Int)+1=kk:=⟨_,rfl⟩;obtain ⟨sa,hsa⟩ : ∃ sa:ByteArray,sa.data.toList=digs (clipN kk):=⟨⟨(digs (clipN kk)).toArray⟩,by simp⟩;obtain ⟨sb,hsb⟩ : ∃ sb:ByteArray,sb.data.toList=digs (clipN x):=⟨⟨(digs (clipN x)).toArray⟩,by simp⟩;obtain ⟨sc,hsc⟩ : ∃ sb:ByteArray,sb.data.toList=digs (clipN y):=⟨⟨(digs (clipN y)).toArray⟩,by simp⟩
          obtain ⟨sd,hsd⟩ : ∃ sb:ByteArray,sb.data.toList=digs (clipN zt):=⟨⟨(digs (clipN zt)).toArray⟩,by simp⟩;have HSa:=hDx hsa;have HSb:=hDx hsb;have HSc:=hDx hsc;have HSd:=hDx hsd;have H0:=hDx h0;have HSz:Hid ((sa.size:Int)≤9∧(sb.size:Int)≤9∧(sc.size:Int)≤9∧(sd.size:Int)≤9∧(t.size:Int)≤1000000):=hDx (by
           have hz:∀ u:ByteArray,u.size=u.data.toList.length:=fun _=>rfl
           have e1:=hz sa;have e2:=hz sb;have e3:=hz sc;have e4:=hz sd;have e5:=hz t;rw [hsa] at e1;rw [hsb] at e2;rw [hsc] at e3;rw [hsd] at e4;have n1:=digs_nine (clipN kk) (clipN_le _);have n2:=digs_nine (clipN x) (clipN_le _);have n3:=digs_nine (clipN y) (clipN_le _);have n4:=digs_nine (clipN zt) (clipN_le _);have n5:=HTl.out;omega)
          have HE:Hid ((t++(sa++sb++sc++sd)).data.toList++packC 0 (r.l.drop (j+1))=digs (clipN (wrapN r.wrapped))++packC 0 r.l):=hDx (by
           rw [← HT.out,hpo,append_list,append_list,append_list,append_list,hsa,hsb,hsc,hsd,← hkk];unfold runB;have e:(((k+1:Nat)):Int)=(k:Int)+1:=by omega
           rw [e];simp only [List.append_assoc])
          clear hb9 hpo h0 hsa hsb hsc hsd hdiff
          go_upto_region 10 with fail
          rw [hkk];refine wp_region_kept [] [0,0,0,0,0,0,0,0,0,0,0,0,0,0,0,0,0] (by kernel_rfl) (fun _ _ u=>PfS gb x y zt w5 u) (fun _ _=>True) (PfOk gb kk x y zt t sa sb sc sd) (by rfl) (by kernel_rfl) (by kernel_rfl) (by kernel_rfl) (by kernel_rfl) ?hcong ?hOk ?hop ?hdone ?h0
          case hcong=>exact fun k f f2 u hs hst=>hst
          case hOk=>intro i u w1 w2 h hr; unfold PfOk at h ⊢; split <;> first | exact True.intro | exact h
          case h0=>exact H0.out.below ((Below.refl _ _).drew)
          case hop =>
           refine ⟨?_,?_,?_,?_,?_,?_,?_,?_,?_,?_,?_,?_,?_,?_,?_,?_,?_,trivial⟩
           · intro k z v hk hst hag hdep hfr;refine .inl ⟨rfl,fun K hK=>?_⟩;have d3:z.tmps.getD 3 undef=.string t:=hfr 3 (by kernel_rfl);have e3:=gEx d3;have HSt:=hDx hst;clear hdep hfr hag hst;go_simp;exact hK _ _ trivial rfl HSt.out
           · intro k z v hk hst hag hdep hfr;refine .inl ⟨rfl,fun K hK=>?_⟩;have d4:z.tmps.getD 4 undef=.int .i64 kk:=hag.2.2 4 (by kernel_rfl);have e4:=gEx d4;have HSt:=hDx hst;clear hdep hfr hag hst;go_simp;exact hK _ _ trivial rfl HSt.out
           · intro k z v hk hst hag hdep hfr;refine .inl ⟨rfl,fun K hK=>?_⟩;have d36:z.tmps.getD 36 undef=.int .i64 kk:=hdep ⟨1,.data⟩ (by simp) rfl _ _ rfl rfl;have e36:=gEx d36;have hst:PfS gb x y zt w5 v:=hst;have HC:=hDx (refnum_any kk v);have HSt:=hDx hst;clear hdep hfr hag hst;go_simp;refine HC.out.mono ?_;rintro e w' ⟨u,rfl,hu,hb⟩;obtain rfl:u=sa:=bytes_eq (by rw [hu,HSa.out]);exact hK _ _ trivial rfl (HSt.out.below hb)
           · intro k z v hk hst hag hdep hfr;refine .inl ⟨rfl,fun K hK=>?_⟩;have d6:z.tmps.getD 6 undef=.pointer (some ⟨gb,0,none⟩):=hag.2.2 6 (by kernel_rfl);have e6:=gEx d6;have HSt:=hDx hst;clear hdep hfr hag hst;go_simp;exact hK _ _ trivial rfl HSt.out
           · intro k z v hk hst hag hdep hfr;refine .inl ⟨rfl,fun K hK=>?_⟩;have d38:z.tmps.getD 38 undef=.pointer (some ⟨gb,0,none⟩):=hdep ⟨3,.data⟩ (by simp) rfl _ _ rfl rfl;have e38:=gEx d38;have hst:PfS gb x y zt w5 v:=hst;have l0:=hst.c0;have HSt:=hDx hst;clear hdep hfr hag hst;go_simp;exact hK _ _ trivial rfl HSt.out
           · intro k z v hk hst hag hdep hfr;refine .inl ⟨rfl,fun K hK=>?_⟩;have d39:z.tmps.getD 39 undef=.int .i64 x:=hdep ⟨4,.data⟩ (by simp) rfl _ _ rfl rfl;have e39:=gEx d39;have hst:PfS gb x y zt w5 v:=hst;have HC:=hDx (refnum_any x v);have HSt:=hDx hst;clear hdep hfr hag hst;go_simp;refine HC.out.mono ?_;rintro e w' ⟨u,rfl,hu,hb⟩;obtain rfl:u=sb:=bytes_eq (by rw [hu,HSb.out]);exact hK _ _ trivial rfl (HSt.out.below hb)
           · intro k z v hk hst hag hdep hfr;refine .inl ⟨rfl,fun K hK=>?_⟩;have d37:z.tmps.getD 37 undef=.string sa:=hdep ⟨2,.data⟩ (by simp) rfl _ _ rfl rfl;have e37:=gEx d37;have d40:z.tmps.getD 40 undef=.string sb:=hdep ⟨5,.data⟩ (by simp) rfl _ _ rfl rfl;have e40:=gEx d40;have HSt:=hDx hst;have l9:=HSz.out;obtain ⟨l91,l92,l93,l94,l95⟩ := l9;clear hdep hfr hag hst;go_simp;rw [if_neg (by (try simp only [ByteArray.size_append]); omega)];exact hK _ _ trivial rfl HSt.out
           · intro k z v hk hst hag hdep hfr;refine .inl ⟨rfl,fun K hK=>?_⟩;have d6:z.tmps.getD 6 undef=.pointer (some ⟨gb,0,none⟩):=hag.2.2 6 (by kernel_rfl);have e6:=gEx d6;have HSt:=hDx hst;clear hdep hfr hag hst;go_simp;exact hK _ _ trivial rfl HSt.out
           · intro k z v hk hst hag hdep hfr;refine .inl ⟨rfl,fun K hK=>?_⟩;have d42:z.tmps.getD 42 undef=.pointer (some ⟨gb,1,none⟩):=hdep ⟨7,.data⟩ (by simp) rfl _ _ rfl rfl;have e42:=gEx d42;have hst:PfS gb x y zt w5 v:=hst;have l1:=hst.c1;have HSt:=hDx hst;clear hdep hfr hag hst;go_simp;exact hK _ _ trivial rfl HSt.out
           · intro k z v hk hst hag hdep hfr;refine .inl ⟨rfl,fun K hK=>?_⟩;have d43:z.tmps.getD 43 undef=.int .i64 y:=hdep ⟨8,.data⟩ (by simp) rfl _ _ rfl rfl;have e43:=gEx d43;have hst:PfS gb x y zt w5 v:=hst;have HC:=hDx (refnum_any y v);have HSt:=hDx hst;clear hdep hfr hag hst;go_simp;refine HC.out.mono ?_;rintro e w' ⟨u,rfl,hu,hb⟩;obtain rfl:u=sc:=bytes_eq (by rw [hu,HSc.out]);exact hK _ _ trivial rfl (HSt.out.below hb)
           · intro k z v hk hst hag hdep hfr;refine .inl ⟨rfl,fun K hK=>?_⟩;have d41:z.tmps.getD 41 undef=.string (sa++sb):=hdep ⟨6,.data⟩ (by simp) rfl _ _ rfl rfl;have e41:=gEx d41;have d44:z.tmps.getD 44 undef=.string sc:=hdep ⟨9,.data⟩ (by simp) rfl _ _ rfl rfl;have e44:=gEx d44;have HSt:=hDx hst;have l9:=HSz.out;obtain ⟨l91,l92,l93,l94,l95⟩ := l9;clear hdep hfr hag hst;go_simp;rw [if_neg (by (try simp only [ByteArray.size_append]); omega)];exact hK _ _ trivial rfl HSt.out
           · intro k z v hk hst hag hdep hfr;refine .inl ⟨rfl,fun K hK=>?_⟩;have d6:z.tmps.getD 6 undef=.pointer (some ⟨gb,0,none⟩):=hag.2.2 6 (by kernel_rfl);have e6:=gEx d6;have HSt:=hDx hst;clear hdep hfr hag hst;go_simp;exact hK _ _ trivial rfl HSt.out
           · intro k z v hk hst hag hdep hfr;refine .inl ⟨rfl,fun K hK=>?_⟩;have d46:z.tmps.getD 46 undef=.pointer (some ⟨gb,2,none⟩):=hdep ⟨11,.data⟩ (by simp) rfl _ _ rfl rfl;have e46:=gEx d46;have hst:PfS gb x y zt w5 v:=hst;have l2:=hst.c2;have HSt:=hDx hst;clear hdep hfr hag hst;go_simp;exact hK _ _ trivial rfl HSt.out
           · intro k z v hk hst hag hdep hfr;refine .inl ⟨rfl,fun K hK=>?_⟩;have d47:z.tmps.getD 47 undef=.int .i64 zt:=hdep ⟨12,.data⟩ (by simp) rfl _ _ rfl rfl;have e47:=gEx d47;have hst:PfS gb x y zt w5 v:=hst;have HC:=hDx (refnum_any zt v);have HSt:=hDx hst;clear hdep hfr hag hst;go_simp;refine HC.out.mono ?_;rintro e w' ⟨u,rfl,hu,hb⟩;obtain rfl:u=sd:=bytes_eq (by rw [hu,HSd.out]);exact hK _ _ trivial rfl (HSt.out.below hb)
           · intro k z v hk hst hag hdep hfr;refine .inl ⟨rfl,fun K hK=>?_⟩;have d45:z.tmps.getD 45 undef=.string (sa++sb++sc):=hdep ⟨10,.data⟩ (by simp) rfl _ _ rfl rfl;have e45:=gEx d45;have d48:z.tmps.getD 48 undef=.string sd:=hdep ⟨13,.data⟩ (by simp) rfl _ _ rfl rfl;have e48:=gEx d48;have HSt:=hDx hst;have l9:=HSz.out;obtain ⟨l91,l92,l93,l94,l95⟩ := l9;clear hdep hfr hag hst;go_simp;rw [if_neg (by (try simp only [ByteArray.size_append]); omega)];exact hK _ _ trivial rfl HSt.out
           · intro k z v hk hst hag hdep hfr;refine .inl ⟨rfl,fun K hK=>?_⟩;have d35:z.tmps.getD 35 undef=.string t:=hdep ⟨0,.data⟩ (by simp) rfl _ _ rfl rfl;have e35:=gEx d35;have d49:z.tmps.getD 49 undef=.string (sa++sb++sc++sd):=hdep ⟨14,.data⟩ (by simp) rfl _ _ rfl rfl;have e49:=gEx d49;have HSt:=hDx hst;have l9:=HSz.out;obtain ⟨l91,l92,l93,l94,l95⟩ := l9;clear hdep hfr hag hst;go_simp;rw [if_neg (by (try simp only [ByteArray.size_append]); omega)];exact hK _ _ trivial rfl HSt.out
           · intro k z v hk hst hag hdep hfr;refine .inl ⟨rfl,fun K hK=>?_⟩;have d50:z.tmps.getD 50 undef=.string (t++(sa++sb++sc++sd)):=hdep ⟨15,.data⟩ (by simp) rfl _ _ rfl rfl;have e50:=gEx d50;have HSt:=hDx hst;clear hdep hfr hag hst;go_simp;exact hK _ _ trivial rfl HSt.out
          case hdone =>
           intro z' v hst hag hok;have hb:PfS gb x y zt w5 v:=hst;have d3:z'.tmps.getD 3 undef=.string (t++(sa++sb++sc++sd)):=hok 16 _ 3 rfl rfl;have HBv:Hid (Below w1.heap.size w1 v):=hDx (HB5.out.trans (hb.b.mono HB5.out.size));clear hst hb;obtain ⟨uu,hu,hzz⟩ := agree_frame [35,36,37,38,39,40,41,42,43,44,45,46,47,48,49,50,3] rfl hag;have e3:=(hu 3).trans d3;subst hzz;simp only [List.foldl_cons,List.foldl_nil];rw [e3];clear e3 d3 hu hag hok
           try dsimp only [Exit.then]
           simp only [List.setIfInBounds_toArray,List.set_cons_succ,List.set_cons_zero];generalize uu 35=u35',uu 36=u36',uu 37=u37',uu 38=u38',uu 39=u39',uu 40=u40',uu 41=u41',uu 42=u42',uu 43=u43',uu 44=u44',uu 45=u45',uu 46=u46',uu 47=u47',uu 48=u48',uu 49=u49',uu 50=u50';clear uu
           go_wp2_with fail
           go_roundw
           case rel=>exact ⟨j+1,0,_,rfl,by first | rfl | go_num,by first | rfl | go_num,by omega,by omega,hDx ⟨HE.out,HBv.out⟩⟩
           case measure=>simp [intOf]; omega
      · have hd1:decide ((j:Int)+1<n)=false:=decide_eq_false (by omega);have hd2:decide (j+1<n)=false:=decide_eq_false hj1;have hdiff:∀ h2:j+1<r.l.length,r.l[j+1]≠r.l[j]:=fun h2=>absurd h2 (by rw [← HLn.out]; exact hj1)
        clear hAt;refine wp_region_quiet_below (by kernel_rfl) (by kernel_rfl) ?_
        repeat (go_big_quiet_step (fail))
        refine wpQuiet_nil ?_;intro _ hw';obtain ⟨⟨dq,osq⟩,hw''⟩ := hw';have hb9:=below_regrown wc dq osq;obtain ⟨w5,hw5⟩ : ∃ w9,Go.Sort.grow (redrawn wc dq) osq=w9:=⟨_,rfl⟩;rw [hw''];simp only;rw [hw5] at hb9 ⊢;have HB5:Hid (Below w1.heap.size w1 w5):=hDx (HBc.out.trans (hb9.mono HBc.out.size));clear hw'' hw5 s0 s1 s2 s3;have hpo:=packC_other r.l j k hjl hdiff;rw [hcx] at hpo;have h0:PfS gb x y zt w5 w5:=⟨Below.refl _ _,(hb9.block gb (gSx.1 HGc.out).1).trans HGc.out⟩;obtain ⟨kk,hkk⟩ : ∃ kk:Int,(k:Int)+1=kk:=⟨_,rfl⟩;obtain ⟨sa,hsa⟩ : ∃ sa:ByteArray,sa.data.toList=digs (clipN kk):=⟨⟨(digs (clipN kk)).toArray⟩,by simp⟩;obtain ⟨sb,hsb⟩ : ∃ sb:ByteArray,sb.data.toList=digs (clipN x):=⟨⟨(digs (clipN x)).toArray⟩,by simp⟩;obtain ⟨sc,hsc⟩ : ∃ sb:ByteArray,sb.data.toList=digs (clipN y):=⟨⟨(digs (clipN y)).toArray⟩,by simp⟩
        obtain ⟨sd,hsd⟩ : ∃ sb:ByteArray,sb.data.toList=digs (clipN zt):=⟨⟨(digs (clipN zt)).toArray⟩,by simp⟩;have HSa:=hDx hsa;have HSb:=hDx hsb;have HSc:=hDx hsc;have HSd:=hDx hsd;have H0:=hDx h0;have HSz:Hid ((sa.size:Int)≤9∧(sb.size:Int)≤9∧(sc.size:Int)≤9∧(sd.size:Int)≤9∧(t.size:Int)≤1000000):=hDx (by
         have hz:∀ u:ByteArray,u.size=u.data.toList.length:=fun _=>rfl
         have e1:=hz sa;have e2:=hz sb;have e3:=hz sc;have e4:=hz sd;have e5:=hz t;rw [hsa] at e1;rw [hsb] at e2;rw [hsc] at e3;rw [hsd] at e4;have n1:=digs_nine (clipN kk) (clipN_le _);have n2:=digs_nine (clipN x) (clipN_le _);have n3:=digs_nine (clipN y) (clipN_le _);have n4:=digs_nine (clipN zt) (clipN_le _);have n5:=HTl.out;omega)
        have HE:Hid ((t++(sa++sb++sc++sd)).data.toList++packC 0 (r.l.drop (j+1))=digs (clipN (wrapN r.wrapped))++packC 0 r.l):=hDx (by
         rw [← HT.out,hpo,append_list,append_list,append_list,append_list,hsa,hsb,hsc,hsd,← hkk];unfold runB;have e:(((k+1:Nat)):Int)=(k:Int)+1:=by omega
         rw [e];simp only [List.append_assoc])
        clear hb9 hpo h0 hsa hsb hsc hsd hdiff
        go_upto_region 10 with fail
        rw [hkk];refine wp_region_kept [] [0,0,0,0,0,0,0,0,0,0,0,0,0,0,0,0,0] (by kernel_rfl) (fun _ _ u=>PfS gb x y zt w5 u) (fun _ _=>True) (PfOk gb kk x y zt t sa sb sc sd) (by rfl) (by kernel_rfl) (by kernel_rfl) (by kernel_rfl) (by kernel_rfl) ?hcong ?hOk ?hop ?hdone ?h0
        case hcong=>exact fun k f f2 u hs hst=>hst
        case hOk=>intro i u w1 w2 h hr; unfold PfOk at h ⊢; split <;> first | exact True.intro | exact h
        case h0=>exact H0.out.below ((Below.refl _ _).drew)
        case hop =>
         refine ⟨?_,?_,?_,?_,?_,?_,?_,?_,?_,?_,?_,?_,?_,?_,?_,?_,?_,trivial⟩
         · intro k z v hk hst hag hdep hfr;refine .inl ⟨rfl,fun K hK=>?_⟩;have d3:z.tmps.getD 3 undef=.string t:=hfr 3 (by kernel_rfl);have e3:=gEx d3;have HSt:=hDx hst;clear hdep hfr hag hst;go_simp;exact hK _ _ trivial rfl HSt.out
         · intro k z v hk hst hag hdep hfr;refine .inl ⟨rfl,fun K hK=>?_⟩;have d4:z.tmps.getD 4 undef=.int .i64 kk:=hag.2.2 4 (by kernel_rfl);have e4:=gEx d4;have HSt:=hDx hst;clear hdep hfr hag hst;go_simp;exact hK _ _ trivial rfl HSt.out
         · intro k z v hk hst hag hdep hfr;refine .inl ⟨rfl,fun K hK=>?_⟩;have d36:z.tmps.getD 36 undef=.int .i64 kk:=hdep ⟨1,.data⟩ (by simp) rfl _ _ rfl rfl;have e36:=gEx d36;have hst:PfS gb x y zt w5 v:=hst;have HC:=hDx (refnum_any kk v);have HSt:=hDx hst;clear hdep hfr hag hst;go_simp;refine HC.out.mono ?_;rintro e w' ⟨u,rfl,hu,hb⟩;obtain rfl:u=sa:=bytes_eq (by rw [hu,HSa.out]);exact hK _ _ trivial rfl (HSt.out.below hb)
         · intro k z v hk hst hag hdep hfr;refine .inl ⟨rfl,fun K hK=>?_⟩;have d6:z.tmps.getD 6 undef=.pointer (some ⟨gb,0,none⟩):=hag.2.2 6 (by kernel_rfl);have e6:=gEx d6;have HSt:=hDx hst;clear hdep hfr hag hst;go_simp;exact hK _ _ trivial rfl HSt.out
         · intro k z v hk hst hag hdep hfr;refine .inl ⟨rfl,fun K hK=>?_⟩;have d38:z.tmps.getD 38 undef=.pointer (some ⟨gb,0,none⟩):=hdep ⟨3,.data⟩ (by simp) rfl _ _ rfl rfl;have e38:=gEx d38;have hst:PfS gb x y zt w5 v:=hst;have l0:=hst.c0;have HSt:=hDx hst;clear hdep hfr hag hst;go_simp;exact hK _ _ trivial rfl HSt.out
         · intro k z v hk hst hag hdep hfr;refine .inl ⟨rfl,fun K hK=>?_⟩;have d39:z.tmps.getD 39 undef=.int .i64 x:=hdep ⟨4,.data⟩ (by simp) rfl _ _ rfl rfl;have e39:=gEx d39;have hst:PfS gb x y zt w5 v:=hst;have HC:=hDx (refnum_any x v);have HSt:=hDx hst;clear hdep hfr hag hst;go_simp;refine HC.out.mono ?_;rintro e w' ⟨u,rfl,hu,hb⟩;obtain rfl:u=sb:=bytes_eq (by rw [hu,HSb.out]);exact hK _ _ trivial rfl (HSt.out.below hb)
         · intro k z v hk hst hag hdep hfr;refine .inl ⟨rfl,fun K hK=>?_⟩;have d37:z.tmps.getD 37 undef=.string sa:=hdep ⟨2,.data⟩ (by simp) rfl _ _ rfl rfl;have e37:=gEx d37;have d40:z.tmps.getD 40 undef=.string sb:=hdep ⟨5,.data⟩ (by simp) rfl _ _ rfl rfl;have e40:=gEx d40;have HSt:=hDx hst;have l9:=HSz.out;obtain ⟨l91,l92,l93,l94,l95⟩ := l9;clear hdep hfr hag hst;go_simp;rw [if_neg (by (try simp only [ByteArray.size_append]); omega)];exact hK _ _ trivial rfl HSt.out
         · intro k z v hk hst hag hdep hfr;refine .inl ⟨rfl,fun K hK=>?_⟩;have d6:z.tmps.getD 6 undef=.pointer (some ⟨gb,0,none⟩):=hag.2.2 6 (by kernel_rfl);have e6:=gEx d6;have HSt:=hDx hst;clear hdep hfr hag hst;go_simp;exact hK _ _ trivial rfl HSt.out
         · intro k z v hk hst hag hdep hfr;refine .inl ⟨rfl,fun K hK=>?_⟩;have d42:z.tmps.getD 42 undef=.pointer (some ⟨gb,1,none⟩):=hdep ⟨7,.data⟩ (by simp) rfl _ _ rfl rfl;have e42:=gEx d42;have hst:PfS gb x y zt w5 v:=hst;have l1:=hst.c1;have HSt:=hDx hst;clear hdep hfr hag hst;go_simp;exact hK _ _ trivial rfl HSt.out
         · intro k z v hk hst hag hdep hfr;refine .inl ⟨rfl,fun K hK=>?_⟩;have d43:z.tmps.getD 43 undef=.int .i64 y:=hdep ⟨8,.data⟩ (by simp) rfl _ _ rfl rfl;have e43:=gEx d43;have hst:PfS gb x y zt w5 v:=hst;have HC:=hDx (refnum_any y v);have HSt:=hDx hst;clear hdep hfr hag hst;go_simp;refine HC.out.mono ?_;rintro e w' ⟨u,rfl,hu,hb⟩;obtain rfl:u=sc:=bytes_eq (by rw [hu,HSc.out]);exact hK _ _ trivial rfl (HSt.out.below hb)
         · intro k z v hk hst hag hdep hfr;refine .inl ⟨rfl,fun K hK=>?_⟩;have d41:z.tmps.getD 41 undef=.string (sa++sb):=hdep ⟨6,.data⟩ (by simp) rfl _ _ rfl rfl;have e41:=gEx d41;have d44:z.tmps.getD 44 undef=.string sc:=hdep ⟨9,.data⟩ (by simp) rfl _ _ rfl rfl;have e44:=gEx d44;have HSt:=hDx hst;have l9:=HSz.out;obtain ⟨l91,l92,l93,l94,l95⟩ := l9;clear hdep hfr hag hst;go_simp;rw [if_neg (by (try simp only [ByteArray.size_append]); omega)];exact hK _ _ trivial rfl HSt.out
         · intro k z v hk hst hag hdep hfr;refine .inl ⟨rfl,fun K hK=>?_⟩;have d6:z.tmps.getD 6 undef=.pointer (some ⟨gb,0,none⟩):=hag.2.2 6 (by kernel_rfl);have e6:=gEx d6;have HSt:=hDx hst;clear hdep hfr hag hst;go_simp;exact hK _ _ trivial rfl HSt.out
         · intro k z v hk hst hag hdep hfr;refine .inl ⟨rfl,fun K hK=>?_⟩;have d46:z.tmps.getD 46 undef=.pointer (some ⟨gb,2,none⟩):=hdep ⟨11,.data⟩ (by simp) rfl _ _ rfl rfl;have e46:=gEx d46;have hst:PfS gb x y zt w5 v:=hst;have l2:=hst.c2;have HSt:=hDx hst;clear hdep hfr hag hst;go_simp;exact hK _ _ trivial rfl HSt.out
         · intro k z v hk hst hag hdep hfr;refine .inl ⟨rfl,fun K hK=>?_⟩;have d47:z.tmps.getD 47 undef=.int .i64 zt:=hdep ⟨12,.data⟩ (by simp) rfl _ _ rfl rfl;have e47:=gEx d47;have hst:PfS gb x y zt w5 v:=hst;have HC:=hDx (refnum_any zt v);have HSt:=hDx hst;clear hdep hfr hag hst;go_simp;refine HC.out.mono ?_;rintro e w' ⟨u,rfl,hu,hb⟩;obtain rfl:u=sd:=bytes_eq (by rw [hu,HSd.out]);exact hK _ _ trivial rfl (HSt.out.below hb)
         · intro k z v hk hst hag hdep hfr;refine .inl ⟨rfl,fun K hK=>?_⟩;have d45:z.tmps.getD 45 undef=.string (sa++sb++sc):=hdep ⟨10,.data⟩ (by simp) rfl _ _ rfl rfl;have e45:=gEx d45;have d48:z.tmps.getD 48 undef=.string sd:=hdep ⟨13,.data⟩ (by simp) rfl _ _ rfl rfl;have e48:=gEx d48;have HSt:=hDx hst;have l9:=HSz.out;obtain ⟨l91,l92,l93,l94,l95⟩ := l9;clear hdep hfr hag hst;go_simp;rw [if_neg (by (try simp only [ByteArray.size_append]); omega)];exact hK _ _ trivial rfl HSt.out
         · intro k z v hk hst hag hdep hfr;refine .inl ⟨rfl,fun K hK=>?_⟩;have d35:z.tmps.getD 35 undef=.string t:=hdep ⟨0,.data⟩ (by simp) rfl _ _ rfl rfl;have e35:=gEx d35;have d49:z.tmps.getD 49 undef=.string (sa++sb++sc++sd):=hdep ⟨14,.data⟩ (by simp) rfl _ _ rfl rfl;have e49:=gEx d49;have HSt:=hDx hst;have l9:=HSz.out;obtain ⟨l91,l92,l93,l94,l95⟩ := l9;clear hdep hfr hag hst;go_simp;rw [if_neg (by (try simp only [ByteArray.size_append]); omega)];exact hK _ _ trivial rfl HSt.out
         · intro k z v hk hst hag hdep hfr;refine .inl ⟨rfl,fun K hK=>?_⟩;have d50:z.tmps.getD 50 undef=.string (t++(sa++sb++sc++sd)):=hdep ⟨15,.data⟩ (by simp) rfl _ _ rfl rfl;have e50:=gEx d50;have HSt:=hDx hst;clear hdep hfr hag hst;go_simp;exact hK _ _ trivial rfl HSt.out
        case hdone =>
         intro z' v hst hag hok;have hb:PfS gb x y zt w5 v:=hst;have d3:z'.tmps.getD 3 undef=.string (t++(sa++sb++sc++sd)):=hok 16 _ 3 rfl rfl;have HBv:Hid (Below w1.heap.size w1 v):=hDx (HB5.out.trans (hb.b.mono HB5.out.size));clear hst hb;obtain ⟨uu,hu,hzz⟩ := agree_frame [35,36,37,38,39,40,41,42,43,44,45,46,47,48,49,50,3] rfl hag;have e3:=(hu 3).trans d3;subst hzz;simp only [List.foldl_cons,List.foldl_nil];rw [e3];clear e3 d3 hu hag hok
         try dsimp only [Exit.then]
         simp only [List.setIfInBounds_toArray,List.set_cons_succ,List.set_cons_zero];generalize uu 35=u35',uu 36=u36',uu 37=u37',uu 38=u38',uu 39=u39',uu 40=u40',uu 41=u41',uu 42=u42',uu 43=u43',uu 44=u44',uu 45=u45',uu 46=u46',uu 47=u47',uu 48=u48',uu 49=u49',uu 50=u50';clear uu
         go_wp2_with fail
         go_roundw
         case rel=>exact ⟨j+1,0,_,rfl,by first | rfl | go_num,by first | rfl | go_num,by omega,by omega,hDx ⟨HE.out,HBv.out⟩⟩
         case measure=>simp [intOf]; omega
    · obtain rfl:j=n:=by omega
      have hd:decide (j<j)=false:=by simp
      have hend:Hid (P (.returned (.string t)) wr):=hDx (by
       rw [← HP.out];refine ⟨t,rfl,?_,HB1.out.trans (HF.out.2.mono HB1.out.size)⟩;have h:=HF.out.1;rw [List.drop_of_length_le (by rw [← HLn.out]; exact Nat.le_refl _)] at h
       simpa [packC,packR] using h)
      clear HF hlt
      go_wp2_with fail
      exact hend.out
end Go.Proofs.YtagolklnjhpbdaaDoor.K
