import Derived.Test.YtagolklnjhpbdaaDoorMerged0
import Derived.Test.YtagolklnjhpbdaaDoorMerged18
import Derived.Test.YtagolklnjhpbdaaDoorMerged19
import Derived.Test.YtagolklnjhpbdaaDoorMerged14
import Derived.Test.YtagolklnjhpbdaaDoorMerged3
namespace Go.Proofs.YtagolklnjhpbdaaDoor.K
open Go.Proofs.YtagolklnjhpbdaaDoor.R (agree_frame mem_slots slot_same slotsP_all wp_region_kept)
open Go.RowKit Go.Proofs.YtagolklnjhpbdaaDoor.I
def cutN (s:Sn):Sn:={ s with t:=⟨(s.t.data.toList.take 210).toArray⟩,R:=(s.R.take 8).map cutR,B:=s.B.take 30 }
structure SnO (m:Nat) (xa:Option Addr) (xn xc:Nat) (ya:Option Addr) (yn yc:Nat) (s:Sn) (w:World):Prop where
 g:GatR m (.slice xa xn xc) s.R w
 q:OwnQ .i32 111 m (.slice ya yn yc) s.B w
section
variable {m p xn xc yn yc:Nat} {xa ya:Option Addr} {s:Sn} {w w':World}
theorem SnO.snIn (h:SnO m xa xn xc ya yn yc s w):SnIn .i32 xa xn xc ya yn yc s w:=by
 obtain ⟨a,c,e,h3,h4,-⟩ := h.q.shape;injection e with e1 e2 e3
 subst e1 e2 e3;exact ⟨h.g.rowsL (fun p hp=>by cases hp),h3,h4⟩
theorem SnO.below (h:SnO m xa xn xc ya yn yc s w) (hb:Below w.heap.size w w'):SnO m xa xn xc ya yn yc s w':=⟨h.g.below hb,h.q.below hb⟩
theorem SnO.grown (h:SnO m xa xn xc ya yn yc s w) (hg:w.grownBy w' (some p)) (hp:p<m):SnO m xa xn xc ya yn yc s w':=⟨h.g.grown hg hp,ownQ_grown h.q hg hp⟩
theorem SnO.weaken {m':Nat} (h:SnO m xa xn xc ya yn yc s w) (hm:m'≤m):SnO m' xa xn xc ya yn yc s w:=⟨h.g.weaken hm,h.q.weaken hm⟩
end
def CutPost (s:Sn) (w:World) (e:Ending) (w':World):Prop:=∃ xa xn xc ya yn yc,e=.returned (.agg (snA (cutN s) xa xn xc ya yn yc))∧SnO w.heap.size xa xn xc ya yn yc (cutN s) w'∧Below w.heap.size w w'
theorem PairsIn.frontN {rk:IntKind} {a:Option Addr} {n c m:Nat} {l:List (Int × Int)} {w:World} (h:PairsIn rk a n c l w) (hm:m≤n):PairsIn rk a m c (l.take m) w:=by
 have hl:=h.len;have hf:=h.fit;refine ⟨by rw [List.length_take]; omega,by omega,h.top,?_⟩;rcases h.at_ with h0 | ⟨b,off,e,hb,hA⟩
 · exact .inl (by rw [h0,List.take_nil])
 · exact .inr ⟨b,off,e,hb,fun i g hg=>hA i g (by
    have hi:=(List.getElem?_eq_some_iff.1 hg).1;rw [List.length_take] at hi;rw [List.getElem?_take] at hg
    split at hg
    · exact hg
    · cases hg)⟩
def CuS (rb:Nat) (v0:Value) (rs:List Ro) (r:Ro) (xb:Bool) (w:World):Nat→(Nat→Value)→World→Prop
  | 0,_,u=>Rw0 rb v0 rs w u
  | 1,f,u=>Rw0 rb v0 rs w u∧∃ a c,f 43=.agg #[.slice a (r.l.take 40).length c,.bool xb]∧RowV .i32 (.agg #[.slice a (r.l.take 40).length c,.bool xb]) (cutR r) u∧∀ b o,a=some ⟨b,o,none⟩→(∀ q,v0.ownBlock=some q→b≠q)∧rb≤b∧b<u.heap.size
  | 2,f,u=>Rw0 rb v0 rs w u∧∃ q,f 44=.slice (some ⟨q,0,none⟩) 1 1∧∃ a n c b,u.heap[q]?=some (.cells #[.slice a n c,.bool b] 57 (0,0))∧RowV .i32 (.agg #[.slice a n c,.bool b]) (cutR r) u∧∀ b o,a=some ⟨b,o,none⟩→(∀ q,v0.ownBlock=some q→b≠q)∧rb≤b∧b<u.heap.size
  | 3,f,u=>∃ v,f 45=v∧Rw0 rb v (rs++[cutR r]) w u
  | _,f,u=>∃ v,f 3=v∧Rw0 rb v (rs++[cutR r]) w u
section
variable {rb:Nat} {v0:Value} {rs:List Ro} {r:Ro} {xb:Bool} {w u:World} {k:Nat} {f f2:Nat→Value}
theorem CuS.base (hk:k≤2) (h:CuS rb v0 rs r xb w k f u):Rw0 rb v0 rs w u:=by
 match k,hk,h with
 | 0,_,h=>exact h
 | 1,_,h=>exact h.1
 | 2,_,h=>exact h.1
theorem CuS.cong (e1:k=1→f 43=f2 43) (e2:k=2→f 44=f2 44) (e3:k=3→f 45=f2 45) (e4:4≤k→f 3=f2 3) (h:CuS rb v0 rs r xb w k f u):CuS rb v0 rs r xb w k f2 u:=by
 match k,h,e1,e2,e3,e4 with
 | 0,h,_,_,_,_=>exact h
 | 1,⟨h,a,c,e,h2⟩,e1,_,_,_=>exact ⟨h,a,c,by rw [← e1 rfl]; exact e,h2⟩
 | 2,⟨h,q,e,h2⟩,_,e2,_,_=>exact ⟨h,q,by rw [← e2 rfl]; exact e,h2⟩
 | 3,⟨v,e,h⟩,_,_,e3,_=>exact ⟨v,by rw [← e3 rfl]; exact e,h⟩
 | _+4,⟨v,e,h⟩,_,_,_,e4=>exact ⟨v,by rw [← e4 (by omega)]; exact e,h⟩
end
def CuOk7 (oa:Option Addr) (oc j rb ab ao rn rc:Nat) (xa:Option Addr) (xn xc:Nat) (xb:Bool):Nat→Value→World→Prop
  | 0,u,_=>u=.slice oa j oc
  | 1,u,_=>u=.pointer (some ⟨rb,6,none⟩)
  | 2,u,_=>u=.slice (some ⟨ab,ao,none⟩) rn rc
  | 3,u,_=>u=.int .i64 (j:Int)
  | 4,u,_=>u=.pointer (some ⟨ab,ao+j*2,none⟩)
  | 5,u,_=>u=.pointer (some ⟨ab,ao+j*2,none⟩)
  | 6,u,_=>u=.slice xa xn xc
  | 7,u,_=>u=.pointer (some ⟨rb,6,none⟩)
  | 8,u,_=>u=.slice (some ⟨ab,ao,none⟩) rn rc
  | 9,u,_=>u=.int .i64 (j:Int)
  | 10,u,_=>u=.pointer (some ⟨ab,ao+j*2,none⟩)
  | 11,u,_=>u=.pointer (some ⟨ab,ao+j*2+1,none⟩)
  | 12,u,_=>u=.bool xb
  | 13,_,_=>True
  | 14,_,_=>True
  | 15,_,_=>True
  | 16,_,_=>True
  | _,_,_=>True
set_option maxRecDepth 100000 in
set_option maxHeartbeats 16000000 in
theorem ncut_any (s:Sn) (ra:Option Addr) (rn rc:Nat) (ga:Option Addr) (gn gc:Nat) (w:World) (hI:SnIn .i32 ra rn rc ga gn gc s w) (ht:(s.t.size:Int)≤9223372036854775807) :
    Calls Tryd.prog 8 #[.agg (snA s ra rn rc ga gn gc)] w (CutPost s w):=by
 obtain ⟨rb,hrb⟩ : ∃ rb,w.heap.size=rb:=⟨_,rfl⟩;obtain ⟨P,hP⟩ : ∃ P,CutPost s w=P:=⟨_,rfl⟩;rw [hP];have HP:=hDx hP;have hr0:=hI.rows;have hg0:=hI.beg;have hgn0:=hI.nil;obtain ⟨k,W,h,x,y,t,R,n,c,B⟩ := s;unfold snA;simp only at hr0 hg0 hgn0 ht ⊢;obtain ⟨w1,hw1⟩ : ∃ w1,(w.alloc (.cells #[.int .i64 k,.int .i64 W,.int .i64 h,.int .i64 x,.int .i64 y,.string t,.slice ra rn rc,.int .i64 n,.int .i64 c,.slice ga gn gc] 25)).alloc (.cells #[.int .i64 0,.int .i64 0,.int .i64 0,.int .i64 0,.int .i64 0,.string ⟨#[]⟩,.slice none 0 0,.int .i64 0,.int .i64 0,.slice none 0 0] 25)=w1:=⟨_,rfl⟩;have b1:Below w.heap.size w (w.alloc (.cells #[.int .i64 k,.int .i64 W,.int .i64 h,.int .i64 x,.int .i64 y,.string t,.slice ra rn rc,.int .i64 n,.int .i64 c,.slice ga gn gc] 25)):=(Below.refl _ _).alloc (Nat.le_refl _) _;have hb1:Below rb w w1:=by rw [← hw1,← hrb]; exact b1.alloc (by rw [World.size_alloc]; omega) _
 have hz1:w1.heap[rb]?=some (.cells #[.int .i64 k,.int .i64 W,.int .i64 h,.int .i64 x,.int .i64 y,.string t,.slice ra rn rc,.int .i64 n,.int .i64 c,.slice ga gn gc] 25 (0,0)):=by
  rw [← hw1,← hrb,Below.heap_alloc _ _ _ (by rw [World.size_alloc]; omega)];exact heap_alloc_new w _
 have ho1:w1.heap[rb+1]?=some (.cells #[.int .i64 0,.int .i64 0,.int .i64 0,.int .i64 0,.int .i64 0,.string ⟨#[]⟩,.slice none 0 0,.int .i64 0,.int .i64 0,.slice none 0 0] 25 (0,0)):=by
  have h:=heap_alloc_new (w.alloc (.cells #[.int .i64 k,.int .i64 W,.int .i64 h,.int .i64 x,.int .i64 y,.string t,.slice ra rn rc,.int .i64 n,.int .i64 c,.slice ga gn gc] 25)) (.cells #[.int .i64 0,.int .i64 0,.int .i64 0,.int .i64 0,.int .i64 0,.string ⟨#[]⟩,.slice none 0 0,.int .i64 0,.int .i64 0,.slice none 0 0] 25);rw [World.size_alloc,hrb,hw1] at h;exact h
 have HCu:Hid (∀ v,Calls Tryd.prog 19 #[.string t,.int .i64 210] v fun e w'=>(∃ t':ByteArray,e=.returned (.string t')∧(t'.size:Int)≤210∧t'.data.toList=t.data.toList.take 210)∧v=w'):=hDx (fun v=>cut_any t 210 ht (by decide) v);have HRb:=hDx hrb;have HW1:=hDx hw1;have HB1:=hDx hb1;have HR0:=hDx hr0;have HG0:=hDx hg0;have HGn:=hDx hgn0;have c5:w1.cell? ⟨rb,5,none⟩=some (.string t):=by rw [cell_block hz1]; rfl
 have f5:=frozen_block hz1 5;have hz1':=hz1;have hgnI:(gn:Int)≤9223372036854775807:=by have h1:=hg0.fit; have h2:=hg0.top; omega
 have hgcI:(gc:Int)≤9223372036854775807:=hg0.top;have hgf:(gn:Int)≤gc:=by have:=hg0.fit; omega
 obtain ⟨m,hm⟩ : ∃ m,min gn 30=m:=⟨_,rfl⟩;have hmn:min (gn:Int) 30=(m:Int):=by omega
 have hmg:m≤gn∧m≤30:=by omega
 have HMg:=hDx hmg;have HM:=hDx hm;have hmc:(m:Int)≤gc:=by omega
 have hmc':m≤gc:=by omega
 have hrnI:(rn:Int)≤9223372036854775807:=by obtain ⟨us,h1,-⟩ := hr0.ex; have h2:=h1.fit; have h3:=h1.top; omega
 have HZ1:=hDx hz1;have HO1:=hDx ho1;clear hP hrb hw1 hb1 hz1 hz1' ho1 b1 hr0 hg0 hgn0 hI ht hm hmg
 go_enter Tryd.func8,Tryd.ntmps8
 go_upto_region 1 with fail
 rw [HW1.out,HRb.out]
 go_wp2_with fail
 refine (HCu.out w1).mono ?_;rintro e w2 ⟨⟨t2,rfl,-,ht2⟩,rfl⟩;have HT2:Hid (t2=⟨(t.data.toList.take 210).toArray⟩):=hDx (bytes_eqN (by rw [ht2]));obtain ⟨w3,hw3⟩ : ∃ w3,w1.setCell ⟨rb,5,none⟩ (.string t2)=w3:=⟨_,rfl⟩;have hz3:w3.heap[rb]?=some (.cells #[.int .i64 k,.int .i64 W,.int .i64 h,.int .i64 x,.int .i64 y,.string t2,.slice ra rn rc,.int .i64 n,.int .i64 c,.slice ga gn gc] 25 (0,0)):=by
  have h:=HZ1.out;rw [← hw3];simp [World.setCell,Array.getElem?_modify,h]
 have ho3:w3.heap[rb+1]?=some (.cells #[.int .i64 0,.int .i64 0,.int .i64 0,.int .i64 0,.int .i64 0,.string ⟨#[]⟩,.slice none 0 0,.int .i64 0,.int .i64 0,.slice none 0 0] 25 (0,0)):=by rw [← hw3,Below.heap_setCell _ _ _ _ (by show rb+1≠rb; omega)]; exact HO1.out
 have hb3:Below rb w w3:=by rw [← hw3]; exact HB1.out.setCell (p:=⟨rb,5,none⟩) (Nat.le_refl _) _
 have hs3:rb+2≤w3.heap.size:=(gSx.1 ho3).1;have HW3:=hDx hw3;have c9:w3.cell? ⟨rb,9,none⟩=some (.slice ga gn gc):=by rw [cell_block hz3]; rfl
 have c9':(w3.alloc (.cells #[] 111)).cell? ⟨rb,9,none⟩=some (.slice ga gn gc):=by
  rw [show (w3.alloc (.cells #[] 111)).cell? ⟨rb,9,none⟩=w3.cell? ⟨rb,9,none⟩ from ((Below.refl w3.heap.size w3).alloc (Nat.le_refl _) _).cell (p:=⟨rb,9,none⟩) (by show rb<_; omega)];exact c9
 have hQ:OwnQ .i32 111 (rb+2) (.slice (some ⟨w3.heap.size,0,none⟩) 0 0) [] (w3.alloc (.cells #[] 111)):=(OwnP.lit .i32 111 w3 (rb+2) hs3).toQ;have hG3:PairsIn .i32 ga m gc (B.take m) (w3.alloc (.cells #[] 111)):=(HG0.out.belowAll (by rw [HRb.out]; exact hb3.alloc (by omega) _)).frontN HMg.out.1;have HQ3:=hDx hQ;have HG3:=hDx hG3;have HZ3:=hDx hz3;have HO3:=hDx ho3;have HB3:=hDx hb3;have HS3:=hDx hs3;have HBl:Hid (((B.take m).length:Int)≤1000000):=hDx (by rw [List.length_take]; have:=HMg.out; omega);clear ht2 hw3 hz3 ho3 hb3 hs3 hQ hG3 HCu
 go_upto_region 2 with fail
 rw [HW3.out];clear c5 f5
 go_wp2_with (at_builtin; refine wpList_append_q gluT rfl _ _ rfl rfl (rb+2) _ [] _ _ _ (B.take m) rfl rfl HQ3.out HG3.out (by decide) HBl.out (by rw [World.size_alloc]; have:=HS3.out; omega) ?_)
 intro v' w5 hq5;have hown:=hq5.own
 (try rw [List.nil_append] at hown)
 have hb5:Below (rb+2) (w3.alloc (.cells #[] 111)) w5:=(Below.refl _ _).grown hq5.grown (by rw [World.size_alloc]; have:=HS3.out; omega) (fun q hq=>(HQ3.out.own q hq).1);have hb35:Below (rb+2) w3 w5:=((Below.refl _ _).alloc HS3.out _).trans hb5;have hz5:=(hb35.block rb (by omega)).trans HZ3.out;have ho5:=(hb35.block (rb+1) (by omega)).trans HO3.out;obtain ⟨ya,yc,rfl,-⟩ := hown.shape;have hbl:(B.take m).length=m:=by rw [List.length_take]; have:=HMg.out; have:=HG0.out.len; omega
 have hbt:B.take m=B.take 30:=by
  have h1:=HG0.out.len;have h2:=HM.out;rcases Nat.lt_or_ge gn 30 with h | h
  · rw [List.take_of_length_le (by omega),List.take_of_length_le (by omega)]
  · rw [show m=30 by omega]
 rw [hbl] at hown ⊢;have c9:w5.cell? ⟨rb,9,none⟩=some (.slice ga gn gc):=by rw [cell_block hz5]; rfl
 have f9:=frozen_block hz5 9;obtain ⟨wS,hwS⟩ : ∃ w6,w5.setCell ⟨rb,9,none⟩ (.slice ya m yc)=w6:=⟨_,rfl⟩;have hzS:wS.heap[rb]?=some (.cells #[.int .i64 k,.int .i64 W,.int .i64 h,.int .i64 x,.int .i64 y,.string t2,.slice ra rn rc,.int .i64 n,.int .i64 c,.slice ya m yc] 25 (0,0)):=by
  rw [← hwS];simp [World.setCell,Array.getElem?_modify,hz5]
 have hoS:wS.heap[rb+1]?=some (.cells #[.int .i64 0,.int .i64 0,.int .i64 0,.int .i64 0,.int .i64 0,.string ⟨#[]⟩,.slice none 0 0,.int .i64 0,.int .i64 0,.slice none 0 0] 25 (0,0)):=by rw [← hwS,Below.heap_setCell _ _ _ _ (by show rb+1≠rb; omega)]; exact ho5
 have hQS:OwnQ .i32 111 (rb+2) (.slice ya m yc) (B.take 30) wS:=by
  rw [← hwS,← hbt];exact ownQ_grown hown (grown_set w5 rb 9 _) (by omega)
 have hbS:Below rb w wS:=by
  rw [← hwS];exact (HB3.out.trans (hb35.mono (by omega))).setCell (p:=⟨rb,9,none⟩) (Nat.le_refl _) _
 obtain ⟨bs,hbs⟩ : ∃ b,wS.heap.size=b:=⟨_,rfl⟩;have hsz:rb+1<bs:=by rw [← hbs]; exact (gSx.1 hoS).1
 have HSz:=hDx hsz;have HSbs:Hid (rb<bs):=hDx (by omega);have HBs:=hDx hbs;have HZS:=hDx hzS;have HOS:=hDx hoS;have HQS:=hDx hQS;have HBS:=hDx hbS;have HRS:=hDx (HR0.out.below (show Below w.heap.size w wS from by rw [HRb.out]; exact hbS));have HLn:=hDx HR0.out.len;have HWS:=hDx hwS;clear hq5 hown hb5 hb35 hz5 ho5 hbl hbt hwS hzS hoS hQS hbS hbs hsz hgnI hgcI hgf hmn hmc hmc'
 go_upto_region 3 with fail
 rw [HWS.out];clear c9 f9
 try clear c9'
 go_wp2_with fail
 go_loopw [3,4] (fun u i wr=>∃ j:Nat,i=.int .i64 (j:Int)∧j≤rn∧j≤8∧Hid (Rw0 bs u ((R.take j).map cutR) wS wr)) (fun _ i _=>rn - (intOf i).toNat)
 case atStart=>exact ⟨0,rfl,Nat.zero_le _,Nat.zero_le _,hDx ⟨GatR.nil _ _,Below.refl _ _,by rw [HBs.out]; exact Nat.le_refl _⟩⟩
 case round =>
  obtain ⟨j,rfl,hj,hj8,HF⟩ := hrel;by_cases hgo:j<rn∧j<8
  · have d1:decide (j<rn)=true:=decide_eq_true hgo.1;have d2:decide (j<8)=true:=decide_eq_true hgo.2;have d2':decide ((j:Int)<8)=true:=decide_eq_true (by omega);have hjI:(j:Int)<rn:=by omega
    have hjM:(j:Int)<8:=by omega
    have hjl:j<R.length:=by rw [← HLn.out]; exact hgo.1
    obtain ⟨us0,hin,hrv,-⟩ := HRS.out.ex;have hju:j<us0.length:=by rw [hrv.1]; exact hjl
    obtain ⟨ab,ao,rfl,hab,hAt⟩ := hin.at_.resolve_left (by intro e; rw [e] at hju; simp at hju);have hat:=hAt j us0[j] (List.getElem?_eq_getElem hju);have hrj:=hrv.2 j us0[j] R[j] (List.getElem?_eq_getElem hju) (List.getElem?_eq_getElem hjl);have htk:=List.take_succ_eq_append_getElem hjl;obtain ⟨⟨xa,xn,xc,xb⟩,hu⟩ : ∃ u,us0[j]=u:=⟨_,rfl⟩;obtain ⟨r,hre⟩ : ∃ r,R[j]=r:=⟨_,rfl⟩;rw [hu] at hat hrj;rw [hre] at hrj htk;unfold Rv.val at hrj;simp only at hrj hat;obtain ⟨hxb,hcl,hnl,hft,htp,hxl⟩ := hrj.of;have HAb:Hid (ab<bs):=hDx (by rw [← HBs.out]; exact hab);have HK0:=hDx hat.1;have HK1:=hDx hat.2;have HCl:=hDx hcl;have HNl:=hDx hnl;have HFt:=hDx hft;have HTp:=hDx htp;have HXb:=hDx hxb;have HLs:Hid (wS.cell? ⟨rb,6,none⟩=some (.slice (some ⟨ab,ao,none⟩) rn rc)):=hDx (by rw [cell_block HZS.out]; rfl);obtain ⟨rs,hrs⟩ : ∃ rs,(R.take j).map cutR=rs:=⟨_,rfl⟩
    have hnx:(R.take (j+1)).map cutR=rs++[cutR r]:=by rw [htk,List.map_append,hrs]; rfl
    have hrl:rs.length=j:=by rw [← hrs,List.length_map,List.length_take]; omega
    rw [hrs] at HF;obtain ⟨oa,oc,rfl⟩ := HF.out.g.shape;rw [hrl] at HF ⊢;have HJl:Hid (rs.length≤1000):=hDx (by rw [hrl]; omega);have HNx:=hDx hnx;have h0:=HF.out;have H0:=hDx h0;have l6:=(h0.cell HSbs.out).trans HLs.out;clear hgo hjl hin hrv hju hAt hat hrj htk hu hre hcl hnl hft htp hxl hrs hnx hrl hab h0 HF hxb
    go_upto_region 7 with fail
    clear l6 d2 d2';refine wp_region_kept [13,14,15,16] [2,0,0,0,0,0,0,0,0,0,0,0,0,1,2,3,4] (by kernel_rfl) (CuS bs (.slice oa j oc) rs r xb wS) (fun _ _=>True) (CuOk7 oa oc j rb ab ao rn rc xa xn xc xb) (by rfl) (by kernel_rfl) (by kernel_rfl) (by kernel_rfl) (by kernel_rfl) ?hcong ?hOk ?hop ?hdone ?h0
    case hcong=>exact fun k f f2 u hs hst=>CuS.cong (fun hk=>hs 43 (mem_slots (by subst hk; kernel_rfl))) (fun hk=>hs 44 (mem_slots (by subst hk; kernel_rfl))) (fun hk=>hs 45 (mem_slots (by subst hk; kernel_rfl))) (fun hk=>hs 3 (by rw [slotsP_all hk]; exact mem_slots (by kernel_rfl))) hst
    case hOk=>intro i u w1 w2 h hr; unfold CuOk7 at h ⊢; split <;> first | exact True.intro | exact h
    case h0=>exact H0.out.below ((Below.refl _ _).drew)
    case hop =>
     refine ⟨?_,?_,?_,?_,?_,?_,?_,?_,?_,?_,?_,?_,?_,?_,?_,?_,?_,trivial⟩
     · intro k z v hk hst hag hdep hfr;refine .inl ⟨rfl,fun K hK=>?_⟩;have d3:z.tmps.getD 3 undef=.slice oa j oc:=hfr 3 (by kernel_rfl);have e3:=gEx d3;have HSt:=hDx hst;clear hdep hfr hag hst;go_simp;exact hK _ _ trivial rfl HSt.out
     · intro k z v hk hst hag hdep hfr;refine .inl ⟨rfl,fun K hK=>?_⟩;have d1:z.tmps.getD 1 undef=.pointer (some ⟨rb,0,none⟩):=hag.2.2 1 (by kernel_rfl);have e1:=gEx d1;have HSt:=hDx hst;clear hdep hfr hag hst;go_simp;exact hK _ _ trivial rfl HSt.out
     · intro k z v hk hst hag hdep hfr;refine .inl ⟨rfl,fun K hK=>?_⟩;have d31:z.tmps.getD 31 undef=.pointer (some ⟨rb,6,none⟩):=hdep ⟨1,.data⟩ (by simp) rfl _ _ rfl rfl;have e31:=gEx d31;have h0:=CuS.base (Nat.le_trans hk (by decide)) hst;have l6:=(h0.cell HSbs.out).trans HLs.out;have HSt:=hDx hst;clear hdep hfr hag hst;go_simp;exact hK _ _ trivial rfl HSt.out
     · intro k z v hk hst hag hdep hfr;refine .inl ⟨rfl,fun K hK=>?_⟩;have d4:z.tmps.getD 4 undef=.int .i64 (j:Int):=hag.2.2 4 (by kernel_rfl);have e4:=gEx d4;have HSt:=hDx hst;clear hdep hfr hag hst;go_simp;exact hK _ _ trivial rfl HSt.out
     · intro k z v hk hst hag hdep hfr;refine .inl ⟨rfl,fun K hK=>?_⟩;have d32:z.tmps.getD 32 undef=.slice (some ⟨ab,ao,none⟩) rn rc:=hdep ⟨2,.data⟩ (by simp) rfl _ _ rfl rfl;have e32:=gEx d32;have d33:z.tmps.getD 33 undef=.int .i64 (j:Int):=hdep ⟨3,.data⟩ (by simp) rfl _ _ rfl rfl;have e33:=gEx d33;have HSt:=hDx hst;clear hdep hfr hag hst;go_simp;exact hK _ _ trivial rfl HSt.out
     · intro k z v hk hst hag hdep hfr;refine .inl ⟨rfl,fun K hK=>?_⟩;have d34:z.tmps.getD 34 undef=.pointer (some ⟨ab,ao+j*2,none⟩):=hdep ⟨4,.data⟩ (by simp) rfl _ _ rfl rfl;have e34:=gEx d34;have HSt:=hDx hst;clear hdep hfr hag hst;go_simp;exact hK _ _ trivial rfl HSt.out
     · intro k z v hk hst hag hdep hfr;refine .inl ⟨rfl,fun K hK=>?_⟩;have d35:z.tmps.getD 35 undef=.pointer (some ⟨ab,ao+j*2,none⟩):=hdep ⟨5,.data⟩ (by simp) rfl _ _ rfl rfl;have e35:=gEx d35;have h0:=CuS.base (Nat.le_trans hk (by decide)) hst;have l0:=(h0.cell HAb.out).trans HK0.out;have HSt:=hDx hst;clear hdep hfr hag hst;go_simp;exact hK _ _ trivial rfl HSt.out
     · intro k z v hk hst hag hdep hfr;refine .inl ⟨rfl,fun K hK=>?_⟩;have d1:z.tmps.getD 1 undef=.pointer (some ⟨rb,0,none⟩):=hag.2.2 1 (by kernel_rfl);have e1:=gEx d1;have HSt:=hDx hst;clear hdep hfr hag hst;go_simp;exact hK _ _ trivial rfl HSt.out
     · intro k z v hk hst hag hdep hfr;refine .inl ⟨rfl,fun K hK=>?_⟩;have d37:z.tmps.getD 37 undef=.pointer (some ⟨rb,6,none⟩):=hdep ⟨7,.data⟩ (by simp) rfl _ _ rfl rfl;have e37:=gEx d37;have h0:=CuS.base (Nat.le_trans hk (by decide)) hst;have l6:=(h0.cell HSbs.out).trans HLs.out;have HSt:=hDx hst;clear hdep hfr hag hst;go_simp;exact hK _ _ trivial rfl HSt.out
     · intro k z v hk hst hag hdep hfr;refine .inl ⟨rfl,fun K hK=>?_⟩;have d4:z.tmps.getD 4 undef=.int .i64 (j:Int):=hag.2.2 4 (by kernel_rfl);have e4:=gEx d4;have HSt:=hDx hst;clear hdep hfr hag hst;go_simp;exact hK _ _ trivial rfl HSt.out
     · intro k z v hk hst hag hdep hfr;refine .inl ⟨rfl,fun K hK=>?_⟩;have d38:z.tmps.getD 38 undef=.slice (some ⟨ab,ao,none⟩) rn rc:=hdep ⟨8,.data⟩ (by simp) rfl _ _ rfl rfl;have e38:=gEx d38;have d39:z.tmps.getD 39 undef=.int .i64 (j:Int):=hdep ⟨9,.data⟩ (by simp) rfl _ _ rfl rfl;have e39:=gEx d39;have HSt:=hDx hst;clear hdep hfr hag hst;go_simp;exact hK _ _ trivial rfl HSt.out
     · intro k z v hk hst hag hdep hfr;refine .inl ⟨rfl,fun K hK=>?_⟩;have d40:z.tmps.getD 40 undef=.pointer (some ⟨ab,ao+j*2,none⟩):=hdep ⟨10,.data⟩ (by simp) rfl _ _ rfl rfl;have e40:=gEx d40;have HSt:=hDx hst;clear hdep hfr hag hst;go_simp;exact hK _ _ trivial rfl HSt.out
     · intro k z v hk hst hag hdep hfr;refine .inl ⟨rfl,fun K hK=>?_⟩;have d41:z.tmps.getD 41 undef=.pointer (some ⟨ab,ao+j*2+1,none⟩):=hdep ⟨11,.data⟩ (by simp) rfl _ _ rfl rfl;have e41:=gEx d41;have h0:=CuS.base (Nat.le_trans hk (by decide)) hst;have l1:=(h0.cell1 HAb.out).trans HK1.out;have HSt:=hDx hst;clear hdep hfr hag hst;go_simp;exact hK _ _ trivial rfl HSt.out
     · intro z v hst hag hdep hfr;refine ⟨rfl,fun K hK=>?_⟩;have d36:z.tmps.getD 36 undef=.slice xa xn xc:=hdep ⟨6,.data⟩ (by simp) rfl _ _ rfl rfl;have e36:=gEx d36;have d42:z.tmps.getD 42 undef=.bool xb:=hdep ⟨12,.data⟩ (by simp) rfl _ _ rfl rfl;have e42:=gEx d42;have h0:Rw0 bs (.slice oa j oc) rs wS v:=hst;have HC:=hDx (any_any xa xn xc xb r.l v (HCl.out.belowAll (by rw [HBs.out]; exact h0.b)) HNl.out HFt.out HTp.out);have hsz:43<z.tmps.size:=by rw [hag.2.1]; show 43<49; decide
       have HSt:=hDx h0;clear hdep hfr hag h0 hst;go_simp;refine HC.out.mono ?_;rintro e w' ⟨v2,rfl,hO,hb⟩;obtain ⟨a4,c4,rfl,hi4,hlo4,hn4,hf4,hx4⟩ := hO.shape;exact hK _ _ trivial True.intro ⟨HSt.out.below hb,a4,c4,slot_same hsz,⟨a4,c4,by rw [HXb.out]; rfl,hi4,hn4,hf4,hx4⟩,fun b o e=>⟨fun q hq e2=>by have h1:=(hlo4 b o e).1; have h2:=(HSt.out.own q hq).2; omega,by have h1:=(hlo4 b o e).1; have h2:=HSt.out.m; omega,(hlo4 b o e).2.1⟩⟩
     · intro z v hst hag hdep hfr;refine ⟨rfl,fun K hK=>?_⟩;obtain ⟨h0,a4,c4,f29,hrow,hlt4⟩ := hst;have d43:z.tmps.getD 43 undef=.agg #[.slice a4 (r.l.take 40).length c4,.bool xb]:=f29;have e43:=gEx d43;have hsz:44<z.tmps.size:=by rw [hag.2.1]; show 44<49; decide
       have HSt:=hDx h0;have HLt:=hDx hlt4;obtain ⟨n4,hn4⟩ : ∃ n,(r.l.take 40).length=n:=⟨_,rfl⟩;rw [hn4] at hrow;have HRow:=hDx hrow;rw [hn4] at e43 d43;clear hdep hfr hag h0 f29 hrow hlt4 hn4;go_simp;have hb:Below v.heap.size v (v.alloc (.cells #[.slice a4 n4 c4,.bool xb] 57)):=(Below.refl _ _).alloc (Nat.le_refl _) _;exact hK _ _ trivial True.intro ⟨HSt.out.below hb,v.heap.size,slot_same hsz,a4,n4,c4,xb,heap_alloc_new v _,HRow.out.belowAll hb,fun b o e=>⟨(HLt.out b o e).1,(HLt.out b o e).2.1,Nat.lt_of_lt_of_le (HLt.out b o e).2.2 hb.size⟩⟩
     · intro z v hst hag hdep hfr;refine ⟨rfl,fun K hK=>?_⟩;have d30:z.tmps.getD 30 undef=.slice oa j oc:=hdep ⟨0,.data⟩ (by simp) rfl _ _ rfl rfl;have e30:=gEx d30;obtain ⟨h0,q,f30,hR⟩ := hst;have d44:z.tmps.getD 44 undef=.slice (some ⟨q,0,none⟩) 1 1:=f30;have hsz:45<z.tmps.size:=by rw [hag.2.1]; show 45<49; decide
       have HSt:=hDx h0;obtain ⟨a4,n4,c4,b4,hq4,hrow,hlt4⟩ := hR;refine wp_append_row rowsT _ _ rfl rfl bs (.slice oa j oc) rs q a4 n4 c4 b4 (cutR r) d30 d44 HSt.out.g hq4 hrow hlt4 HJl.out HSt.out.m ?_;intro v' w' k1 k2;exact hK _ _ trivial True.intro ⟨v',slot_same hsz,HSt.out.grows k1 k2⟩
     · intro z v hst hag hdep hfr;refine ⟨rfl,fun K hK=>?_⟩;obtain ⟨v7,f31,h7⟩ := hst;have d45:z.tmps.getD 45 undef=v7:=f31;have e45:=gEx d45;have hsz:3<z.tmps.size:=by rw [hag.2.1]; show 3<49; decide
       have HSt:=hDx h7;clear hdep hfr hag h7 f31;go_simp;exact hK _ _ trivial True.intro ⟨_,slot_same hsz,HSt.out⟩
    case hdone =>
     intro z v hst hag hok;obtain ⟨v9,f9,h9⟩ : ∃ v9,z.tmps.getD 3 undef=v9∧Rw0 bs v9 (rs++[cutR r]) wS v:=hst;have d3:z.tmps.getD 3 undef=v9:=f9;have HE:Hid (Rw0 bs v9 ((R.take (j+1)).map cutR) wS v):=hDx (by rw [HNx.out]; exact h9);clear f9 h9;obtain ⟨uu,hu,hzz⟩ := agree_frame [30,31,32,33,34,35,36,37,38,39,40,41,42,43,44,45,3] rfl hag;have e3:=(hu 3).trans d3;subst hzz;simp only [List.foldl_cons,List.foldl_nil];rw [e3];clear e3 d3 hu hag hok
     try dsimp only [Exit.then]
     simp only [List.setIfInBounds_toArray,List.set_cons_succ,List.set_cons_zero];generalize uu 30=u30',uu 31=u31',uu 32=u32',uu 33=u33',uu 34=u34',uu 35=u35',uu 36=u36',uu 37=u37',uu 38=u38',uu 39=u39',uu 40=u40',uu 41=u41',uu 42=u42',uu 43=u43',uu 44=u44',uu 45=u45';clear uu;rename_i K hK;refine hK _ _ ?_
     go_wp2_with fail
     go_roundw
     case rel=>exact ⟨j+1,by go_num,by omega,by omega,HE⟩
     case measure=>simp [intOf]; omega
  · have htk:(R.take j).map cutR=(R.take 8).map cutR:=by
     rcases Nat.lt_or_ge j rn with h | h
     · have:j=8:=by omega
       rw [this]
     · have h1:j=rn:=by omega
       rw [List.take_of_length_le (by rw [h1,HLn.out]; exact Nat.le_refl _),List.take_of_length_le (by rw [← HLn.out]; omega)]
    obtain ⟨za,zc,rfl⟩ := HF.out.g.shape;obtain ⟨zn,hzn⟩ : ∃ z,((R.take j).map cutR).length=z:=⟨_,rfl⟩;have hg7:=HF.out.g;rw [hzn] at hg7 ⊢;rw [htk] at hg7;have hzr:=(HF.out.b.block rb HSbs.out).trans HZS.out;have hor:=(HF.out.b.block (rb+1) HSz.out).trans HOS.out;have l6:wr.cell? ⟨rb,6,none⟩=some (.slice ra rn rc):=by rw [cell_block hzr]; rfl
    have f6:=frozen_block hzr 6;obtain ⟨w7,hw7⟩ : ∃ w7,wr.setCell ⟨rb,6,none⟩ (.slice za zn zc)=w7:=⟨_,rfl⟩;have hz7:w7.heap[rb]?=some (.cells #[.int .i64 k,.int .i64 W,.int .i64 h,.int .i64 x,.int .i64 y,.string t2,.slice za zn zc,.int .i64 n,.int .i64 c,.slice ya m yc] 25 (0,0)):=by
     rw [← hw7];simp [World.setCell,Array.getElem?_modify,hzr]
    have ho7:w7.heap[rb+1]?=some (.cells #[.int .i64 0,.int .i64 0,.int .i64 0,.int .i64 0,.int .i64 0,.string ⟨#[]⟩,.slice none 0 0,.int .i64 0,.int .i64 0,.slice none 0 0] 25 (0,0)):=by rw [← hw7,Below.heap_setCell _ _ _ _ (by show rb+1≠rb; omega)]; exact hor
    have hQ7:OwnQ .i32 111 (rb+2) (.slice ya m yc) (B.take 30) w7:=by
     rw [← hw7];exact ownQ_grown (HQS.out.below (by rw [HBs.out]; exact HF.out.b)) (grown_set wr rb 6 _) (by omega)
    have hG7:GatR bs (.slice za zn zc) ((R.take 8).map cutR) w7:=by
     rw [← hw7];exact hg7.setOther HSbs.out 6 _
    have hb7:Below rb w w7:=by
     rw [← hw7];exact (HBS.out.trans (HF.out.b.mono (by have:=HSbs.out; omega))).setCell (p:=⟨rb,6,none⟩) (Nat.le_refl _) _
    have hway:(decide (j<rn)=true∧decide (j<8)=false∧decide ((j:Int)<8)=false)∨decide (j<rn)=false:=by
     by_cases h:j<rn
     · exact .inl ⟨decide_eq_true h,decide_eq_false (by omega),decide_eq_false (by omega)⟩
     · exact .inr (decide_eq_false h)
    have hend:Hid (P (.returned (.agg #[.int .i64 k,.int .i64 W,.int .i64 h,.int .i64 x,.int .i64 y,.string t2,.slice za zn zc,.int .i64 n,.int .i64 c,.slice ya m yc])) ((((((((((w7.setCell ⟨rb+1,0,none⟩ (.int .i64 k)).setCell ⟨rb+1,1,none⟩ (.int .i64 W)).setCell ⟨rb+1,2,none⟩ (.int .i64 h)).setCell ⟨rb+1,3,none⟩ (.int .i64 x)).setCell ⟨rb+1,4,none⟩ (.int .i64 y)).setCell ⟨rb+1,5,none⟩ (.string t2)).setCell ⟨rb+1,6,none⟩ (.slice za zn zc)).setCell ⟨rb+1,7,none⟩ (.int .i64 n)).setCell ⟨rb+1,8,none⟩ (.int .i64 c)).setCell ⟨rb+1,9,none⟩ (.slice ya m yc))):=hDx (by
     rw [← HP.out];have hg:∀ (u:World) (o:Nat) (x:Value),u.grownBy (u.setCell ⟨rb+1,o,none⟩ x) (some (rb+1)):=fun u o x=>grown_set u (rb+1) o x
     have gg:w7.grownBy ((((((((((w7.setCell ⟨rb+1,0,none⟩ (.int .i64 k)).setCell ⟨rb+1,1,none⟩ (.int .i64 W)).setCell ⟨rb+1,2,none⟩ (.int .i64 h)).setCell ⟨rb+1,3,none⟩ (.int .i64 x)).setCell ⟨rb+1,4,none⟩ (.int .i64 y)).setCell ⟨rb+1,5,none⟩ (.string t2)).setCell ⟨rb+1,6,none⟩ (.slice za zn zc)).setCell ⟨rb+1,7,none⟩ (.int .i64 n)).setCell ⟨rb+1,8,none⟩ (.int .i64 c)).setCell ⟨rb+1,9,none⟩ (.slice ya m yc)) (some (rb+1)):=grown_trans (grown_trans (grown_trans (grown_trans (grown_trans (grown_trans (grown_trans (grown_trans (grown_trans (hg w7 0 _) (hg _ 1 _)) (hg _ 2 _)) (hg _ 3 _)) (hg _ 4 _)) (hg _ 5 _)) (hg _ 6 _)) (hg _ 7 _)) (hg _ 8 _)) (hg _ 9 _);have hb:Below rb w7 _:=(Below.refl rb w7).grown gg (by have:=(gSx.1 ho7).1; omega) (fun q e=>by have:=Option.some.inj e; omega);have hQ:=ownQ_grown hQ7 gg (by omega);have hG:=hG7.grown gg HSz.out
     exact ⟨za,zn,zc,ya,m,yc,by unfold cutN; rw [← HT2.out]; rfl,⟨hG.weaken (by rw [HRb.out]; have:=HSz.out; omega),hQ.weaken (by rw [HRb.out]; omega)⟩,by rw [HRb.out]; exact hb7.trans hb⟩)
    have HW7:=hDx hw7;have HZ7:=hDx hz7;have HO7:=hDx ho7;clear htk HF hgo hzn hg7 hzr hor hw7 hz7 ho7 hQ7 hG7 hb7;rcases hway with ⟨d1,d2,d3⟩ | d1
    all_goals
      go_upto_region 9 with fail
      rw [HW7.out];clear l6 f6;have hZ:=HZ7.out;have hO:=HO7.out;obtain ⟨c0,c1,c2,c3,c4,c5,c6,c7,c8,c9⟩ := ten_cells (s:=⟨k,W,h,x,y,t2,[],n,c,[]⟩) (ra:=za) (rn:=zn) (rc:=zc) (ga:=ya) (gn:=m) (gc:=yc) hZ;obtain ⟨d0,d1,d2,d3,d4,d5,d6,d7,d8,d9⟩ := ten_cells (s:=emptyN) (ra:=none) (rn:=0) (rc:=0) (ga:=none) (gn:=0) (gc:=0) hO;have f0:=frozen_block hO 0;have f1:=frozen_block hO 1;have f2:=frozen_block hO 2;have f3:=frozen_block hO 3;have f4:=frozen_block hO 4;have f5:=frozen_block hO 5;have f6:=frozen_block hO 6;have f7:=frozen_block hO 7;have f8:=frozen_block hO 8;have f9:=frozen_block hO 9;unfold emptyN at d0 d1 d2 d3 d4 d5 d7 d8;simp only at c0 c1 c2 c3 c4 c5 c7 c8 d0 d1 d2 d3 d4 d5 d7 d8;clear hZ hO
      go_wp2_with fail
      refine bodyPost_ret (v:=.agg #[.int .i64 k,.int .i64 W,.int .i64 h,.int .i64 x,.int .i64 y,.string t2,.slice za zn zc,.int .i64 n,.int .i64 c,.slice ya m yc]) (by rw [results_cell (fn:=Tryd.f8) rfl]; go_simp <;> rfl) rfl ?_;exact hend.out
end Go.Proofs.YtagolklnjhpbdaaDoor.K
