import Derived.Test.YtagolklnjhpbdaaDoorMerged0
import Derived.Test.YtagolklnjhpbdaaDoorMerged14
import Derived.Test.YtagolklnjhpbdaaDoorMerged16
import Derived.Test.YtagolklnjhpbdaaDoorMerged11
namespace Go.Proofs.YtagolklnjhpbdaaDoor.K
open Go.Proofs.YtagolklnjhpbdaaDoor.R (agree_frame wp_region_due)
open Go.RowKit
open Go.Proofs.YtagolklnjhpbdaaDoor.W (OwnI IntsIn inV)
def SmOk1 (g off n c g2 off2 c2 j:Nat) (x:Int):Nat→Value→World→Prop
  | 0,u,_=>u=.slice (some ⟨g,off,none⟩) n c
  | 1,u,_=>u=.int .i64 (j:Int)
  | 2,u,_=>u=.pointer (some ⟨g,off+j,none⟩)
  | 3,u,_=>u=.int .i64 x
  | 4,u,_=>u=.slice (some ⟨g2,off2,none⟩) n c2
  | 5,u,_=>u=.int .i64 (j:Int)
  | 6,u,_=>u=.pointer (some ⟨g2,off2+j,none⟩)
  | 7,u,_=>u=.int .i64 x
  | 8,u,_=>u=.bool false
  | _,_,_=>True
set_option maxRecDepth 100000 in
set_option maxHeartbeats 4000000 in
theorem sameInts_any (a a2:Option Addr) (n c c2:Nat) (zs:List Int) (w:World) (h:IntsIn a n zs w) (h2:IntsIn a2 n zs w) (hl:n≤1000000) :
    Calls Tryd.prog 12 #[.slice a n c,.slice a2 n c2] w fun e w'=>e=.returned (.bool true)∧Below w.heap.size w w':=by
 obtain ⟨P,hP⟩ : ∃ P:Ending→World→Prop,(fun e w'=>e=.returned (.bool true)∧Below w.heap.size w w')=P:=⟨_,rfl⟩;rw [hP];have HP:=hDx hP;have H1:=hDx h;have H2:=hDx h2;have q:((n:Int) != (n:Int))=false:=by simp
 clear hP h h2
 go_enter Tryd.func12,Tryd.ntmps12
 go_wp2_with fail
 clear q
 go_loopw [13] (fun i wr=>∃ j:Nat,i=.int .i64 (j:Int)∧j≤n∧Hid (Below w.heap.size w wr)) (fun i _=>n - (intOf i).toNat)
 case atStart=>exact ⟨0,rfl,by omega,hDx (Below.refl _ _)⟩
 case round =>
  obtain ⟨j,rfl,hj,HB⟩ := hrel;by_cases hlt:j<n
  · have hd:decide (j<n)=true:=decide_eq_true hlt;have hjI:(j:Int)<n:=by omega
    have hjl:j<zs.length:=by rw [← H1.out.1]; exact hlt
    obtain ⟨g,off,rfl,hgl,hat⟩ := H1.out.2.resolve_left (by intro e; rw [e] at hjl; simp at hjl);obtain ⟨g2,off2,rfl,hgl2,hat2⟩ := H2.out.2.resolve_left (by intro e; rw [e] at hjl; simp at hjl);obtain ⟨x,hx⟩ : ∃ x,zs.getD j 0=x:=⟨_,rfl⟩;have L0:=hat j hjl;have M0:=hat2 j hjl;rw [hx] at L0 M0;have L0:=hDx L0;have M0:=hDx M0;have Ll:=hDx hgl;have Ml:=hDx hgl2;clear hat hat2 hx hjl hgl hgl2
    go_upto_region 6 with fail
    refine wp_region_due [] [0,0,0,0,0,0,0,0,0] (by kernel_rfl) (fun _ _ u=>Below w.heap.size w u) (fun u u2=>Below u.heap.size u u2) (SmOk1 g off n c g2 off2 c2 j x) (by rfl) (by kernel_rfl) (by kernel_rfl) (by kernel_rfl) (by kernel_rfl) ?hcong ?hOk ?hop ?hdone ?h0
    case hcong=>exact fun k f f2 u hs hst=>hst
    case hOk=>intro i u w1 w2 h hr; unfold SmOk1 at h ⊢; split at h <;> exact h
    case h0=>exact HB.out.trans (((Below.refl _ _).drew).mono HB.out.size)
    case hop =>
     refine ⟨?_,?_,?_,?_,?_,?_,?_,?_,?_,trivial⟩
     · intro k z v hk hst hag hdep;refine .inl ⟨rfl,fun K hK=>?_⟩;have d0:z.tmps.getD 0 undef=.slice (some ⟨g,off,none⟩) n c:=hag.2.2 0 (by kernel_rfl);have e0:=gEx d0;have HSt:=hDx hst;clear hdep hag hst;go_simp;exact hK _ _ (Below.refl _ _) rfl HSt.out
     · intro k z v hk hst hag hdep;refine .inl ⟨rfl,fun K hK=>?_⟩;have d5:z.tmps.getD 5 undef=.int .i64 (j:Int):=hag.2.2 5 (by kernel_rfl);have e5:=gEx d5;have HSt:=hDx hst;clear hdep hag hst;go_simp;exact hK _ _ (Below.refl _ _) rfl HSt.out
     · intro k z v hk hst hag hdep;refine .inl ⟨rfl,fun K hK=>?_⟩;have d16:z.tmps.getD 16 undef=.slice (some ⟨g,off,none⟩) n c:=hdep ⟨0,.data⟩ (by simp) rfl _ _ rfl rfl;have e16:=gEx d16;have d17:z.tmps.getD 17 undef=.int .i64 (j:Int):=hdep ⟨1,.data⟩ (by simp) rfl _ _ rfl rfl;have e17:=gEx d17;have HSt:=hDx hst;clear hdep hag hst;go_simp;exact hK _ _ (Below.refl _ _) rfl HSt.out
     · intro k z v hk hst hag hdep;refine .inl ⟨rfl,fun K hK=>?_⟩;have d18:z.tmps.getD 18 undef=.pointer (some ⟨g,off+j,none⟩):=hdep ⟨2,.data⟩ (by simp) rfl _ _ rfl rfl;have e18:=gEx d18;have hb9:Below w.heap.size w v:=hst;have l0:=(hb9.cell (p:=⟨g,off+j,none⟩) Ll.out).trans L0.out
       try simp only at l0
       clear hb9;have HSt:=hDx hst;clear hdep hag hst;go_simp;exact hK _ _ (Below.refl _ _) rfl HSt.out
     · intro k z v hk hst hag hdep;refine .inl ⟨rfl,fun K hK=>?_⟩;have d1:z.tmps.getD 1 undef=.slice (some ⟨g2,off2,none⟩) n c2:=hag.2.2 1 (by kernel_rfl);have e1:=gEx d1;have HSt:=hDx hst;clear hdep hag hst;go_simp;exact hK _ _ (Below.refl _ _) rfl HSt.out
     · intro k z v hk hst hag hdep;refine .inl ⟨rfl,fun K hK=>?_⟩;have d5:z.tmps.getD 5 undef=.int .i64 (j:Int):=hag.2.2 5 (by kernel_rfl);have e5:=gEx d5;have HSt:=hDx hst;clear hdep hag hst;go_simp;exact hK _ _ (Below.refl _ _) rfl HSt.out
     · intro k z v hk hst hag hdep;refine .inl ⟨rfl,fun K hK=>?_⟩;have d20:z.tmps.getD 20 undef=.slice (some ⟨g2,off2,none⟩) n c2:=hdep ⟨4,.data⟩ (by simp) rfl _ _ rfl rfl;have e20:=gEx d20;have d21:z.tmps.getD 21 undef=.int .i64 (j:Int):=hdep ⟨5,.data⟩ (by simp) rfl _ _ rfl rfl;have e21:=gEx d21;have HSt:=hDx hst;clear hdep hag hst;go_simp;exact hK _ _ (Below.refl _ _) rfl HSt.out
     · intro k z v hk hst hag hdep;refine .inl ⟨rfl,fun K hK=>?_⟩;have d22:z.tmps.getD 22 undef=.pointer (some ⟨g2,off2+j,none⟩):=hdep ⟨6,.data⟩ (by simp) rfl _ _ rfl rfl;have e22:=gEx d22;have hb9:Below w.heap.size w v:=hst;have l0:=(hb9.cell (p:=⟨g2,off2+j,none⟩) Ml.out).trans M0.out
       try simp only at l0
       clear hb9;have HSt:=hDx hst;clear hdep hag hst;go_simp;exact hK _ _ (Below.refl _ _) rfl HSt.out
     · intro k z v hk hst hag hdep;refine .inl ⟨rfl,fun K hK=>?_⟩;have d19:z.tmps.getD 19 undef=.int .i64 x:=hdep ⟨3,.data⟩ (by simp) rfl _ _ rfl rfl;have e19:=gEx d19;have d23:z.tmps.getD 23 undef=.int .i64 x:=hdep ⟨7,.data⟩ (by simp) rfl _ _ rfl rfl;have e23:=gEx d23;have q9:(x != x)=false:=by simp
       have HSt:=hDx hst;clear hdep hag hst;go_simp;exact hK _ _ (Below.refl _ _) rfl HSt.out
    case hdone =>
     intro z w3 hst hag hok;have hb3:Below w.heap.size w w3:=hst;have d24:z.tmps.getD 24 undef=.bool false:=hok 8 _ 24 rfl rfl;have HB3:=hDx hb3;clear hst hb3;obtain ⟨uu,hu,hzz⟩ := agree_frame [16,17,18,19,20,21,22,23,24] rfl hag;have e24:=(hu 24).trans d24;subst hzz;simp only [List.foldl_cons,List.foldl_nil];rw [e24];clear e24 d24 hu hag hok
     try dsimp only [Exit.then]
     simp only [List.setIfInBounds_toArray,List.set_cons_succ,List.set_cons_zero];generalize uu 16=u16',uu 17=u17',uu 18=u18',uu 19=u19',uu 20=u20',uu 21=u21',uu 22=u22',uu 23=u23';clear uu
     go_wp2_with fail
     go_roundw
     case rel=>exact ⟨j+1,by go_num,by omega,HB3⟩
     case measure=>simp [intOf]; omega
  · obtain rfl:j=n:=by omega
    have hd:decide (j<j)=false:=by simp
    have hend:Hid (P (.returned (.bool true)) wr):=hDx (by rw [← HP.out]; exact ⟨rfl,HB.out⟩);clear HB hlt
    go_wp2_with fail
    exact hend.out
end Go.Proofs.YtagolklnjhpbdaaDoor.K
