import Derived.Test.YtagolklnjhpbdaaDoorMerged0
import Derived.Test.YtagolklnjhpbdaaDoorMerged20
import Derived.Test.YtagolklnjhpbdaaDoorMerged13
import Derived.Test.YtagolklnjhpbdaaDoorMerged16
namespace Go.Proofs.YtagolklnjhpbdaaDoor.K
open Go.Proofs.YtagolklnjhpbdaaDoor.R (agree_frame unwanted_of wanted_of wp_region_due)
open Go.RowKit Go.Proofs.YtagolklnjhpbdaaDoor.I
def hasN (s:Sn) (y:Nat) (q:Ro):Bool:=decide (s.R[y]?=some q)
def HsOkt (rb y rn rc:Nat) (ra:Option Addr) (ab ao:Nat) (xa:Option Addr) (xn xc:Nat) (xb:Bool) (ka:Option Addr) (kn kc:Nat) (kb D:Bool):Nat→Value→World→Prop
  | 0,u,_=>u=.int .i64 (y:Int)
  | 1,u,_=>u=.pointer (some ⟨rb,6,none⟩)
  | 2,u,_=>u=.slice (some ⟨ab,ao,none⟩) rn rc
  | 3,u,_=>u=.int .i64 (rn:Int)
  | 4,u,_=>u=.bool true
  | 5,u,_=>u=.bool true
  | 6,u,_=>u=.pointer (some ⟨rb,6,none⟩)
  | 7,u,_=>u=.slice (some ⟨ab,ao,none⟩) rn rc
  | 8,u,_=>u=.int .i64 (y:Int)
  | 9,u,_=>u=.pointer (some ⟨ab,ao+y*2,none⟩)
  | 10,u,_=>u=.agg #[.slice xa xn xc,.bool xb]
  | 11,u,_=>u=.agg #[.slice ka kn kc,.bool kb]
  | 12,u,_=>u=.bool D
  | 13,u,_=>u=.bool D
  | 14,u,_=>u=.bool D
  | _,_,_=>True
def HsOkf (rb y rn rc:Nat) (ra:Option Addr) (ab ao:Nat) (xa:Option Addr) (xn xc:Nat) (xb:Bool) (ka:Option Addr) (kn kc:Nat) (kb D:Bool):Nat→Value→World→Prop
  | 0,u,_=>u=.int .i64 (y:Int)
  | 1,u,_=>u=.pointer (some ⟨rb,6,none⟩)
  | 2,u,_=>u=.slice ra rn rc
  | 3,u,_=>u=.int .i64 (rn:Int)
  | 4,u,_=>u=.bool false
  | 5,u,_=>u=.bool false
  | 6,_,_=>True
  | 7,_,_=>True
  | 8,_,_=>True
  | 9,_,_=>True
  | 10,_,_=>True
  | 11,_,_=>True
  | 12,_,_=>True
  | 13,u,_=>u=.bool false
  | 14,u,_=>u=.bool false
  | _,_,_=>True
set_option maxRecDepth 100000 in
set_option maxHeartbeats 8000000 in
theorem dthas_any (s:Sn) (ra:Option Addr) (rn rc:Nat) (ga:Option Addr) (gn gc:Nat) (y:Nat) (hy:(y:Int)≤1000000) (ka:Option Addr) (kn kc:Nat) (kb:Bool) (q:Ro) (w:World) (h:SnIn .i32 ra rn rc ga gn gc s w) (hB:SnB s) (hq:RowV .i32 (.agg #[.slice ka kn kc,.bool kb]) q w) (hqr:AllC Rng q.l) (hql:q.l.length≤1000000) :
    Calls Tryd.prog 65 #[.agg (snA s ra rn rc ga gn gc),.int .i64 (y:Int),.agg #[.slice ka kn kc,.bool kb]] w fun e w'=>e=.returned (.bool (hasN s y q))∧Below w.heap.size w w':=by
 obtain ⟨rb,hrb⟩ : ∃ rb,w.heap.size=rb:=⟨_,rfl⟩;obtain ⟨D,hD⟩ : ∃ D,hasN s y q=D:=⟨_,rfl⟩;rw [hD];obtain ⟨P,hP⟩ : ∃ P:Ending→World→Prop,(fun e w'=>e=.returned (.bool D)∧Below w.heap.size w w')=P:=⟨_,rfl⟩;rw [hP];obtain ⟨wg,hwg⟩ : ∃ w1,(w.alloc (.cells (snA s ra rn rc ga gn gc) 25)).alloc (.cells #[.slice ka kn kc,.bool kb] 57)=w1:=⟨_,rfl⟩;have b1:Below w.heap.size w (w.alloc (.cells (snA s ra rn rc ga gn gc) 25)):=(Below.refl _ _).alloc (Nat.le_refl _) _;have hb1:Below rb w wg:=by rw [← hwg,← hrb]; exact b1.alloc (by rw [World.size_alloc]; omega) _
 have hz1:wg.heap[rb]?=some (.cells (snA s ra rn rc ga gn gc) 25 (0,0)):=by
  rw [← hwg,← hrb,Below.heap_alloc _ _ _ (by rw [World.size_alloc]; omega)];exact heap_alloc_new w _
 have hy1:wg.heap[rb+1]?=some (.cells #[.slice ka kn kc,.bool kb] 57 (0,0)):=by
  have h:=heap_alloc_new (w.alloc (.cells (snA s ra rn rc ga gn gc) 25)) (.cells #[.slice ka kn kc,.bool kb] 57);rw [World.size_alloc,hrb,hwg] at h;exact h
 have HLt:Hid (rb<wg.heap.size∧rb+1<wg.heap.size):=hDx ⟨(gSx.1 hz1).1,(gSx.1 hy1).1⟩;have HEnd:Hid (∀ v,Below wg.heap.size wg v→P (.returned (.bool D)) v):=hDx (fun v hv=>by rw [← hP]; exact ⟨rfl,by rw [hrb]; exact hb1.trans (hv.mono (by have:=HLt.out.1; omega))⟩);have HZg:=hDx hz1;have HYg:=hDx hy1;have hrn:=h.rows.len;have hr1:=hB.rows;have hbw:Below w.heap.size w wg:=by rw [hrb]; exact hb1
 have HI:=hDx (h.belowAll hbw);have HQ:=hDx (hq.belowAll hbw);have HWg:=hDx hwg;have HRb:=hDx hrb;have hrnI:(rn:Int)≤1000:=by omega
 have HRn:=hDx hrn;have HDd:=hDx hD;have HSb:=hDx hB;have HQr:=hDx hqr;have HQl:=hDx hql;clear hP hrb hwg b1 hb1 hz1 hy1 hr1 hbw hrn hD h hB hq hqr hql;unfold snA at HWg HZg;unfold snA;by_cases hlt:y<rn
 · have hyl:y<s.R.length:=by rw [← HRn.out]; exact hlt
   obtain ⟨us0,hin,hrv,-⟩ := HI.out.rows.ex;have hju:y<us0.length:=by rw [hrv.1]; exact hyl
   obtain ⟨ab,ao,rfl,hab,hAt⟩ := hin.at_.resolve_left (by intro e; rw [e] at hju; simp at hju);have hat:=hAt y us0[y] (List.getElem?_eq_getElem hju);have hrj:=hrv.2 y us0[y] s.R[y] (List.getElem?_eq_getElem hju) (List.getElem?_eq_getElem hyl);have hrr:=HSb.out.rng s.R[y] (List.getElem_mem hyl);have hrl:=HSb.out.cells s.R[y] (List.getElem_mem hyl);obtain ⟨⟨xa,xn,xc,xb⟩,hu⟩ : ∃ u,us0[y]=u:=⟨_,rfl⟩;obtain ⟨r,hre⟩ : ∃ r,s.R[y]=r:=⟨_,rfl⟩;have hDe:D=decide (r=q):=by
    rw [← HDd.out];unfold hasN;rw [List.getElem?_eq_getElem hyl,hre];exact decide_eq_decide.2 ⟨fun h=>Option.some.inj h,fun h=>by rw [h]⟩
   rw [hu] at hat hrj;rw [hre] at hrj hrr hrl;unfold Rv.val at hrj;simp only at hrj hat;have HAb:Hid (ab<wg.heap.size):=hDx hab;have HK:=hDx hat;have HSa:Hid (∀ v,Below wg.heap.size wg v→Calls Tryd.prog 56 #[.agg #[.slice xa xn xc,.bool xb],.agg #[.slice ka kn kc,.bool kb]] v fun e w'=>e=.returned (.bool D)∧Below v.heap.size v w'):=hDx (fun v hb=>by
    rw [hDe];have o1:=RowV.of (hrj.belowAll hb);have o2:=RowV.of (HQ.out.belowAll hb);have h9:=rowSame_any xa ka xn kn xc kc xb kb r.l q.l v o1.2.1 o2.2.1 (by have:=o1.2.2.2.2.2; omega) (by have:=o2.2.2.2.2.2; have:=HQl.out; omega);rw [o1.1,o2.1] at h9;rw [o1.1,o2.1];exact h9)
   have HDl:Hid (decide ((y:Int)<(rn:Int))=true):=hDx (decide_eq_true (by omega));clear hyl hin hrv hju hAt hat hrj hrr hrl hu hre hDe hab
   go_enter Tryd.func65,Tryd.ntmps65
   go_upto_region 1 with fail
   rw [HWg.out,HRb.out];refine wp_region_due [] [0,0,0,0,0,0,0,0,0,0,0,0,0,0,0] (by kernel_rfl) (fun _ _ u=>Below wg.heap.size wg u) (fun u u2=>Below u.heap.size u u2) (HsOkt rb y rn rc none ab ao xa xn xc xb ka kn kc kb D) (by rfl) (by kernel_rfl) (by kernel_rfl) (by kernel_rfl) (by kernel_rfl) ?hcong ?hOk ?hop ?hdone ?h0
   case hcong=>exact fun k f f2 u hs hst=>hst
   case hOk=>intro i u w1 w2 h hr; unfold HsOkt at h ⊢; split <;> first | exact True.intro | exact h
   case h0=>exact (Below.refl _ _).drew
   case hop =>
    refine ⟨?_,?_,?_,?_,?_,?_,?_,?_,?_,?_,?_,?_,?_,?_,?_,trivial⟩
    · intro k z v hk hst hag hdep;refine .inl ⟨rfl,fun K hK=>?_⟩;have d1:z.tmps.getD 1 undef=.int .i64 (y:Int):=hag.2.2 1 (by kernel_rfl);have e1:=gEx d1;have HSt:=hDx hst;clear hdep hag hst;go_simp;exact hK _ _ (Below.refl _ _) rfl HSt.out
    · intro k z v hk hst hag hdep;refine .inl ⟨rfl,fun K hK=>?_⟩;have d3:z.tmps.getD 3 undef=.pointer (some ⟨rb,0,none⟩):=hag.2.2 3 (by kernel_rfl);have e3:=gEx d3;have HSt:=hDx hst;clear hdep hag hst;go_simp;exact hK _ _ (Below.refl _ _) rfl HSt.out
    · intro k z v hk hst hag hdep;refine .inl ⟨rfl,fun K hK=>?_⟩;have d8:z.tmps.getD 8 undef=.pointer (some ⟨rb,6,none⟩):=hdep ⟨1,.data⟩ (by simp) rfl _ _ rfl rfl;have e8:=gEx d8;have hb:Below wg.heap.size wg v:=hst;have l6:v.cell? ⟨rb,6,none⟩=some (.slice (some ⟨ab,ao,none⟩) rn rc):=by rw [cell_block ((hb.block rb HLt.out.1).trans HZg.out)]; rfl
      clear hb;have HSt:=hDx hst;clear hdep hag hst;go_simp;exact hK _ _ (Below.refl _ _) rfl HSt.out
    · intro k z v hk hst hag hdep;refine .inl ⟨rfl,fun K hK=>?_⟩;have d9:z.tmps.getD 9 undef=.slice (some ⟨ab,ao,none⟩) rn rc:=hdep ⟨2,.data⟩ (by simp) rfl _ _ rfl rfl;have e9:=gEx d9;have HSt:=hDx hst;clear hdep hag hst;go_simp;exact hK _ _ (Below.refl _ _) rfl HSt.out
    · intro k z v hk hst hag hdep;refine .inl ⟨rfl,fun K hK=>?_⟩;have d7:z.tmps.getD 7 undef=.int .i64 (y:Int):=hdep ⟨0,.data⟩ (by simp) rfl _ _ rfl rfl;have e7:=gEx d7;have d10:z.tmps.getD 10 undef=.int .i64 (rn:Int):=hdep ⟨3,.data⟩ (by simp) rfl _ _ rfl rfl;have e10:=gEx d10;have dlt:=HDl.out;have HSt:=hDx hst;clear hdep hag hst;go_simp;exact hK _ _ (Below.refl _ _) rfl HSt.out
    · intro k z v hk hst hag hdep;refine .inl ⟨rfl,fun K hK=>?_⟩;have d11:z.tmps.getD 11 undef=.bool true:=hdep ⟨4,.data⟩ (by simp) rfl _ _ rfl rfl;have e11:=gEx d11;have HSt:=hDx hst;clear hdep hag hst;go_simp;exact hK _ _ (Below.refl _ _) rfl HSt.out
    · intro k z v hk hst hag hdep;have dg:HsOkt rb y rn rc none ab ao xa xn xc xb ka kn kc kb D 5 (z.tmps.getD 12 undef) v:=hdep ⟨5,.guard⟩ (by simp) rfl _ _ rfl rfl;simp only [HsOkt] at dg;refine .inl ⟨wanted_of (j:=5) rfl rfl rfl dg (by rw [hag.2.1]; show 12<21; decide),fun K hK=>?_⟩;have d3:z.tmps.getD 3 undef=.pointer (some ⟨rb,0,none⟩):=hag.2.2 3 (by kernel_rfl);have e3:=gEx d3;have HSt:=hDx hst;clear hdep hag hst;go_simp;exact hK _ _ (Below.refl _ _) rfl HSt.out
    · intro k z v hk hst hag hdep;have dg:HsOkt rb y rn rc none ab ao xa xn xc xb ka kn kc kb D 5 (z.tmps.getD 12 undef) v:=hdep ⟨5,.guard⟩ (by simp) rfl _ _ rfl rfl;simp only [HsOkt] at dg;refine .inl ⟨wanted_of (j:=5) rfl rfl rfl dg (by rw [hag.2.1]; show 12<21; decide),fun K hK=>?_⟩;have d13:z.tmps.getD 13 undef=.pointer (some ⟨rb,6,none⟩):=hdep ⟨6,.data⟩ (by simp) rfl _ _ rfl rfl;have e13:=gEx d13;have hb:Below wg.heap.size wg v:=hst;have l6:v.cell? ⟨rb,6,none⟩=some (.slice (some ⟨ab,ao,none⟩) rn rc):=by rw [cell_block ((hb.block rb HLt.out.1).trans HZg.out)]; rfl
      clear hb;have HSt:=hDx hst;clear hdep hag hst;go_simp;exact hK _ _ (Below.refl _ _) rfl HSt.out
    · intro k z v hk hst hag hdep;have dg:HsOkt rb y rn rc none ab ao xa xn xc xb ka kn kc kb D 5 (z.tmps.getD 12 undef) v:=hdep ⟨5,.guard⟩ (by simp) rfl _ _ rfl rfl;simp only [HsOkt] at dg;refine .inl ⟨wanted_of (j:=5) rfl rfl rfl dg (by rw [hag.2.1]; show 12<21; decide),fun K hK=>?_⟩;have d1:z.tmps.getD 1 undef=.int .i64 (y:Int):=hag.2.2 1 (by kernel_rfl);have e1:=gEx d1;have HSt:=hDx hst;clear hdep hag hst;go_simp;exact hK _ _ (Below.refl _ _) rfl HSt.out
    · intro k z v hk hst hag hdep;have dg:HsOkt rb y rn rc none ab ao xa xn xc xb ka kn kc kb D 5 (z.tmps.getD 12 undef) v:=hdep ⟨5,.guard⟩ (by simp) rfl _ _ rfl rfl;simp only [HsOkt] at dg;refine .inl ⟨wanted_of (j:=5) rfl rfl rfl dg (by rw [hag.2.1]; show 12<21; decide),fun K hK=>?_⟩;have d14:z.tmps.getD 14 undef=.slice (some ⟨ab,ao,none⟩) rn rc:=hdep ⟨7,.data⟩ (by simp) rfl _ _ rfl rfl;have e14:=gEx d14;have d15:z.tmps.getD 15 undef=.int .i64 (y:Int):=hdep ⟨8,.data⟩ (by simp) rfl _ _ rfl rfl;have e15:=gEx d15;have dlt:=HDl.out;have HSt:=hDx hst;clear hdep hag hst;go_simp;exact hK _ _ (Below.refl _ _) rfl HSt.out
    · intro k z v hk hst hag hdep;have dg:HsOkt rb y rn rc none ab ao xa xn xc xb ka kn kc kb D 5 (z.tmps.getD 12 undef) v:=hdep ⟨5,.guard⟩ (by simp) rfl _ _ rfl rfl;simp only [HsOkt] at dg;refine .inl ⟨wanted_of (j:=5) rfl rfl rfl dg (by rw [hag.2.1]; show 12<21; decide),fun K hK=>?_⟩;have d16:z.tmps.getD 16 undef=.pointer (some ⟨ab,ao+y*2,none⟩):=hdep ⟨9,.data⟩ (by simp) rfl _ _ rfl rfl;have e16:=gEx d16;have hb:Below wg.heap.size wg v:=hst;have l0:=(hb.cell (p:=⟨ab,ao+y*2,none⟩) HAb.out).trans HK.out.1;have l1:=(hb.cell (p:=⟨ab,ao+y*2+1,none⟩) HAb.out).trans HK.out.2;clear hb;have HSt:=hDx hst;clear hdep hag hst;go_simp;exact hK _ _ (Below.refl _ _) rfl HSt.out
    · intro k z v hk hst hag hdep;have dg:HsOkt rb y rn rc none ab ao xa xn xc xb ka kn kc kb D 5 (z.tmps.getD 12 undef) v:=hdep ⟨5,.guard⟩ (by simp) rfl _ _ rfl rfl;simp only [HsOkt] at dg;refine .inl ⟨wanted_of (j:=5) rfl rfl rfl dg (by rw [hag.2.1]; show 12<21; decide),fun K hK=>?_⟩;have d5:z.tmps.getD 5 undef=.pointer (some ⟨rb+1,0,none⟩):=hag.2.2 5 (by kernel_rfl);have e5:=gEx d5;have hb:Below wg.heap.size wg v:=hst;have hz:=(hb.block (rb+1) HLt.out.2).trans HYg.out;have l0:v.cell? ⟨rb+1,0,none⟩=some (.slice ka kn kc):=by rw [cell_block hz]; rfl
      have l1:v.cell? ⟨rb+1,1,none⟩=some (.bool kb):=by rw [cell_block hz]; rfl
      clear hb hz;have HSt:=hDx hst;clear hdep hag hst;go_simp;exact hK _ _ (Below.refl _ _) rfl HSt.out
    · intro k z v hk hst hag hdep;have dg:HsOkt rb y rn rc none ab ao xa xn xc xb ka kn kc kb D 5 (z.tmps.getD 12 undef) v:=hdep ⟨5,.guard⟩ (by simp) rfl _ _ rfl rfl;simp only [HsOkt] at dg;refine .inl ⟨wanted_of (j:=5) rfl rfl rfl dg (by rw [hag.2.1]; show 12<21; decide),fun K hK=>?_⟩;have d17:z.tmps.getD 17 undef=.agg #[.slice xa xn xc,.bool xb]:=hdep ⟨10,.data⟩ (by simp) rfl _ _ rfl rfl;have e17:=gEx d17;have d18:z.tmps.getD 18 undef=.agg #[.slice ka kn kc,.bool kb]:=hdep ⟨11,.data⟩ (by simp) rfl _ _ rfl rfl;have e18:=gEx d18;have hb:Below wg.heap.size wg v:=hst;have HC:=hDx (HSa.out v hb);have HBv:=hDx hb;clear hdep hag hst hb;go_simp;refine HC.out.mono ?_;rintro e w' ⟨rfl,h9⟩;exact hK _ _ h9 rfl (HBv.out.trans (h9.mono HBv.out.size))
    · intro k z v hk hst hag hdep;refine .inl ⟨rfl,fun K hK=>?_⟩;have d12:z.tmps.getD 12 undef=.bool true:=hdep ⟨5,.data⟩ (by simp) rfl _ _ rfl rfl;have e12:=gEx d12;have d19:z.tmps.getD 19 undef=.bool D:=hdep ⟨12,.data⟩ (by simp) rfl _ _ rfl rfl;have e19:=gEx d19;have HSt:=hDx hst;clear hdep hag hst;go_simp;exact hK _ _ (Below.refl _ _) rfl HSt.out
    · intro k z v hk hst hag hdep;refine .inl ⟨rfl,fun K hK=>?_⟩;have d20:z.tmps.getD 20 undef=.bool D:=hdep ⟨13,.data⟩ (by simp) rfl _ _ rfl rfl;have e20:=gEx d20;have HSt:=hDx hst;clear hdep hag hst;go_simp;exact hK _ _ (Below.refl _ _) rfl HSt.out
   case hdone =>
    intro z v hst hag hok;have d6:z.tmps.getD 6 undef=.bool D:=hok 14 _ 6 rfl rfl;have HEv:=hDx (HEnd.out v hst);clear hst;obtain ⟨uu,hu,hzz⟩ := agree_frame [7,8,9,10,11,12,13,14,15,16,17,18,19,20,6] rfl hag;have e6:=(hu 6).trans d6;subst hzz;simp only [List.foldl_cons,List.foldl_nil];rw [e6];clear e6 d6 hu hag hok
    try dsimp only [Exit.then]
    simp only [List.setIfInBounds_toArray,List.set_cons_succ,List.set_cons_zero];generalize uu 7=u7',uu 8=u8',uu 9=u9',uu 10=u10',uu 11=u11',uu 12=u12',uu 13=u13',uu 14=u14',uu 15=u15',uu 16=u16',uu 17=u17',uu 18=u18',uu 19=u19',uu 20=u20';clear uu;rename_i K6 hK6
    try (refine hK6 _ _ ?_)
    go_wp2_with fail
    exact HEv.out
 · have hDe:D=false:=by
    rw [← HDd.out];unfold hasN;rw [List.getElem?_eq_none (by rw [← HRn.out]; omega)];exact decide_eq_false (by intro h; cases h)
   subst hDe;have HDl:Hid (decide ((y:Int)<(rn:Int))=false):=hDx (decide_eq_false (by omega))
   go_enter Tryd.func65,Tryd.ntmps65
   go_upto_region 1 with fail
   rw [HWg.out,HRb.out];refine wp_region_due [] [0,0,0,0,0,0,0,0,0,0,0,0,0,0,0] (by kernel_rfl) (fun _ _ u=>Below wg.heap.size wg u) (fun u u2=>Below u.heap.size u u2) (HsOkf rb y rn rc ra 0 0 none 0 0 false none 0 0 false false) (by rfl) (by kernel_rfl) (by kernel_rfl) (by kernel_rfl) (by kernel_rfl) ?hcong ?hOk ?hop ?hdone ?h0
   case hcong=>exact fun k f f2 u hs hst=>hst
   case hOk=>intro i u w1 w2 h hr; unfold HsOkf at h ⊢; split <;> first | exact True.intro | exact h
   case h0=>exact (Below.refl _ _).drew
   case hop =>
    refine ⟨?_,?_,?_,?_,?_,?_,?_,?_,?_,?_,?_,?_,?_,?_,?_,trivial⟩
    · intro k z v hk hst hag hdep;refine .inl ⟨rfl,fun K hK=>?_⟩;have d1:z.tmps.getD 1 undef=.int .i64 (y:Int):=hag.2.2 1 (by kernel_rfl);have e1:=gEx d1;have HSt:=hDx hst;clear hdep hag hst;go_simp;exact hK _ _ (Below.refl _ _) rfl HSt.out
    · intro k z v hk hst hag hdep;refine .inl ⟨rfl,fun K hK=>?_⟩;have d3:z.tmps.getD 3 undef=.pointer (some ⟨rb,0,none⟩):=hag.2.2 3 (by kernel_rfl);have e3:=gEx d3;have HSt:=hDx hst;clear hdep hag hst;go_simp;exact hK _ _ (Below.refl _ _) rfl HSt.out
    · intro k z v hk hst hag hdep;refine .inl ⟨rfl,fun K hK=>?_⟩;have d8:z.tmps.getD 8 undef=.pointer (some ⟨rb,6,none⟩):=hdep ⟨1,.data⟩ (by simp) rfl _ _ rfl rfl;have e8:=gEx d8;have hb:Below wg.heap.size wg v:=hst;have l6:v.cell? ⟨rb,6,none⟩=some (.slice ra rn rc):=by rw [cell_block ((hb.block rb HLt.out.1).trans HZg.out)]; rfl
      clear hb;have HSt:=hDx hst;clear hdep hag hst;go_simp;exact hK _ _ (Below.refl _ _) rfl HSt.out
    · intro k z v hk hst hag hdep;refine .inl ⟨rfl,fun K hK=>?_⟩;have d9:z.tmps.getD 9 undef=.slice ra rn rc:=hdep ⟨2,.data⟩ (by simp) rfl _ _ rfl rfl;have e9:=gEx d9;have HSt:=hDx hst;clear hdep hag hst;go_simp;exact hK _ _ (Below.refl _ _) rfl HSt.out
    · intro k z v hk hst hag hdep;refine .inl ⟨rfl,fun K hK=>?_⟩;have d7:z.tmps.getD 7 undef=.int .i64 (y:Int):=hdep ⟨0,.data⟩ (by simp) rfl _ _ rfl rfl;have e7:=gEx d7;have d10:z.tmps.getD 10 undef=.int .i64 (rn:Int):=hdep ⟨3,.data⟩ (by simp) rfl _ _ rfl rfl;have e10:=gEx d10;have dlt:=HDl.out;have HSt:=hDx hst;clear hdep hag hst;go_simp;exact hK _ _ (Below.refl _ _) rfl HSt.out
    · intro k z v hk hst hag hdep;refine .inl ⟨rfl,fun K hK=>?_⟩;have d11:z.tmps.getD 11 undef=.bool false:=hdep ⟨4,.data⟩ (by simp) rfl _ _ rfl rfl;have e11:=gEx d11;have HSt:=hDx hst;clear hdep hag hst;go_simp;exact hK _ _ (Below.refl _ _) rfl HSt.out
    · intro k z v hk hst hag hdep;have dg:HsOkf rb y rn rc ra 0 0 none 0 0 false none 0 0 false false 5 (z.tmps.getD 12 undef) v:=hdep ⟨5,.guard⟩ (by simp) rfl _ _ rfl rfl;simp only [HsOkf] at dg;exact .inr ⟨unwanted_of (j:=5) rfl rfl rfl dg (by decide) (by rw [hag.2.1]; show 12<21; decide),(Below.refl _ _),True.intro⟩
    · intro k z v hk hst hag hdep;have dg:HsOkf rb y rn rc ra 0 0 none 0 0 false none 0 0 false false 5 (z.tmps.getD 12 undef) v:=hdep ⟨5,.guard⟩ (by simp) rfl _ _ rfl rfl;simp only [HsOkf] at dg;exact .inr ⟨unwanted_of (j:=5) rfl rfl rfl dg (by decide) (by rw [hag.2.1]; show 12<21; decide),(Below.refl _ _),True.intro⟩
    · intro k z v hk hst hag hdep;have dg:HsOkf rb y rn rc ra 0 0 none 0 0 false none 0 0 false false 5 (z.tmps.getD 12 undef) v:=hdep ⟨5,.guard⟩ (by simp) rfl _ _ rfl rfl;simp only [HsOkf] at dg;exact .inr ⟨unwanted_of (j:=5) rfl rfl rfl dg (by decide) (by rw [hag.2.1]; show 12<21; decide),(Below.refl _ _),True.intro⟩
    · intro k z v hk hst hag hdep;have dg:HsOkf rb y rn rc ra 0 0 none 0 0 false none 0 0 false false 5 (z.tmps.getD 12 undef) v:=hdep ⟨5,.guard⟩ (by simp) rfl _ _ rfl rfl;simp only [HsOkf] at dg;exact .inr ⟨unwanted_of (j:=5) rfl rfl rfl dg (by decide) (by rw [hag.2.1]; show 12<21; decide),(Below.refl _ _),True.intro⟩
    · intro k z v hk hst hag hdep;have dg:HsOkf rb y rn rc ra 0 0 none 0 0 false none 0 0 false false 5 (z.tmps.getD 12 undef) v:=hdep ⟨5,.guard⟩ (by simp) rfl _ _ rfl rfl;simp only [HsOkf] at dg;exact .inr ⟨unwanted_of (j:=5) rfl rfl rfl dg (by decide) (by rw [hag.2.1]; show 12<21; decide),(Below.refl _ _),True.intro⟩
    · intro k z v hk hst hag hdep;have dg:HsOkf rb y rn rc ra 0 0 none 0 0 false none 0 0 false false 5 (z.tmps.getD 12 undef) v:=hdep ⟨5,.guard⟩ (by simp) rfl _ _ rfl rfl;simp only [HsOkf] at dg;exact .inr ⟨unwanted_of (j:=5) rfl rfl rfl dg (by decide) (by rw [hag.2.1]; show 12<21; decide),(Below.refl _ _),True.intro⟩
    · intro k z v hk hst hag hdep;have dg:HsOkf rb y rn rc ra 0 0 none 0 0 false none 0 0 false false 5 (z.tmps.getD 12 undef) v:=hdep ⟨5,.guard⟩ (by simp) rfl _ _ rfl rfl;simp only [HsOkf] at dg;exact .inr ⟨unwanted_of (j:=5) rfl rfl rfl dg (by decide) (by rw [hag.2.1]; show 12<21; decide),(Below.refl _ _),True.intro⟩
    · intro k z v hk hst hag hdep;refine .inl ⟨rfl,fun K hK=>?_⟩;have d12:z.tmps.getD 12 undef=.bool false:=hdep ⟨5,.data⟩ (by simp) rfl _ _ rfl rfl;have e12:=gEx d12;have HSt:=hDx hst;clear hdep hag hst;go_simp;exact hK _ _ (Below.refl _ _) rfl HSt.out
    · intro k z v hk hst hag hdep;refine .inl ⟨rfl,fun K hK=>?_⟩;have d20:z.tmps.getD 20 undef=.bool false:=hdep ⟨13,.data⟩ (by simp) rfl _ _ rfl rfl;have e20:=gEx d20;have HSt:=hDx hst;clear hdep hag hst;go_simp;exact hK _ _ (Below.refl _ _) rfl HSt.out
   case hdone =>
    intro z v hst hag hok;have d6:z.tmps.getD 6 undef=.bool false:=hok 14 _ 6 rfl rfl;have HEv:=hDx (HEnd.out v hst);clear hst;obtain ⟨uu,hu,hzz⟩ := agree_frame [7,8,9,10,11,12,13,14,15,16,17,18,19,20,6] rfl hag;have e6:=(hu 6).trans d6;subst hzz;simp only [List.foldl_cons,List.foldl_nil];rw [e6];clear e6 d6 hu hag hok
    try dsimp only [Exit.then]
    simp only [List.setIfInBounds_toArray,List.set_cons_succ,List.set_cons_zero];generalize uu 7=u7',uu 8=u8',uu 9=u9',uu 10=u10',uu 11=u11',uu 12=u12',uu 13=u13',uu 14=u14',uu 15=u15',uu 16=u16',uu 17=u17',uu 18=u18',uu 19=u19',uu 20=u20';clear uu;rename_i K6 hK6
    try (refine hK6 _ _ ?_)
    go_wp2_with fail
    exact HEv.out
end Go.Proofs.YtagolklnjhpbdaaDoor.K
