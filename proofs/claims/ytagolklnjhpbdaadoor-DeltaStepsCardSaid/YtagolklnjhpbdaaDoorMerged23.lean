import Derived.Test.YtagolklnjhpbdaaDoorMerged0
import Derived.Test.YtagolklnjhpbdaaDoorMerged3
import Derived.Lib.QuietBelow
import Derived.BigQuiet
import Derived.Laws.ResultCell
import Derived.Test.YtagolklnjhpbdaaDoorMerged1
import Derived.Test.YtagolklnjhpbdaaDoorMerged9
import Derived.Test.YtagolklnjhpbdaaDoorMerged15
import Derived.Test.YtagolklnjhpbdaaDoorMerged17
namespace Go.Proofs.YtagolklnjhpbdaaDoor.I
open Go.RowKit
def inV (s:ByteArray) (e:Nat):Value:=.agg #[.string s,.int .i64 e]
end Go.Proofs.YtagolklnjhpbdaaDoor.I

namespace Go.Proofs.YtagolklnjhpbdaaDoor.K
open Go.RowKit Go.Proofs.YtagolklnjhpbdaaDoor.I
structure RdI (rb:Nat) (s:ByteArray) (e:Nat) (w wr:World):Prop where
 below:Below rb w wr
 i:wr.heap[rb]?=some (.cells #[.string s,.int .i64 (e:Int)] 98 (0,0))
 o:wr.heap[rb+1]?=some (.cells #[.string ⟨#[]⟩,.int .i64 0] 98 (0,0))
section
variable {rb:Nat} {s s':ByteArray} {e e':Nat} {w wr w':World}
theorem RdI.size (h:RdI rb s e w wr):rb+2≤wr.heap.size:=(gSx.1 h.o).1
theorem RdI.more (h:RdI rb s e w wr) (hb:Below (rb+2) wr w'):RdI rb s e w w' :=
 ⟨h.below.trans (hb.mono (by omega)),(hb.block rb (by omega)).trans h.i,(hb.block (rb+1) (by omega)).trans h.o⟩
theorem RdI.set (h:RdI rb s e w wr) (s':ByteArray) (e':Nat):RdI rb s' e' w ((wr.setCell ⟨rb,0,none⟩ (.string s')).setCell ⟨rb,1,none⟩ (.int .i64 (e':Int))):=by
 refine ⟨(h.below.setCell (p:=⟨rb,0,none⟩) (Nat.le_refl _) _).setCell (p:=⟨rb,1,none⟩) (Nat.le_refl _) _,by simp [World.setCell,Array.getElem?_modify,h.i],?_⟩;rw [Below.heap_setCell _ _ _ _ (by show rb+1≠rb; omega),Below.heap_setCell _ _ _ _ (by show rb+1≠rb; omega)];exact h.o
theorem RdI.outB (h:RdI rb s e w wr) (v v':Value):Below rb w ((wr.setCell ⟨rb+1,0,none⟩ v).setCell ⟨rb+1,1,none⟩ v'):=(h.below.setCell (p:=⟨rb+1,0,none⟩) (by show rb≤rb+1; omega) _).setCell (p:=⟨rb+1,1,none⟩) (by show rb≤rb+1; omega) _
end
theorem lineT:PairT .i64 30 85 16:=⟨Tryd.underlying30,by kernel_rfl,by decide⟩
end Go.Proofs.YtagolklnjhpbdaaDoor.K

namespace Go.Proofs.YtagolklnjhpbdaaDoor.K
open Go.Proofs.YtagolklnjhpbdaaDoor.R (agree_frame wp_region_kept)
open Go.RowKit Go.Proofs.YtagolklnjhpbdaaDoor.I
theorem bytes_eq {a b:ByteArray} (h:a.data.toList=b.data.toList):a=b:=by
 cases a; cases b
 congr 1
 exact Array.toList_inj.1 h
structure PkS (gb:Nat) (x s:Int) (w5 u:World):Prop where
 b:Below w5.heap.size w5 u
 h:u.heap[gb]?=some (.cells #[.int .i64 x,.int .i64 s] 85 (0,0))
theorem PkS.c0 {gb:Nat} {x s:Int} {w5 u:World} (h:PkS gb x s w5 u):u.cell? ⟨gb,0,none⟩=some (.int .i64 x):=by rw [cell_block h.h]; rfl
theorem PkS.c1 {gb:Nat} {x s:Int} {w5 u:World} (h:PkS gb x s w5 u):u.cell? ⟨gb,1,none⟩=some (.int .i64 s):=by rw [cell_block h.h]; rfl
theorem PkS.below {gb:Nat} {x s:Int} {w5 u u':World} (h:PkS gb x s w5 u) (hb:Below u.heap.size u u'):PkS gb x s w5 u':=⟨h.b.trans (hb.mono h.b.size),(hb.block gb (gSx.1 h.h).1).trans h.h⟩
def PkOk (gb:Nat) (x s:Int) (t sa sb:ByteArray):Nat→Value→World→Prop
  | 0,u,_=>u=.string t
  | 1,u,_=>u=.pointer (some ⟨gb,0,none⟩)
  | 2,u,_=>u=.int .i64 x
  | 3,u,_=>u=.string sa
  | 4,u,_=>u=.pointer (some ⟨gb,1,none⟩)
  | 5,u,_=>u=.int .i64 s
  | 6,u,_=>u=.string sb
  | 7,u,_=>u=.string (sa++sb)
  | 8,u,_=>u=.string (t++(sa++sb))
  | 9,u,_=>u=.string (t++(sa++sb))
  | _,_,_=>True
set_option maxRecDepth 100000 in
set_option maxHeartbeats 8000000 in
theorem refPack_any (a:Option Addr) (n c:Nat) (l:List (Int × Int)) (w:World) (hI:PairsIn .i64 a n c l w) (hn:n≤1024) :
    Calls Tryd.prog 39 #[.slice a n c] w (PackPost l w):=by
 obtain ⟨P,hP⟩ : ∃ P,PackPost l w=P:=⟨_,rfl⟩;rw [hP];have HP:=hDx hP;have HLn:=hDx hI.len;have HI:=hDx hI;have HN:=hDx (refnum_any (n:Int) w);have hnI:(n:Int)≤1024:=by omega
 clear hP hI
 go_enter Tryd.func39,Tryd.ntmps39
 go_wp2_with fail
 refine HN.out.mono ?_;rintro e w2 ⟨t2,rfl,ht2,hb2⟩;have H2:Hid (t2.data.toList=digs (clipN (n:Int))∧Below w.heap.size w w2):=hDx ⟨ht2,hb2⟩;clear ht2 hb2 HN
 go_wp2_with fail
 go_loopw [3,11] (fun u i wr=>∃ (j:Nat) (t:ByteArray),u=.string t∧i=.int .i64 (j:Int)∧j≤n∧Hid (t.data.toList=digs (clipN (n:Int))++(l.take j).flatMap gBytes∧Below w.heap.size w wr)) (fun _ i _=>n - (intOf i).toNat)
 case atStart=>exact ⟨0,t2,rfl,rfl,Nat.zero_le _,hDx ⟨by simpa using H2.out.1,H2.out.2⟩⟩
 case round =>
  obtain ⟨j,t,rfl,rfl,hj,HF⟩ := hrel;by_cases hlt:j<n
  · have hd:decide (j<n)=true:=decide_eq_true hlt;have hjI:(j:Int)<n:=by omega
    have hjl:j<l.length:=by rw [← HLn.out]; exact hlt
    obtain ⟨b,off,rfl,hbl,hAt⟩ := HI.out.at_.resolve_left (by intro e; rw [e] at hjl; simp at hjl);have hat:=hAt j l[j] (List.getElem?_eq_getElem hjl);have hsn:=flat_snoc l j hjl;obtain ⟨⟨x,s⟩,hx⟩ : ∃ g,l[j]=g:=⟨_,rfl⟩;rw [hx] at hat hsn;have k0:wr.cell? ⟨b,off+j*2,none⟩=some (.int .i64 x):=(HF.out.2.cell (p:=⟨b,off+j*2,none⟩) hbl).trans hat.1;have k1:wr.cell? ⟨b,off+j*2+1,none⟩=some (.int .i64 s):=(HF.out.2.cell (p:=⟨b,off+j*2+1,none⟩) hbl).trans hat.2;obtain ⟨gb,hgb⟩ : ∃ gb,wr.heap.size=gb:=⟨_,rfl⟩;obtain ⟨w5,hw5⟩ : ∃ w5,wr.alloc (.cells #[.int .i64 x,.int .i64 s] 85)=w5:=⟨_,rfl⟩;have hb5:Below wr.heap.size wr w5:=by rw [← hw5]; exact (Below.refl _ _).alloc (Nat.le_refl _) _
    have h0:PkS gb x s w5 w5:=⟨Below.refl _ _,by rw [← hw5,← hgb]; exact heap_alloc_new wr _⟩;obtain ⟨sa,hsa⟩ : ∃ sa:ByteArray,sa.data.toList=digs (clipN x):=⟨⟨(digs (clipN x)).toArray⟩,by simp⟩;obtain ⟨sb,hsb⟩ : ∃ sb:ByteArray,sb.data.toList=digs (clipN s):=⟨⟨(digs (clipN s)).toArray⟩,by simp⟩;have HSa:=hDx hsa;have HSb:=hDx hsb;have H0:=hDx h0;have HB5:Hid (Below w.heap.size w w5):=hDx (HF.out.2.trans (hb5.mono HF.out.2.size));have HTx:Hid ((t++(sa++sb)).data.toList=digs (clipN (n:Int))++(l.take (j+1)).flatMap gBytes):=hDx (by
     rw [hsn,← List.append_assoc,← HF.out.1,append_list,append_list,hsa,hsb]
     rfl)
    have HSz:Hid ((sa.size:Int)≤9∧(sb.size:Int)≤9∧(t.size:Int)≤100000):=hDx (by
     have hz:∀ u:ByteArray,u.size=u.data.toList.length:=fun _=>rfl
     have e1:=hz sa;have e2:=hz sb;have e3:=hz t;rw [hsa] at e1;rw [hsb] at e2;rw [HF.out.1,List.length_append] at e3;have n1:=digs_nine (clipN x) (by unfold clipN; exact Nat.min_le_right _ _);have n2:=digs_nine (clipN s) (by unfold clipN; exact Nat.min_le_right _ _);have n3:=digs_nine (clipN (n:Int)) (by unfold clipN; exact Nat.min_le_right _ _);have n4:=flat_gBytes_len (l.take j);have n5:(l.take j).length≤1024:=by rw [List.length_take]; omega
     omega)
    have HW5:=hDx hw5;have HGb:=hDx hgb;clear hjl hAt hat hsn hx hbl hgb hw5 hb5 h0 hsa hsb HF
    go_upto_region 5 with fail
    rw [HW5.out,HGb.out];clear k0 k1;refine wp_region_kept [] [0,0,0,0,0,0,0,0,0,0] (by kernel_rfl) (fun _ _ u=>PkS gb x s w5 u) (fun _ _=>True) (PkOk gb x s t sa sb) (by rfl) (by kernel_rfl) (by kernel_rfl) (by kernel_rfl) (by kernel_rfl) ?hcong ?hOk ?hop ?hdone ?h0
    case hcong=>exact fun k f f2 u hs hst=>hst
    case hOk=>intro i u w1 w2 h hr; unfold PkOk at h ⊢; split <;> first | exact True.intro | exact h
    case h0=>exact H0.out.below ((Below.refl _ _).drew)
    case hop =>
     refine ⟨?_,?_,?_,?_,?_,?_,?_,?_,?_,?_,trivial⟩
     · intro k z v hk hst hag hdep hfr;refine .inl ⟨rfl,fun K hK=>?_⟩;have d3:z.tmps.getD 3 undef=.string t:=hfr 3 (by kernel_rfl);have e3:=gEx d3;have HSt:=hDx hst;clear hdep hfr hag hst;go_simp;exact hK _ _ trivial rfl HSt.out
     · intro k z v hk hst hag hdep hfr;refine .inl ⟨rfl,fun K hK=>?_⟩;have d5:z.tmps.getD 5 undef=.pointer (some ⟨gb,0,none⟩):=hag.2.2 5 (by kernel_rfl);have e5:=gEx d5;have HSt:=hDx hst;clear hdep hfr hag hst;go_simp;exact hK _ _ trivial rfl HSt.out
     · intro k z v hk hst hag hdep hfr;refine .inl ⟨rfl,fun K hK=>?_⟩;have d16:z.tmps.getD 16 undef=.pointer (some ⟨gb,0,none⟩):=hdep ⟨1,.data⟩ (by simp) rfl _ _ rfl rfl;have e16:=gEx d16;have hst:PkS gb x s w5 v:=hst;have l0:=hst.c0;have HSt:=hDx hst;clear hdep hfr hag hst;go_simp;exact hK _ _ trivial rfl HSt.out
     · intro k z v hk hst hag hdep hfr;refine .inl ⟨rfl,fun K hK=>?_⟩;have d17:z.tmps.getD 17 undef=.int .i64 x:=hdep ⟨2,.data⟩ (by simp) rfl _ _ rfl rfl;have e17:=gEx d17;have hst:PkS gb x s w5 v:=hst;have HC:=hDx (refnum_any x v);have HSt:=hDx hst;clear hdep hfr hag hst;go_simp;refine HC.out.mono ?_;rintro e w' ⟨u,rfl,hu,hb⟩;obtain rfl:u=sa:=bytes_eq (by rw [hu,HSa.out]);exact hK _ _ trivial rfl (HSt.out.below hb)
     · intro k z v hk hst hag hdep hfr;refine .inl ⟨rfl,fun K hK=>?_⟩;have d5:z.tmps.getD 5 undef=.pointer (some ⟨gb,0,none⟩):=hag.2.2 5 (by kernel_rfl);have e5:=gEx d5;have HSt:=hDx hst;clear hdep hfr hag hst;go_simp;exact hK _ _ trivial rfl HSt.out
     · intro k z v hk hst hag hdep hfr;refine .inl ⟨rfl,fun K hK=>?_⟩;have d19:z.tmps.getD 19 undef=.pointer (some ⟨gb,1,none⟩):=hdep ⟨4,.data⟩ (by simp) rfl _ _ rfl rfl;have e19:=gEx d19;have hst:PkS gb x s w5 v:=hst;have l1:=hst.c1;have HSt:=hDx hst;clear hdep hfr hag hst;go_simp;exact hK _ _ trivial rfl HSt.out
     · intro k z v hk hst hag hdep hfr;refine .inl ⟨rfl,fun K hK=>?_⟩;have d20:z.tmps.getD 20 undef=.int .i64 s:=hdep ⟨5,.data⟩ (by simp) rfl _ _ rfl rfl;have e20:=gEx d20;have hst:PkS gb x s w5 v:=hst;have HC:=hDx (refnum_any s v);have HSt:=hDx hst;clear hdep hfr hag hst;go_simp;refine HC.out.mono ?_;rintro e w' ⟨u,rfl,hu,hb⟩;obtain rfl:u=sb:=bytes_eq (by rw [hu,HSb.out]);exact hK _ _ trivial rfl (HSt.out.below hb)
     · intro k z v hk hst hag hdep hfr;refine .inl ⟨rfl,fun K hK=>?_⟩;have d18:z.tmps.getD 18 undef=.string sa:=hdep ⟨3,.data⟩ (by simp) rfl _ _ rfl rfl;have e18:=gEx d18;have d21:z.tmps.getD 21 undef=.string sb:=hdep ⟨6,.data⟩ (by simp) rfl _ _ rfl rfl;have e21:=gEx d21;have HSt:=hDx hst;have l9:=HSz.out;obtain ⟨l91,l92,l93⟩ := l9;clear hdep hfr hag hst;go_simp;rw [if_neg (by omega)];exact hK _ _ trivial rfl HSt.out
     · intro k z v hk hst hag hdep hfr;refine .inl ⟨rfl,fun K hK=>?_⟩;have d15:z.tmps.getD 15 undef=.string t:=hdep ⟨0,.data⟩ (by simp) rfl _ _ rfl rfl;have e15:=gEx d15;have d22:z.tmps.getD 22 undef=.string (sa++sb):=hdep ⟨7,.data⟩ (by simp) rfl _ _ rfl rfl;have e22:=gEx d22;have HSt:=hDx hst;have l9:=HSz.out;obtain ⟨l91,l92,l93⟩ := l9;clear hdep hfr hag hst;go_simp;rw [if_neg (by omega)];exact hK _ _ trivial rfl HSt.out
     · intro k z v hk hst hag hdep hfr;refine .inl ⟨rfl,fun K hK=>?_⟩;have d23:z.tmps.getD 23 undef=.string (t++(sa++sb)):=hdep ⟨8,.data⟩ (by simp) rfl _ _ rfl rfl;have e23:=gEx d23;have HSt:=hDx hst;clear hdep hfr hag hst;go_simp;exact hK _ _ trivial rfl HSt.out
    case hdone =>
     intro z v hst hag hok;have hst:PkS gb x s w5 v:=hst;have d3:z.tmps.getD 3 undef=.string (t++(sa++sb)):=hok 9 _ 3 rfl rfl;have HE:Hid ((t++(sa++sb)).data.toList=digs (clipN (n:Int))++(l.take (j+1)).flatMap gBytes∧Below w.heap.size w v):=hDx ⟨HTx.out,HB5.out.trans (hst.b.mono HB5.out.size)⟩;clear hst;obtain ⟨uu,hu,hzz⟩ := agree_frame [15,16,17,18,19,20,21,22,23,3] rfl hag;have e3:=(hu 3).trans d3;subst hzz;simp only [List.foldl_cons,List.foldl_nil];rw [e3];clear e3 d3 hu hag hok
     try dsimp only [Exit.then]
     simp only [List.setIfInBounds_toArray,List.set_cons_succ,List.set_cons_zero];generalize uu 15=u15',uu 16=u16',uu 17=u17',uu 18=u18',uu 19=u19',uu 20=u20',uu 21=u21',uu 22=u22',uu 23=u23';clear uu;rename_i K hK;refine hK _ _ ?_
     go_wp2_with fail
     go_roundw
     case rel=>exact ⟨j+1,_,rfl,by go_num,by omega,HE⟩
     case measure=>simp [intOf]; omega
  · obtain rfl:j=n:=by omega
    have hd:decide (j<j)=false:=by simp
    have hend:Hid (P (.returned (.string t)) wr):=hDx (by
     rw [← HP.out];refine ⟨t,rfl,?_,HF.out.2⟩;rw [HF.out.1];unfold packG;rw [← HLn.out,List.take_of_length_le (by rw [HLn.out]; exact Nat.le_refl _)])
    clear HF hlt
    go_wp2_with fail
    exact hend.out
end Go.Proofs.YtagolklnjhpbdaaDoor.K
