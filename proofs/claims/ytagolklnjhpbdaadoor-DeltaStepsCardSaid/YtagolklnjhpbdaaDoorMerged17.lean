import Derived.Test.YtagolklnjhpbdaaDoorMerged0
import Derived.Test.YtagolklnjhpbdaaDoorMerged1
import Derived.Test.YtagolklnjhpbdaaDoorMerged15
import Derived.Test.YtagolklnjhpbdaaDoorNPack
import Derived.Test.YtagolklnjhpbdaaDoorMerged16
namespace Go.Proofs.YtagolklnjhpbdaaDoor.K
open Go.RowKit Go.Proofs.YtagolklnjhpbdaaDoor.I
set_option maxHeartbeats 2000000 in
theorem matmost_any (p:Nat) (st:Sta) (m:Nat) (hm:m≤2000000) (w:World) (h:InSt p st.1 st.2 w):Calls Tryd.prog 91 #[.pointer (some ⟨p,0,none⟩),.int .i64 (m:Int)] w (Took p (.int .i64 ((atS st m).2:Nat)) (atS st m).1 w):=by
 have HN:=hDx (innum_any p st.1 st.2 w h);obtain ⟨P,hP⟩ : ∃ P,Took p (.int .i64 ((atS st m).2:Nat)) (atS st m).1 w=P:=⟨_,rfl⟩;rw [hP];have HP:=hDx hP;obtain ⟨⟨⟨l1,e1⟩,v⟩,hn⟩ : ∃ q,numS st.1 st.2=q:=⟨_,rfl⟩;have ha:atS st m=if v≤m then ((l1,e1),v) else (failS l1 e1 1,0):=by unfold atS; rw [hn]
 rw [hn] at HN;have HAt:=hDx ha;clear hP h hn ha
 go_enter Tryd.func91,Tryd.ntmps91
 go_wp2_with fail
 refine HN.out.mono ?_;rintro e w2 ⟨rfl,h2,hg2⟩;by_cases hv:v≤m
 · have d1:decide ((v:Int) > (m:Int))=false:=decide_eq_false (by omega);have d2:decide (m<v)=false:=decide_eq_false (by omega);have d3:decide (v > m)=false:=decide_eq_false (by omega);have hend:Hid (P (.returned (.int .i64 (v:Int))) w2):=hDx (by rw [← HP.out,HAt.out,if_pos hv]; exact ⟨rfl,h2,hg2⟩);clear h2 hg2 HN hv
   go_wp2_with fail
   exact hend.out
 · have d1:decide ((v:Int) > (m:Int))=true:=decide_eq_true (by omega);have d2:decide (m<v)=true:=decide_eq_true (by omega);have d3:decide (v > m)=true:=decide_eq_true (by omega);have HF:=hDx (fail_any p l1 e1 1 w2 h2);have HG:=hDx hg2;have HV:=hDx hv;clear h2 hg2 HN hv
   go_wp2_with fail
   refine HF.out.mono ?_;rintro e w3 ⟨rfl,h3,hg3⟩;have hend:Hid (P (.returned (.int .i64 0)) w3):=hDx (by rw [← HP.out,HAt.out,if_neg HV.out]; exact ⟨rfl,h3,grown_trans HG.out hg3⟩);clear h3 hg3
   go_wp2_with fail
   exact hend.out
def RdPost (p:Nat) (st:Sta) (w:World) (e:Ending) (w':World):Prop:=∃ v,e=.returned v∧OwnP .i32 111 w.heap.size v (readS st).2 w'∧InSt p (readS st).1.1 (readS st).1.2 w'∧w.grownBy w' (some p)
theorem OwnP.grown {rk:IntKind} {T:TypeId} {base p:Nat} {v:Value} {l:List (Int × Int)} {w w':World} (h:OwnP rk T base v l w) (hg:w.grownBy w' (some p)) (hp:p<base):OwnP rk T base v l w':=h.kept hg (fun q hq e=>by have:=(h.ownBlock q hq).1; have:=Option.some.inj e; omega)
set_option maxRecDepth 100000 in
set_option maxHeartbeats 8000000 in
theorem bread_any (p:Nat) (st:Sta) (w:World) (h:InSt p st.1 st.2 w):Calls Tryd.prog 73 #[.pointer (some ⟨p,0,none⟩)] w (RdPost p st w):=by
 obtain ⟨P,hP⟩ : ∃ P,RdPost p st w=P:=⟨_,rfl⟩;rw [hP];have HP:=hDx hP;obtain ⟨rb,hrb⟩ : ∃ rb,w.heap.size=rb:=⟨_,rfl⟩;have HRb:=hDx hrb;have hpl:p<rb:=by obtain ⟨s,hb,-⟩ := h; rw [← hrb]; exact hb.lt
 have ha:=matmost_any p st 1024 (by decide) w h;rw [show ((1024:Nat):Int)=1024 from rfl] at ha;obtain ⟨⟨s0,n⟩,hat⟩ : ∃ q,atS st 1024=q:=⟨_,rfl⟩;rw [hat] at ha;have hn:n≤1024:=by have:=atS_le st 1024; rw [hat] at this; exact this
 have hrd:readS st=((rdN n s0).1,if (rdN n s0).1.2=0 then (rdN n s0).2 else []):=by unfold readS; rw [hat]
 have HA:=hDx ha;have HRd:=hDx hrd;have HPl:=hDx hpl;have hnI:(n:Int)≤1024:=by omega
 clear hP hrb h ha hat hrd hpl
 go_enter Tryd.func73,Tryd.ntmps73
 go_wp2_with fail
 refine HA.out.mono ?_;rintro e w2 ⟨rfl,h2,hg2⟩;have H2:Hid (InSt p s0.1 s0.2 w2∧w.grownBy w2 (some p)):=hDx ⟨h2,hg2⟩;clear h2 hg2 HA
 go_wp2_with fail
 go_loopw [3,7] (fun u i wr=>∃ j:Nat,i=.int .i64 (j:Int)∧j≤n∧Hid (OwnP .i32 111 rb u (rdN j s0).2 wr∧InSt p (rdN j s0).1.1 (rdN j s0).1.2 wr∧w.grownBy wr (some p))) (fun _ i _=>n - (intOf i).toNat)
 case atStart=>exact ⟨0,rfl,Nat.zero_le _,hDx ⟨OwnP.nil _ _ _ _,H2.out.1,H2.out.2⟩⟩
 case round =>
  obtain ⟨j,rfl,hj,HF⟩ := hrel;by_cases hlt:j<n
  · have hd:decide (j<n)=true:=decide_eq_true hlt;have hjI:(j:Int)<n:=by omega
    obtain ⟨sj,hsj⟩ : ∃ s,(rdN j s0).1=s:=⟨_,rfl⟩;obtain ⟨lj,hlj⟩ : ∃ l,(rdN j s0).2=l:=⟨_,rfl⟩;have hlen:lj.length=j:=by rw [← hlj,rdN_len]
    have hnx:rdN (j+1) s0=((gS sj).1,lj++[(gS sj).2]):=by show ((gS (rdN j s0).1).1,(rdN j s0).2++[(gS (rdN j s0).1).2])=_; rw [hsj,hlj]
    rw [hsj,hlj] at HF;have ha:=matmost_any p sj 1114111 (by decide) wr HF.out.2.1;rw [show ((1114111:Nat):Int)=1114111 from rfl] at ha;obtain ⟨⟨sa,x⟩,hat⟩ : ∃ q,atS sj 1114111=q:=⟨_,rfl⟩;rw [hat] at ha;have hx:x≤1114111:=by have:=atS_le sj 1114111; rw [hat] at this; exact this
    have HA:=hDx ha;have HX:=hDx hat;have HLen:=hDx hlen;have HNx:=hDx hnx;have hxI:(x:Int)≤1114111:=by omega
    have hwr:IntKind.i32.wrap (x:Int)=(x:Int):=by rw [IntKind.wrap_i32]; omega
    obtain ⟨ua,uc,rfl,-⟩ := HF.out.1.shape;rw [HLen.out] at HF ⊢;clear ha hat hlen hnx hsj hlj
    go_wp2_with fail
    refine HA.out.mono ?_;rintro e w4 ⟨rfl,h4,hg4⟩;have hb:=matmost_any p sa 647 (by decide) w4 h4;rw [show ((647:Nat):Int)=647 from rfl] at hb;obtain ⟨⟨sb,y⟩,hbt⟩ : ∃ q,atS sa 647=q:=⟨_,rfl⟩;rw [hbt] at hb;have hg:gS sj=(sb,((x:Int),(y:Int))):=by unfold gS; rw [HX.out]; simp only; rw [hbt]
    have HG:=hDx hg;have HB:=hDx hb;have H4:Hid (OwnP .i32 111 rb (.slice ua j uc) lj w4∧w.grownBy w4 (some p)):=hDx ⟨HF.out.1.grown hg4 HPl.out,grown_trans HF.out.2.2 hg4⟩;clear h4 hg4 hb hbt hg HA HF HX
    go_wp2_with fail
    refine HB.out.mono ?_;rintro e w5 ⟨rfl,h5,hg5⟩;have H5:Hid (OwnP .i32 111 rb (.slice ua j uc) lj w5∧w.grownBy w5 (some p)):=hDx ⟨H4.out.1.grown hg5 HPl.out,grown_trans H4.out.2 hg5⟩;have HI5:=hDx h5;have HS5:Hid (rb≤w5.heap.size):=hDx (by have:=H5.out.2.size; have:=HRb.out; omega);obtain ⟨g6,hg6⟩ : ∃ g,w5.heap.size=g:=⟨_,rfl⟩;obtain ⟨w6,hw6⟩ : ∃ w6,w5.alloc (.cells #[.int .i32 (x:Int),.int .i64 (y:Int)] 111)=w6:=⟨_,rfl⟩;have hnb:w6.heap[g6]?=some (.cells #[.int .i32 (x:Int),.int .i64 (y:Int)] 111 (0,0)):=by rw [← hw6,← hg6]; exact heap_alloc_new w5 _
    have hO6:OwnP .i32 111 rb (.slice ua j uc) lj w6:=by rw [← hw6]; exact H5.out.1.alloc _
    have hs6:w6.heap.size=w5.heap.size+1:=by rw [← hw6,World.size_alloc]
    have hb6:Below w5.heap.size w5 w6:=by rw [← hw6]; exact (Below.refl _ _).alloc (Nat.le_refl _) _
    have HO6:=hDx hO6;have HN0:Hid (w6.cell? ⟨g6,0,none⟩=some (.int .i32 (x:Int))):=hDx (by rw [cell_block hnb]; rfl);have HN1:Hid (w6.cell? ⟨g6,1,none⟩=some (.int .i64 (y:Int))):=hDx (by rw [cell_block hnb]; rfl);have HB6:=hDx hb6;have HW6:=hDx hw6;have HG6:=hDx hg6;have HS6:Hid (rb≤w6.heap.size):=hDx (by have:=HS5.out; omega);have HLl:Hid ((lj.length:Int)≤1000000):=hDx (by rw [HLen.out]; omega);clear h5 hg5 hg6 hw6 hnb hO6 hs6 hb6 HB H4
    go_wp2_with (at_builtin; (try rw [HW6.out,HG6.out]); refine wpList_append_pair gluT rfl _ _ rfl rfl rb _ lj ((x:Int),(y:Int)) g6 rfl rfl HO6.out HN0.out HN1.out HLl.out HS6.out ?_)
    intro v' w' hown hgr;have HE:Hid (OwnP .i32 111 rb v' (rdN (j+1) s0).2 w'∧InSt p (rdN (j+1) s0).1.1 (rdN (j+1) s0).1.2 w'∧w.grownBy w' (some p)):=hDx (by
     have hk:Below rb w6 w':=(Below.refl _ _).grown hgr HS6.out (fun q hq=>(HO6.out.ownBlock q hq).1);have hk5:Below rb w5 w':=(HB6.out.mono HS5.out).trans hk;rw [HNx.out,HG.out];obtain ⟨s,hb,h1,h2⟩ := HI5.out;have hg5:=H5.out.2;refine ⟨hown,⟨s,(hk5.block p HPl.out).trans hb,h1,h2⟩,hk5.os.trans hg5.os,hk5.tape.trans hg5.tape,hk5.output.trans hg5.output,Nat.le_trans hg5.size hk5.size,fun i hi hn=>(hk5.block i (by rw [← HRb.out]; exact hi)).trans (hg5.block i hi hn)⟩)
    clear hown hgr
    go_wp2
    go_roundw
    case rel=>exact ⟨j+1,by go_num,by omega,HE⟩
    case measure=>simp [intOf]; omega
  · obtain rfl:j=n:=by omega
    have hd:decide (j<j)=false:=by simp
    have HEr:=hDx (err_any p _ _ wr HF.out.2.1);obtain ⟨ua,uc,rfl,-⟩ := HF.out.1.shape;rw [rdN_len] at HF ⊢;have hend:(rdN j s0).1.2=0→P (.returned (.slice ua j uc)) wr:=fun h0=>by
     rw [← HP.out];unfold RdPost;rw [HRd.out,if_pos h0,HRb.out];exact ⟨_,rfl,HF.out.1,HF.out.2.1,HF.out.2.2⟩
    have hend2:(rdN j s0).1.2≠0→P (.returned (.slice none 0 0)) wr:=fun h0=>by
     rw [← HP.out];unfold RdPost;rw [HRd.out,if_neg h0];exact ⟨_,rfl,OwnP.nil _ _ _ _,HF.out.2.1,HF.out.2.2⟩
    obtain ⟨er,her⟩ : ∃ e,(rdN j s0).1.2=e:=⟨_,rfl⟩;rw [her] at HEr hend hend2;have HE1:=hDx hend;have HE2:=hDx hend2;clear hlt HF her hend hend2;by_cases h0:er=0
    · have q1:((er:Int) != 0)=false:=by rw [bne_eq_false_iff_eq]; omega
      have hE:Hid (P (.returned (.slice ua j uc)) wr):=hDx (HE1.out h0);clear h0 HE1 HE2
      go_wp2_with fail
      refine HEr.out.mono ?_;rintro e w9 ⟨rfl,rfl⟩
      go_wp2_with fail
      exact hE.out
    · have q1:((er:Int) != 0)=true:=by rw [bne_iff_ne]; omega
      have hE:Hid (P (.returned (.slice none 0 0)) wr):=hDx (HE2.out h0);clear h0 HE1 HE2
      go_wp2_with fail
      refine HEr.out.mono ?_;rintro e w9 ⟨rfl,rfl⟩
      go_wp2_with fail
      exact hE.out
end Go.Proofs.YtagolklnjhpbdaaDoor.K

namespace Go.Proofs.YtagolklnjhpbdaaDoor.K
open Go.RowKit Go.Proofs.YtagolklnjhpbdaaDoor.I
set_option maxHeartbeats 2000000 in
theorem natmost_any (p:Nat) (st:Sta) (m:Nat) (hm:m≤2000000) (w:World) (h:InSt p st.1 st.2 w):Calls Tryd.prog 97 #[.pointer (some ⟨p,0,none⟩),.int .i64 (m:Int)] w (Took p (.int .i64 ((atS st m).2:Nat)) (atS st m).1 w):=by
 have HN:=hDx (innum_any p st.1 st.2 w h);obtain ⟨P,hP⟩ : ∃ P,Took p (.int .i64 ((atS st m).2:Nat)) (atS st m).1 w=P:=⟨_,rfl⟩;rw [hP];have HP:=hDx hP;obtain ⟨⟨⟨l1,e1⟩,v⟩,hn⟩ : ∃ q,numS st.1 st.2=q:=⟨_,rfl⟩;have ha:atS st m=if v≤m then ((l1,e1),v) else (failS l1 e1 1,0):=by unfold atS; rw [hn]
 rw [hn] at HN;have HAt:=hDx ha;clear hP h hn ha
 go_enter Tryd.func97,Tryd.ntmps97
 go_wp2_with fail
 refine HN.out.mono ?_;rintro e w2 ⟨rfl,h2,hg2⟩;by_cases hv:v≤m
 · have d1:decide ((v:Int) > (m:Int))=false:=decide_eq_false (by omega);have d2:decide (m<v)=false:=decide_eq_false (by omega);have d3:decide (v > m)=false:=decide_eq_false (by omega);have hend:Hid (P (.returned (.int .i64 (v:Int))) w2):=hDx (by rw [← HP.out,HAt.out,if_pos hv]; exact ⟨rfl,h2,hg2⟩);clear h2 hg2 HN hv
   go_wp2_with fail
   exact hend.out
 · have d1:decide ((v:Int) > (m:Int))=true:=decide_eq_true (by omega);have d2:decide (m<v)=true:=decide_eq_true (by omega);have d3:decide (v > m)=true:=decide_eq_true (by omega);have HF:=hDx (fail_any p l1 e1 1 w2 h2);have HG:=hDx hg2;have HV:=hDx hv;clear h2 hg2 HN hv
   go_wp2_with fail
   refine HF.out.mono ?_;rintro e w3 ⟨rfl,h3,hg3⟩;have hend:Hid (P (.returned (.int .i64 0)) w3):=hDx (by rw [← HP.out,HAt.out,if_neg HV.out]; exact ⟨rfl,h3,grown_trans HG.out hg3⟩);clear h3 hg3
   go_wp2_with fail
   exact hend.out
theorem grown_setNew {w w':World} {p rb:Nat} (h:w.grownBy w' (some p)) (hr:w.heap.size≤rb) (o:Nat) (v:Value):w.grownBy (w'.setCell ⟨rb,o,none⟩ v) (some p) :=
 ⟨h.os,h.tape,h.output,Nat.le_trans h.size (KeepsWalks.setCell w' _ v).size,fun i hi hn=>(Below.heap_setCell _ _ _ i (fun e=>by have:i=rb:=e; omega)).trans (h.block i hi hn)⟩
theorem inst_setOther {p rb:Nat} {l:List UInt8} {e:Nat} {w:World} (h:InSt p l e w) (hne:p≠rb) (o:Nat) (v:Value):InSt p l e (w.setCell ⟨rb,o,none⟩ v):=by
 obtain ⟨s,hb,hl,hs⟩ := h;exact ⟨s,(Below.heap_setCell w ⟨rb,o,none⟩ v p hne).trans hb,hl,hs⟩
set_option maxRecDepth 100000 in
set_option maxHeartbeats 8000000 in
theorem readRun_any (p:Nat) (st:Sta) (m:Nat) (hm:m≤2000000) (w:World) (h:InSt p st.1 st.2 w):Calls Tryd.prog 98 #[.pointer (some ⟨p,0,none⟩),.int .i64 (m:Int)] w (Took p (.agg #[.int .i64 (((runS st m).2.1:Nat):Int),.int .i32 (runS st m).2.2.rune,.int .i64 (runS st m).2.2.style,.int .i64 (runS st m).2.2.part]) (runS st m).1 w):=by
 obtain ⟨rb,hrb⟩ : ∃ rb,w.heap.size=rb:=⟨_,rfl⟩;obtain ⟨P,hP⟩ : ∃ P,Took p (.agg #[.int .i64 (((runS st m).2.1:Nat):Int),.int .i32 (runS st m).2.2.rune,.int .i64 (runS st m).2.2.style,.int .i64 (runS st m).2.2.part]) (runS st m).1 w=P:=⟨_,rfl⟩;rw [hP];have HP:=hDx hP;have hpl:p<rb:=by obtain ⟨s,hb,-⟩ := h; rw [← hrb]; exact hb.lt
 obtain ⟨w1,hw1⟩ : ∃ w1,w.alloc (.cells #[.int .i64 0,.int .i32 0,.int .i64 0,.int .i64 0] 129)=w1:=⟨_,rfl⟩;have hbk:w1.heap[rb]?=some (.cells #[.int .i64 0,.int .i32 0,.int .i64 0,.int .i64 0] 129 (0,0)):=by rw [← hw1,← hrb]; exact heap_alloc_new w _
 have h1:InSt p st.1 st.2 w1:=by rw [← hw1]; exact h.alloc _
 have hg1:w.grownBy w1 (some p):=by rw [← hw1]; exact World.grownBy_alloc w _ _
 have HA:=hDx (natmost_any p st m hm w1 h1);obtain ⟨⟨s0,n⟩,hat⟩ : ∃ q,atS st m=q:=⟨_,rfl⟩;rw [hat] at HA;have hr1:r1 st m=(s0,n):=hat;have HR1:=hDx hr1;have HRb:=hDx hrb;have HW1:=hDx hw1;have HBk0:=hDx hbk;have HG0:=hDx hg1;have HNe:Hid (p≠rb):=hDx (by omega);have HRs:Hid (w.heap.size≤rb):=hDx (by omega);clear hP hrb h hpl hw1 hbk h1 hg1 hat hr1
 go_enter Tryd.func98,Tryd.ntmps98
 go_upto_region 1 with fail
 rw [HW1.out,HRb.out]
 go_wp2_with fail
 refine HA.out.mono ?_;rintro e w2 ⟨rfl,h2,hg2⟩;have hbk2:w2.heap[rb]?=some (.cells #[.int .i64 0,.int .i32 0,.int .i64 0,.int .i64 0] 129 (0,0)):=(hg2.block rb (gSx.1 HBk0.out).1 (fun e=>HNe.out (Option.some.inj e).symm)).trans HBk0.out;have HBk:=hDx hbk2;have HG1:=hDx (grown_trans HG0.out hg2);have HLt:Hid (rb<w2.heap.size):=hDx (gSx.1 hbk2).1;clear hbk2 hg2 HA;by_cases hn:n=0
 · subst hn;have HF:=hDx (fail_any p s0.1 s0.2 1 w2 h2);obtain ⟨sz,hsz⟩ : ∃ sz:Sta,failS s0.1 s0.2 1=sz:=⟨_,rfl⟩;have hz:zeroF (r1 st m).1 (r1 st m).2=sz:=by rw [HR1.out]; unfold zeroF; rw [if_pos rfl]; exact hsz
   have HZ:=hDx hz;rw [hsz] at HF;clear h2 hsz hz
   go_wp2_with fail
   refine HF.out.mono ?_;rintro e w3 ⟨rfl,h3,hg3⟩;obtain ⟨⟨s1,vx⟩,hx⟩ : ∃ q,atS sz 1114111=q:=⟨_,rfl⟩;obtain ⟨⟨s2,vs⟩,hs⟩ : ∃ q,atS s1 647=q:=⟨_,rfl⟩;obtain ⟨⟨s4,vp⟩,hp⟩ : ∃ q,atS s2 3=q:=⟨_,rfl⟩;have hvx:vx≤1114111:=by have:=atS_le sz 1114111; rw [hx] at this; exact this
   have HRun:Hid (runS st m=(s4,(0,⟨(vx:Int),(vs:Int),(vp:Int)⟩))):=hDx (by
    unfold runS;rw [r4_def,r3_def,r2_def,HZ.out,HR1.out,hx];simp only;rw [hs];simp only;rw [hp])
   have hX:=natmost_any p sz 1114111 (by decide) w3 h3;rw [hx] at hX;have HX:=hDx hX;have hlt3:=Nat.lt_of_lt_of_le HLt.out hg3.size;have b3:=(hg3.block rb HLt.out (fun e=>HNe.out (Option.some.inj e).symm)).trans HBk.out;have HG3:=hDx (grown_trans HG1.out hg3);have HB3:=hDx b3;have HS0:=hDx hs;have HP0:=hDx hp;clear h3 hg3 hlt3 b3 hX hx hs hp
   go_wp2_with fail
   refine HX.out.mono ?_;rintro e w4 ⟨rfl,h4,hg4⟩;have HG4:=hDx (grown_trans HG3.out hg4);have HB4:Hid (w4.heap[rb]?=some (.cells #[.int .i64 0,.int .i32 0,.int .i64 0,.int .i64 0] 129 (0,0))):=hDx ((hg4.block rb (gSx.1 HB3.out).1 (fun e=>HNe.out (Option.some.inj e).symm)).trans HB3.out);have hS:=natmost_any p s1 647 (by decide) w4 h4;rw [HS0.out] at hS;have HS:=hDx hS;have hwx:IntKind.i32.wrap (vx:Int)=(vx:Int):=by rw [IntKind.wrap_i32]; omega
   clear h4 hg4 HX hS
   go_wp2_with fail
   refine HS.out.mono ?_;rintro e w5 ⟨rfl,h5,hg5⟩;have HG5:=hDx (grown_trans HG4.out hg5);have HB5:Hid (w5.heap[rb]?=some (.cells #[.int .i64 0,.int .i32 0,.int .i64 0,.int .i64 0] 129 (0,0))):=hDx ((hg5.block rb (gSx.1 HB4.out).1 (fun e=>HNe.out (Option.some.inj e).symm)).trans HB4.out);have hPt:=natmost_any p s2 3 (by decide) w5 h5;rw [HP0.out] at hPt;have HPt:=hDx hPt;clear h5 hg5 HS hPt
   go_wp2_with fail
   refine HPt.out.mono ?_;rintro e w6 ⟨rfl,h6,hg6⟩;have HG6:=hDx (grown_trans HG5.out hg6);have hB6:w6.heap[rb]?=some (.cells #[.int .i64 0,.int .i32 0,.int .i64 0,.int .i64 0] 129 (0,0)):=(hg6.block rb (gSx.1 HB5.out).1 (fun e=>HNe.out (Option.some.inj e).symm)).trans HB5.out;have q0:w6.cell? ⟨rb,0,none⟩=some (.int .i64 0):=by rw [cell_block hB6]; rfl
   have q1:w6.cell? ⟨rb,1,none⟩=some (.int .i32 0):=by rw [cell_block hB6]; rfl
   have q2:w6.cell? ⟨rb,2,none⟩=some (.int .i64 0):=by rw [cell_block hB6]; rfl
   have q3:w6.cell? ⟨rb,3,none⟩=some (.int .i64 0):=by rw [cell_block hB6]; rfl
   have f0:=frozen_block hB6 0;have f1:=frozen_block hB6 1;have f2:=frozen_block hB6 2;have f3:=frozen_block hB6 3;have hend:Hid (P (.returned (.agg #[.int .i64 0,.int .i32 (vx:Int),.int .i64 (vs:Int),.int .i64 (vp:Int)])) ((((w6.setCell ⟨rb,0,none⟩ (.int .i64 0)).setCell ⟨rb,1,none⟩ (.int .i32 (vx:Int))).setCell ⟨rb,2,none⟩ (.int .i64 (vs:Int))).setCell ⟨rb,3,none⟩ (.int .i64 (vp:Int)))):=hDx (by
    rw [← HP.out];have e1:=HRun.out;refine ⟨?_,?_,grown_setNew (grown_setNew (grown_setNew (grown_setNew HG6.out HRs.out _ _) HRs.out _ _) HRs.out _ _) HRs.out _ _⟩
    · rw [e1]; try rfl
    · rw [e1];exact inst_setOther (inst_setOther (inst_setOther (inst_setOther h6 HNe.out _ _) HNe.out _ _) HNe.out _ _) HNe.out _ _)
   clear h6 hg6 hB6 HPt
   go_wp2_with fail
   refine bodyPost_ret (v:=.agg #[.int .i64 0,.int .i32 (vx:Int),.int .i64 (vs:Int),.int .i64 (vp:Int)]) (by rw [results_cell rfl]; go_simp) rfl ?_;exact hend.out
 · have q:((n:Int) == 0)=false:=by rw [beq_eq_false_iff_ne]; omega
   have hz:zeroF (r1 st m).1 (r1 st m).2=s0:=by rw [HR1.out]; unfold zeroF; rw [if_neg hn]
   have HZ:=hDx hz;have h3:=h2;have hg3:w2.grownBy w2 (some p):=grown_refl _ _;clear h2 hn hz;obtain ⟨⟨s1,vx⟩,hx⟩ : ∃ q,atS s0 1114111=q:=⟨_,rfl⟩;obtain ⟨⟨s2,vs⟩,hs⟩ : ∃ q,atS s1 647=q:=⟨_,rfl⟩;obtain ⟨⟨s4,vp⟩,hp⟩ : ∃ q,atS s2 3=q:=⟨_,rfl⟩;have hvx:vx≤1114111:=by have:=atS_le s0 1114111; rw [hx] at this; exact this
   have HRun:Hid (runS st m=(s4,(n,⟨(vx:Int),(vs:Int),(vp:Int)⟩))):=hDx (by
    unfold runS;rw [r4_def,r3_def,r2_def,HZ.out,HR1.out,hx];simp only;rw [hs];simp only;rw [hp])
   have hX:=natmost_any p s0 1114111 (by decide) w2 h3;rw [hx] at hX;have HX:=hDx hX;have hlt3:=Nat.lt_of_lt_of_le HLt.out hg3.size;have b3:=(hg3.block rb HLt.out (fun e=>HNe.out (Option.some.inj e).symm)).trans HBk.out;have HG3:=hDx (grown_trans HG1.out hg3);have HB3:=hDx b3;have HS0:=hDx hs;have HP0:=hDx hp;clear h3 hg3 hlt3 b3 hX hx hs hp
   go_wp2_with fail
   refine HX.out.mono ?_;rintro e w4 ⟨rfl,h4,hg4⟩;have HG4:=hDx (grown_trans HG3.out hg4);have HB4:Hid (w4.heap[rb]?=some (.cells #[.int .i64 0,.int .i32 0,.int .i64 0,.int .i64 0] 129 (0,0))):=hDx ((hg4.block rb (gSx.1 HB3.out).1 (fun e=>HNe.out (Option.some.inj e).symm)).trans HB3.out);have hS:=natmost_any p s1 647 (by decide) w4 h4;rw [HS0.out] at hS;have HS:=hDx hS;have hwx:IntKind.i32.wrap (vx:Int)=(vx:Int):=by rw [IntKind.wrap_i32]; omega
   clear h4 hg4 HX hS
   go_wp2_with fail
   refine HS.out.mono ?_;rintro e w5 ⟨rfl,h5,hg5⟩;have HG5:=hDx (grown_trans HG4.out hg5);have HB5:Hid (w5.heap[rb]?=some (.cells #[.int .i64 0,.int .i32 0,.int .i64 0,.int .i64 0] 129 (0,0))):=hDx ((hg5.block rb (gSx.1 HB4.out).1 (fun e=>HNe.out (Option.some.inj e).symm)).trans HB4.out);have hPt:=natmost_any p s2 3 (by decide) w5 h5;rw [HP0.out] at hPt;have HPt:=hDx hPt;clear h5 hg5 HS hPt
   go_wp2_with fail
   refine HPt.out.mono ?_;rintro e w6 ⟨rfl,h6,hg6⟩;have HG6:=hDx (grown_trans HG5.out hg6);have hB6:w6.heap[rb]?=some (.cells #[.int .i64 0,.int .i32 0,.int .i64 0,.int .i64 0] 129 (0,0)):=(hg6.block rb (gSx.1 HB5.out).1 (fun e=>HNe.out (Option.some.inj e).symm)).trans HB5.out;have q0:w6.cell? ⟨rb,0,none⟩=some (.int .i64 0):=by rw [cell_block hB6]; rfl
   have q1:w6.cell? ⟨rb,1,none⟩=some (.int .i32 0):=by rw [cell_block hB6]; rfl
   have q2:w6.cell? ⟨rb,2,none⟩=some (.int .i64 0):=by rw [cell_block hB6]; rfl
   have q3:w6.cell? ⟨rb,3,none⟩=some (.int .i64 0):=by rw [cell_block hB6]; rfl
   have f0:=frozen_block hB6 0;have f1:=frozen_block hB6 1;have f2:=frozen_block hB6 2;have f3:=frozen_block hB6 3;have hend:Hid (P (.returned (.agg #[.int .i64 (n:Int),.int .i32 (vx:Int),.int .i64 (vs:Int),.int .i64 (vp:Int)])) ((((w6.setCell ⟨rb,0,none⟩ (.int .i64 (n:Int))).setCell ⟨rb,1,none⟩ (.int .i32 (vx:Int))).setCell ⟨rb,2,none⟩ (.int .i64 (vs:Int))).setCell ⟨rb,3,none⟩ (.int .i64 (vp:Int)))):=hDx (by
    rw [← HP.out];have e1:=HRun.out;refine ⟨?_,?_,grown_setNew (grown_setNew (grown_setNew (grown_setNew HG6.out HRs.out _ _) HRs.out _ _) HRs.out _ _) HRs.out _ _⟩
    · rw [e1]; try rfl
    · rw [e1];exact inst_setOther (inst_setOther (inst_setOther (inst_setOther h6 HNe.out _ _) HNe.out _ _) HNe.out _ _) HNe.out _ _)
   clear h6 hg6 hB6 HPt
   go_wp2_with fail
   refine bodyPost_ret (v:=.agg #[.int .i64 (n:Int),.int .i32 (vx:Int),.int .i64 (vs:Int),.int .i64 (vp:Int)]) (by rw [results_cell rfl]; go_simp) rfl ?_;exact hend.out
end Go.Proofs.YtagolklnjhpbdaaDoor.K

namespace Go.Proofs.YtagolklnjhpbdaaDoor.K
open Go.RowKit Go.Proofs.YtagolklnjhpbdaaDoor.I
def qCells (q:Nat × Cel):List Value:=[.int .i64 (q.1:Int),.int .i32 q.2.rune,.int .i64 q.2.style,.int .i64 q.2.part]
def flatQ (R:List (Nat × Cel)):List Value:=R.flatMap qCells
theorem flatQ_append (A B:List (Nat × Cel)):flatQ (A++B)=flatQ A++flatQ B:=List.flatMap_append ..
theorem flatQ_get:∀ (l:List (Nat × Cel)) (i j:Nat) (c:Nat × Cel),l[i]?=some c→j<4→(flatQ l)[i*4+j]?=(qCells c)[j]?
  | [],_,_,_,h,_=>by cases h
  | d::l,0,j,c,h,hj=>by
   obtain rfl:d=c:=by simpa using h
   show (qCells d++flatQ l)[0*4+j]?=_;rw [List.getElem?_append_left (by simp [qCells]; omega)];simp
  | d::l,i+1,j,c,h,hj=>by
   show (qCells d++flatQ l)[(i+1)*4+j]?=_;rw [List.getElem?_append_right (by simp [qCells]; omega)];have e:(i+1)*4+j - (qCells d).length=i*4+j:=by simp [qCells]; omega
   rw [e];exact flatQ_get l i j c (by simpa using h) hj
def OwnRn (base:Nat) (v:Value) (R:List (Nat × Cel)) (w:World):Prop:=w.ownsRow base 129 4 v R.length (flatQ R)
theorem OwnRn.nil (base:Nat) (w:World):OwnRn base (.slice none 0 0) [] w:=World.ownsRow_nil _ _ _ _
theorem OwnRn.belowAll {base:Nat} {v:Value} {R:List (Nat × Cel)} {w w':World} (h:OwnRn base v R w) (hb:Below w.heap.size w w'):OwnRn base v R w':=U.belowAll h hb
theorem OwnRn.own {base:Nat} {v:Value} {R:List (Nat × Cel)} {w:World} (h:OwnRn base v R w):∀ q,v.ownBlock=some q→base≤q∧q<w.heap.size:=fun q hq=>⟨(U.own_type h hq).choose_spec.2.1,(U.own_type h hq).choose_spec.2.2⟩
theorem OwnRn.grown {base p:Nat} {v:Value} {R:List (Nat × Cel)} {w w':World} (h:OwnRn base v R w) (hg:w.grownBy w' (some p)) (hp:p<base):OwnRn base v R w':=U.kept_apart h hg (fun q hq e=>by have:=(h.own q hq).1; have:=Option.some.inj e; omega)
structure RunAt (w:World) (b o:Nat) (q:Nat × Cel):Prop where
 c0:w.cell? ⟨b,o,none⟩=some (.int .i64 (q.1:Int))
 c1:w.cell? ⟨b,o+1,none⟩=some (.int .i32 q.2.rune)
 c2:w.cell? ⟨b,o+1+1,none⟩=some (.int .i64 q.2.style)
 c3:w.cell? ⟨b,o+1+2,none⟩=some (.int .i64 q.2.part)
theorem RunAt.below {w w':World} {b o B:Nat} {q:Nat × Cel} (h:RunAt w b o q) (hb:Below B w w') (hl:b<B):RunAt w' b o q :=
 ⟨(hb.cell (p:=⟨b,o,none⟩) hl).trans h.c0,(hb.cell (p:=⟨b,o+1,none⟩) hl).trans h.c1,(hb.cell (p:=⟨b,o+1+1,none⟩) hl).trans h.c2,(hb.cell (p:=⟨b,o+1+2,none⟩) hl).trans h.c3⟩
theorem OwnRn.shape {base:Nat} {v:Value} {R:List (Nat × Cel)} {w:World} (h:OwnRn base v R w):∃ a c,v=.slice a R.length c∧R.length≤c∧(c:Int)≤9223372036854775807∧(R=[]∨∃ b,a=some ⟨b,0,none⟩∧base≤b∧b<w.heap.size∧∀ i q,R[i]?=some q→RunAt w b (i*4) q):=by
 rcases h.2 with ⟨rfl,h0⟩ | ⟨g,cap,cur,rfl,hbase,hg,hc,hm,hs,ht⟩
 · exact ⟨none,0,by rw [h0],by omega,by decide,.inl (List.length_eq_zero_iff.1 h0)⟩
 · have hlt:=(gSx.1 hg).1;refine ⟨some ⟨g,0,none⟩,cap,rfl,hc,by unfold maxLen at hm; omega,.inr ⟨g,rfl,hbase,hlt,fun i q hi=>?_⟩⟩;have hil:i<R.length:=(List.getElem?_eq_some_iff.1 hi).1;have hcell:∀ j,j<4→w.cell? ⟨g,i*4+j,none⟩=(qCells q)[j]?:=fun j hj=>by
    rw [World.ownsRow.cellAt h (i*4+j) (by omega),flatQ_get R i j q hi hj]
   exact ⟨hcell 0 (by decide),hcell 1 (by decide),hcell 2 (by decide),hcell 3 (by decide)⟩
theorem runInfo:(Tryd.prog.info? 129).map (fun i=>(i.zero,i.size,i.bytes))=some (some (.agg #[.int .i64 0,.int .i32 0,.int .i64 0,.int .i64 0]),4,32):=by kernel_rfl
theorem wpList_append_run {ops:Array Oper} {rest:List Oper} {o:Oper} {z:Act} {w:World} {Q:Exit→Act→World→Prop} (hgd:o.guard=none) (s x:Operand)
    (ho:o.op=.call { callee:=.builtin .append,args:=#[s,x],argTypes:=#[162,162] }) (hty:o.type=162)
    (base:Nat) (v:Value) (l:List (Nat × Cel)) (c:Nat × Cel) (p:Nat) (hs:z.eval s=v) (hxv:z.eval x=.slice (some ⟨p,0,none⟩) 1 1) (hown:OwnRn base v l w)
    (hp:w.heap[p]?=some (.cells (qCells c).toArray 129 (0,0))) (hl:(l.length:Int)≤1000000) (hbase:base≤w.heap.size)
    (hK:∀ v' w',OwnRn base v' (l++[c]) w'→w.grownBy w' v.ownBlock→wpList Tryd.prog ops Q rest (z.put o.dst v') w'):wpList Tryd.prog ops Q (o::rest) z w :=
 wpList_plain hgd fun _ hK'=>by
  obtain ⟨i0,hi,hz0,hz1,hz2⟩ := info_parts runInfo;have hmul:(l.length+1)*32≤140737488355328:=by omega
  have hnews:∀ j u,(qCells c)[j]?=some u→w.cell? ((⟨p,0,none⟩ : Addr).add j)=some u:=fun j u hj=>by
   have hadd:((⟨p,0,none⟩ : Addr).add j)=⟨p,0+j,none⟩ := by unfold Addr.add; split <;> simp_all
   rw [hadd,Nat.zero_add,cell_block hp,List.getElem?_toArray];exact hj
  obtain ⟨v',w',hr,g⟩ := U.append_grew (P:=Tryd.prog) w 162 162 129 i0 _ 4 32 Tryd.underlying162 hi hz0 hz1 hz2 rfl (by decide) base v l.length (flatQ l) hown ⟨p,0,none⟩ 1 1 (qCells c) rfl hnews (fun u hu=>by simp only [qCells,List.mem_cons,List.not_mem_nil,or_false] at hu; rcases hu with rfl | rfl | rfl | rfl <;> rfl) (by unfold maxLen; omega) hmul hbase;unfold Oper.wp execOp;simp only [ho,hty,resolve,invoke,builtin,Sem.run_bind,Sem.run_pure,Result.andThen_ok,List.map_toArray,List.map_cons,List.map_nil,hs,hxv,hr];refine hK' _ _ (hK v' w' ?_ g.grown);have e:flatQ (l++[c])=flatQ l++qCells c:=by rw [flatQ_append]; simp [flatQ]
  unfold OwnRn;rw [e,List.length_append];exact g.own
theorem rowS_stop {f m:Nat} {st:Sta} {pr:Option Cel} (h:m=0∨st.2≠0) (hf:m<f∨st.2≠0):rowS f m st pr=(st,[]):=by
 cases f with
 | zero=>rfl
 | succ f=>unfold rowS; rw [if_pos h]
theorem rowS_go {f m:Nat} {st:Sta} {pr:Option Cel} (hm:m≠0) (he:st.2=0) (hf:m<f):∃ g,f=g+1∧rowS f m st pr=((rowS g (m - (runS st m).2.1) (likeF (runS st m).1 pr (runS st m).2.2) (some (runS st m).2.2)).1,(runS st m).2::(rowS g (m - (runS st m).2.1) (likeF (runS st m).1 pr (runS st m).2.2) (some (runS st m).2.2)).2):=by
 obtain ⟨g,rfl⟩ : ∃ g,f=g+1:=⟨f - 1,by omega⟩;refine ⟨g,rfl,?_⟩;rw [rowS,if_neg (by intro h; rcases h with h | h; exact hm h; exact h he)]
end Go.Proofs.YtagolklnjhpbdaaDoor.K

namespace Go.Proofs.YtagolklnjhpbdaaDoor.R
open Go
section
variable {P:Program} {ops:Array Oper} {Q:Exit→Act→World→Prop}
def keepsB (ops:Array Oper) (i t:Nat):Bool:=(List.range ops.size).all fun j=>match ops[j]? with
  | none=>true
  | some o=>match o.dst with
    | none=>true
    | some d=>d != t || reachD ops ops.size j i
theorem keepsB_spec {i t:Nat} (h:keepsB ops i t=true) {j:Nat} {o:Oper} (ho:ops[j]?=some o) (hd:o.dst=some t):reachD ops ops.size j i=true:=by
 have h1:=List.all_eq_true.1 h j (List.mem_range.2 (gSx.1 ho).1);rw [ho] at h1;simp only [hd,bne_self_eq_false,Bool.false_or] at h1;exact h1
def OpStepE (P:Program) (ops:Array Oper) (Q:Exit→Act→World→Prop) (base:Act) (cs due:List Nat) (St:Nat→(Nat→Value)→World→Prop) (R:World→World→Prop) (Ok:Nat→Value→World→Prop) (i:Nat) (o:Oper):Prop :=
 match cs.findIdx? (fun c=>c == i) with
 | none=>∀ (k:Nat) (a:Act) (w:World),k≤due.getD i cs.length→St k (slot a) w→Agree ops base a→(∀ e ∈ o.after,Region.binds .any e=true→∀ oj d,ops[e.on]?=some oj→oj.dst=some d→Ok e.on (a.tmps.getD d undef) w)→(∀ t,keepsB ops i t=true→a.tmps.getD t undef=base.tmps.getD t undef) →
   (Region.wanted o (yielded ops a.tmps)=true∧∀ K:Act→World→Prop,(∀ v w',R w w'→Ok i v w'→St k (slot a) w'→K (a.put o.dst v) w')→o.wp P a w K Q) ∨
   (Region.wanted o (yielded ops a.tmps)=false∧R w w∧Ok i undef w)
 | some j=>∀ (a:Act) (w:World),St j (slot a) w→Agree ops base a→(∀ e ∈ o.after,Region.binds .any e=true→∀ oj d,ops[e.on]?=some oj→oj.dst=some d→Ok e.on (a.tmps.getD d undef) w)→(∀ t,keepsB ops i t=true→a.tmps.getD t undef=base.tmps.getD t undef) →
   Region.wanted o (yielded ops a.tmps)=true∧∀ K:Act→World→Prop,(∀ v w',R w w'→Ok i v w'→St (j+1) (slot (a.put o.dst v)) w'→K (a.put o.dst v) w')→o.wp P a w K Q
theorem wp_region_kept {id:Nat} {base:Act} {w0:World} (cs due:List Nat) (hm:P.follows .mixedOrders=true) (St:Nat→(Nat→Value)→World→Prop) (R:World→World→Prop) (Ok:Nat→Value→World→Prop)
    (hin:(ops.toList.all fun o=>match o.dst with | some d=>decide (d<base.tmps.size) | none=>true)=true)
    (hdis:distinctB ops=true) (hordB:orderedN ops ops.size=true) (hch:chainB ops cs=true) (hdu:dueB ops cs due=true)
    (hcong:∀ k f g w,(∀ s ∈ slotsP ops cs k,f s=g s)→St k f w→St k g w)
    (hOk:∀ i v w w',Ok i v w→R w w'→Ok i v w')
    (hop:EachOp (OpStepE P ops Q base cs due St R Ok) 0 ops.toList)
    (hdone:∀ a w,St cs.length (slot a) w→Agree ops base a→(∀ (i:Nat) (o:Oper) (d:Nat),ops[i]?=some o→o.dst=some d→Ok i (a.tmps.getD d undef) w)→Q .normal a w)
    (h0:St 0 (slot base) w0.drew):(Code.region id ops true).wp P Q base w0:=by
 let C:(Nat→Bool)→Act→World→Prop:=fun L a w=>∃ k,k≤cs.length∧(∀ j c,cs[j]?=some c→L c=decide (j<k))∧(∀ c o,L c=true→ops[c]?=some o→∀ e ∈ o.after,Region.binds .any e=true→L e.on=true)∧(∀ t,(∀ j o,ops[j]?=some o→o.dst=some t→L j=false)→slot a t=slot base t)∧St k (slot a) w
 have hdst:∀ (L:Nat→Bool) (k i:Nat) (o:Oper) (d:Nat),ops[i]?=some o→o.dst=some d→L i=false→(∀ j c,cs[j]?=some c→L c=decide (j<k))→(∀ j c o,j<k→cs[j]?=some c→ops[c]?=some o→∀ e ∈ o.after,Region.binds .any e=true→L e.on=true)→∀ s ∈ slotsP ops cs k,s≠d:=by
  intro L k i o d ho hd hL h1 h2 s hs e;subst e;unfold slotsP at hs;obtain ⟨c,hc,hs⟩ := List.mem_flatMap.1 hs;obtain ⟨j,hjc⟩ := List.mem_iff_getElem?.1 hc;rw [List.getElem?_take] at hjc
  split at hjc
  · rename_i hjk;have hLc:=h1 j c hjc;rw [decide_eq_true hjk] at hLc;cases ho':ops[c]? with
    | none=>rw [ho'] at hs; cases hs
    | some o' =>
     rw [ho'] at hs;simp only at hs;rcases List.mem_append.1 hs with hs | hs
     · cases hd':o'.dst with
       | none=>rw [hd'] at hs; cases hs
       | some d' =>
        rw [hd'] at hs;obtain rfl:s=d':=by simpa using hs
        have:=distinctB_spec (ops:=ops) hdis i c o o' s ho ho' hd hd';rw [this] at hL;rw [hL] at hLc;cases hLc
     · obtain ⟨e,he,hs⟩ := List.mem_flatMap.1 hs;obtain ⟨he,hb⟩ := List.mem_filter.1 he;have hLe:=h2 j c o' hjk hjc ho' e (by simpa using he) hb;cases ho2:ops[e.on]? with
       | none=>rw [ho2] at hs; cases hs
       | some o2 =>
        rw [ho2] at hs;simp only at hs;cases hd2:o2.dst with
        | none=>rw [hd2] at hs; cases hs
        | some d2 =>
         rw [hd2] at hs;obtain rfl:s=d2:=by simpa using hs
         have:=distinctB_spec (ops:=ops) hdis i e.on o o2 s ho ho2 hd hd2;rw [this] at hL;rw [hL] at hLe;cases hLe
  · cases hjc
 refine wp_region_relA hm C R Ok hin hdis hordB hOk ?_ ?_ ⟨0,Nat.zero_le _,fun j c _=>by simp,(fun c o hc=>by simp at hc),(fun _ _=>rfl),h0⟩
 ·
   have key:∀ i o,ops.toList[i]?=some o→OpStepA P ops Q base C R Ok i o:=by
    intro i o hio;have hio':ops[i]?=some o:=by simpa using hio
    have hstep:=hop.at i o hio;rw [Nat.zero_add] at hstep;intro L a w hL hpre hC hag hdep;obtain ⟨k,hk,h1,hcl,hfr,hst⟩ := hC;have hfree:∀ t,keepsB ops i t=true→a.tmps.getD t undef=base.tmps.getD t undef:=fun t ht=>hfr t (fun j oj hoj hdj=>by
     cases hLj:L j with
     | false=>rfl
     | true =>
      have h9:=reachD_spec hcl _ j i (keepsB_spec ht hoj hdj) hLj;rw [hL] at h9;cases h9)
    have hfr':∀ v:Value,∀ t,(∀ j oj,ops[j]?=some oj→oj.dst=some t→upd L i j=false)→slot (a.put o.dst v) t=slot base t:=fun v t ht=>by
     have hne:o.dst≠some t:=fun e=>by
      have h9:=ht i o hio' e;unfold upd at h9;simp at h9
     have hL':∀ j oj,ops[j]?=some oj→oj.dst=some t→L j=false:=fun j oj hoj hdj=>by
      have h9:=ht j oj hoj hdj;unfold upd at h9
      split at h9
      · cases h9
      · exact h9
     cases hd:o.dst with
     | none=>exact hfr t hL'
     | some d =>
      rw [slot_put (fun e=>hne (by rw [hd,e]))];exact hfr t hL'
    have h2:∀ j c o,j<k→cs[j]?=some c→ops[c]?=some o→∀ e ∈ o.after,Region.binds .any e=true→L e.on=true:=fun j c o hj hc=>hcl c o (by rw [h1 j c hc,decide_eq_true hj])
    have hcl':∀ c o',upd L i c=true→ops[c]?=some o'→∀ e ∈ o'.after,Region.binds .any e=true→upd L i e.on=true:=fun c o' hc ho' e he hb=>by
     have h6:L e.on=true:=by
      unfold upd at hc
      split at hc
      · rename_i hci;subst hci;rw [hio'] at ho';cases ho';exact hpre e he hb
      · exact hcl c o' hc ho' e he hb
     unfold upd
     split
     · rfl
     · exact h6
    unfold OpStepE at hstep;cases hf:cs.findIdx? (fun c=>c == i) with
    | none =>
     rw [hf] at hstep;simp only at hstep;have hni:∀ j c,cs[j]?=some c→c≠i:=fun j c hc e=>by
      have:=List.findIdx?_eq_none_iff.1 hf c (List.mem_of_getElem? hc);simp [e] at this
     have hC':∀ v w',St k (slot a) w'→C (upd L i) (a.put o.dst v) w':=fun v w' hs=>by
      refine ⟨k,hk,fun j c hc=>?_,hcl',hfr' v,?_⟩
      · unfold upd;rw [if_neg (hni j c hc)];exact h1 j c hc
      · cases hd:o.dst with
        | none=>exact hs
        | some d=>exact hcong k _ _ w' (fun s hs'=>(slot_put (hdst L k i o d hio' hd hL h1 h2 s hs')).symm) hs
     have hkd:k≤due.getD i cs.length:=by
      have h7:=List.all_eq_true.1 hdu i (List.mem_range.2 (gSx.1 hio').1);rcases Bool.or_eq_true_iff.1 h7 with h7 | h7
      · have:=List.findIdx?_eq_none_iff.1 hf i (by simpa using h7);simp at this
      · cases hc:cs[due.getD i cs.length]? with
        | none=>have:=List.getElem?_eq_none_iff.1 hc; omega
        | some c =>
         rw [hc] at h7;simp only at h7;rcases Nat.lt_or_ge (due.getD i cs.length) k with h8 | h8
         · have h9:=reachD_spec hcl _ c i h7 (by rw [h1 _ c hc,decide_eq_true h8]);rw [hL] at h9;cases h9
         · exact h8
     rcases hstep k a w hkd hst hag hdep hfree with ⟨h3,h4⟩ | ⟨h3,h4,h5⟩
     · exact .inl ⟨h3,fun K hK=>h4 K (fun v w' hr ho hs=>hK v w' hr ho (hC' v w' hs))⟩
     · exact .inr ⟨h3,h4,h5,hC' undef w hst⟩
    | some j =>
     rw [hf] at hstep;simp only at hstep;obtain ⟨hjl,hji,hjn⟩ := List.findIdx?_eq_some_iff_getElem.1 hf;have hji':cs[j]=i:=by simpa using hji
     have hcj:cs[j]?=some i:=by rw [List.getElem?_eq_getElem hjl,hji']
     obtain ⟨⟨o',ho',hpr⟩,hdup⟩ := chainB_spec (ops:=ops) hch hcj;rw [hio'] at ho';cases ho';have hkj:k=j:=by
      have h3:=h1 j i hcj;rw [hL] at h3;have h4:¬ j<k:=fun h=>by rw [decide_eq_true h] at h3; cases h3
      cases j with
      | zero=>omega
      | succ j' =>
       obtain ⟨c',hc',e,he,hb,hon⟩ := hpr j' rfl;have h5:=hpre e he hb;rw [hon,h1 j' c' hc'] at h5;have:=of_decide_eq_true h5;omega
     subst hkj;obtain ⟨h3,h4⟩ := hstep a w hst hag hdep hfree;refine .inl ⟨h3,fun K hK=>h4 K (fun v w' hr hov hs=>hK v w' hr hov ⟨k+1,hjl,fun j2 c hc=>?_,hcl',hfr' v,hs⟩)⟩
     · unfold upd;by_cases hci:c=i
       · rw [if_pos hci];subst hci;have:j2=k:=by
          rcases Nat.lt_trichotomy j2 k with h | h | h
          · exact absurd hc (hdup j2 h)
          · exact h
          · exact absurd hcj ((chainB_spec (ops:=ops) hch hc).2 k h)
         subst this;exact (decide_eq_true (by omega)).symm
       · rw [if_neg hci,h1 j2 c hc];have:j2≠k:=fun e=>hci (by subst e; rw [hcj] at hc; cases hc; rfl)
         by_cases h:j2<k
         · rw [decide_eq_true h,decide_eq_true (by omega)]
         · rw [decide_eq_false h,decide_eq_false (by omega)]
   have go:∀ (l:List Oper) (k:Nat),(∀ i o,l[i]?=some o→OpStepA P ops Q base C R Ok (k+i) o)→EachOp (OpStepA P ops Q base C R Ok) k l:=by
    intro l
    induction l with
    | nil=>intro k _; trivial
    | cons o l ih =>
     intro k h;exact ⟨h 0 o rfl,ih (k+1) (fun i o' ho=>by have:=h (i+1) o' (by simpa using ho); rwa [show k+(i+1)=k+1+i by omega] at this)⟩
   exact go ops.toList 0 (fun i o h=>by rw [Nat.zero_add]; exact key i o h)
 · intro a w hC hag hok;obtain ⟨k,hk,h1,h2,-,hst⟩ := hC;have hkl:k=cs.length:=by
    rcases Nat.lt_or_ge k cs.length with h | h
    · have hck:cs[k]?=some cs[k]:=List.getElem?_eq_getElem h;have h3:=h1 k cs[k] hck;obtain ⟨⟨o,ho,-⟩,-⟩ := chainB_spec (ops:=ops) hch hck;have hlt:=(gSx.1 ho).1
      dsimp only at h3
      rw [decide_eq_true hlt,decide_eq_false (Nat.lt_irrefl k)] at h3;cases h3
    · omega
   subst hkl;exact hdone a w hst hag hok
end
end Go.Proofs.YtagolklnjhpbdaaDoor.R
