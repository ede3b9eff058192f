import Derived.Test.YtagolklnjhpbdaaDoorMerged0
import Derived.Test.YtagolklnjhpbdaaDoorNRuns
import Derived.Test.YtagolklnjhpbdaaDoorMerged15
import Derived.Test.YtagolklnjhpbdaaDoorMerged4
import Derived.Test.YtagolklnjhpbdaaDoorMerged9
namespace Go.Proofs.YtagolklnjhpbdaaDoor.K
open Go.RowKit Go.Shelf Go.Proofs.YtagolklnjhpbdaaDoor.I
open W (KeepL keepL_t keepL_b)
attribute [local go_sem] Oper.semAt_some
theorem num_four (base B:Nat) (z y x u:Int) (bs:List UInt8) (w:World) (hsz:(bs.length:Int)≤999900) (hbase:base≤B) (hO:OutAt base B bs w) (hbw:base≤w.heap.size) :
    Calls Tryd.prog 30 #[.pointer (some ⟨B,0,none⟩),.slice (some ⟨w.heap.size,0,none⟩) 4 4] (w.alloc (.cells #[.int .i64 z,.int .i64 y,.int .i64 x,.int .i64 u] 3)) (Wrote base B (bs++(digs (clipN z)++(digs (clipN y)++(digs (clipN x)++digs (clipN u))))) (w.alloc (.cells #[.int .i64 z,.int .i64 y,.int .i64 x,.int .i64 u] 3))):=by
 have h:=num_any base B w.heap.size 0 4 [z,y,x,u] bs (w.alloc (.cells #[.int .i64 z,.int .i64 y,.int .i64 x,.int .i64 u] 3)) (by simp; omega) hbase (hO.alloc _) (fun w' _ hk i hi=>by
  rw [cell_keeps hk (block_new w _) (by decide) (by have:=hO.lt; omega),cell_alloc_new]
  match i,hi with
  | 0,_=>rfl
  | 1,_=>rfl
  | 2,_=>rfl
  | 3,_=>rfl
  | i+4,hi=>simp at hi; omega) (by simp; omega)
 simpa [numsOf] using h
theorem outAt_below {base B:Nat} {bs:List UInt8} {w w':World} (h:OutAt base B bs w) (hb:Below w.heap.size w w'):OutAt base B bs w':=by
 obtain ⟨v,h1,h2⟩ := h;exact ⟨v,(hb.block B h1.lt).trans h1,U.belowAll h2 hb⟩
theorem ownFrom_out {base B C:Nat} {h:List UInt8}:OwnFrom C (fun (pre:List QR) W=>OutAt base B (h++runsB (valR pre)) W):=fun s X Y row hs hg hr=>own_outAt base B h (runsB (valR s)) X Y row hs hg (fun r e=>(hr r e).2)
theorem keepsOthers_of {B:Nat} {V V':World} (h:Keeps B V V') (hB:∀ o,V.heap[B]?=some o→o.isCells=true):KeepsOthers V V':=⟨h.size,fun k o hk ho=>h.block k o hk (fun e=>by rw [e] at hk; rw [hB o hk] at ho; cases ho) (fun cur fr e=>by rw [e] at ho; cases ho)⟩
theorem keepL_of {B rb Bc:Nat} {a:Option Addr} {n c:Nat} {l:List Cel} {V V':World} (h:Keeps B V V') (hL:LooksR Bc a n c l V) (hne:Bc≠B) (hb:Below rb V V') (hlt:∀ b off,l≠[]→a=some ⟨b,off,none⟩→b<rb):KeepL (lookR Bc a l) V V':=by
 refine ⟨h.size,fun b hbm hbl=>?_⟩;rcases List.mem_cons.1 hbm with rfl | hbm
 · have hx:V.heap[b]?=some (.cells #[.slice a n c] 55 (0,0)):=hL.bl;rw [hx];exact h.block b _ hx hne (fun cur fr e=>by injection e with _ e2; revert e2; decide)
 · unfold blkC at hbm;by_cases hl:l=[]
   · rw [if_pos hl] at hbm; cases hbm
   · rw [if_neg hl] at hbm;rcases hL.cl.at_ with e | ⟨b',off,rfl,-,-⟩
     · exact absurd e hl
     · have:b=b':=by simpa using hbm
       subst this;exact hb.block b (hlt b off hl rfl)
theorem runs_stops (n:Nat) (hn:2≤n) (B:Nat) (a:Option Addr) (len cap:Nat) (l:List Cel) (R:List QR) (hR:expR (valR R)=l) (hg:Good none (valR R)) (hlen:len≤1000000) (w:World) (hL:LooksR B a len cap l w) :
    SeqStopsK Fence.wide n Tryd.prog 86 #[.pointer (some ⟨B,0,none⟩)] encQ (KeepL (lookR B a l)) (fun ys=>ys=R) (fun pre=>∃ j,j≤R.length∧pre=R.take j) R.length w:=fun y J Jx V hV hJ _ hY h0 =>
 runs1_in n hn y B a len cap l R hR hg hlen J Jx V hJ hY (hL.below hV) h0
theorem ownFrom_looks {C B:Nat} {a:Option Addr} {n c:Nat} {l:List Cel} (h:∀ b ∈ lookR B a l,b<C):OwnFrom C (fun (_:List QR) W=>LooksR B a n c l W):=fun s X Y row hs hg hr=>hs.keep ⟨hg.size,fun b hb hlt=>hg.block b hlt (fun e=>by have:=(hr b e.symm).1; have:=h b hb; omega)⟩
def PackRPost (r:Ro) (w:World) (e:Ending) (w':World):Prop:=e=.returned (.string ⟨(packR r).toArray⟩)∧Below w.heap.size w w'
theorem packR_runs (r:Ro) (R:List QR) (hR:expR (valR R)=r.l) (hg:Good none (valR R)):packR r=digs (clipN (wrapN r.wrapped))++runsB (valR R):=by
 unfold packR;rw [← hR,packC_exp _ _ hg]
theorem runsB_snoc (pre:List QR) (x:QR):runsB (valR (pre++[x]))=runsB (valR pre)++runB x.1.1 x.1.2:=by
 unfold valR;rw [List.map_append,runsB_append];unfold runsB;simp
set_option maxRecDepth 100000 in
set_option maxHeartbeats 8000000 in
theorem packRow_in (n:Nat) (hn:6≤n) (a:Option Addr) (m c:Nat) (b:Bool) (r:Ro) (w:World) (hI:RowV .i32 (.agg #[.slice a m c,.bool b]) r w) (hok:AllC okC r.l) (hm:m≤20000) :
    CallsIn Fence.wide n Tryd.prog 32 #[.agg #[.slice a m c,.bool b]] w (PackRPost r w):=by
 have h1:1≤n:=by omega
 obtain ⟨hwr,hcl,hnl,hft,htp,hml⟩ := hI.of;subst hwr;obtain ⟨rb,hrb⟩ : ∃ rb,w.heap.size=rb:=⟨_,rfl⟩;obtain ⟨P,hP⟩ : ∃ P,PackRPost r w=P:=⟨_,rfl⟩;rw [hP];have HP:=hDx hP;obtain ⟨R,hR,hg⟩ := runs_all r.l hok (by omega);have hpk:=packR_runs r R hR hg;have hRl:R.length≤20000:=by
  have h2:=good_len _ _ hg;rw [hR] at h2;unfold valR at h2;rw [List.length_map] at h2;omega
 obtain ⟨w1,hw1⟩ : ∃ w1,w.alloc (.cells #[.slice a m c,.bool r.wrapped] 57)=w1:=⟨_,rfl⟩;obtain ⟨w2,hw2⟩ : ∃ w2,w1.alloc (.cells #[.slice none 0 0] 68)=w2:=⟨_,rfl⟩;have hs1:w1.heap.size=rb+1:=by rw [← hw1,World.size_alloc,hrb]
 have hb1:Below rb w w1:=by rw [← hw1,← hrb]; exact (Below.refl _ _).alloc (Nat.le_refl _) _
 have hb2:Below rb w w2:=by rw [← hw2]; exact hb1.alloc (by omega) _
 have hO2:OutAt rb (rb+1) [] w2:=by have:=out_new rb w1; rw [hw2,hs1] at this; exact this
 have hA1:w1.heap[rb]?=some (.cells #[.slice a m c,.bool r.wrapped] 57 (0,0)):=by rw [← hw1,← hrb]; exact heap_alloc_new w _
 have hA:w2.heap[rb]?=some (.cells #[.slice a m c,.bool r.wrapped] 57 (0,0)):=by rw [← hw2,Below.heap_alloc _ _ _ (by omega)]; exact hA1
 have c1:w2.cell? ⟨rb,1,none⟩=some (.bool r.wrapped):=by rw [cell_block hA]; rfl
 have hs2:w2.heap.size=rb+1+1:=by rw [← hw2,World.size_alloc,hs1]
 have hN0:=(num_one rb (rb+1) (wrapN r.wrapped) [] w2 (by simp) (by omega) hO2 (by have:=hb2.size; omega) |> fun h=>(by simpa using h:Calls Tryd.prog 30 #[.pointer (some ⟨rb+1,0,none⟩),.slice (some ⟨w2.heap.size,0,none⟩) 1 1] (w2.alloc (.cells #[.int .i64 (wrapN r.wrapped)] 3)) (Wrote rb (rb+1) (digs (clipN (wrapN r.wrapped))) (w2.alloc (.cells #[.int .i64 (wrapN r.wrapped)] 3)))));rw [show (some (⟨w2.heap.size,0,none⟩ : Addr))=some ⟨rb+1+1,0,none⟩ by rw [hs2]] at hN0;have HN:=hDx hN0;have HW1:=hDx hw1;have HW2:=hDx hw2;have HRb:=hDx hrb;have HS1:=hDx hs1;have HA:=hDx hA;have HB2:=hDx hb2;have HCl:=hDx hcl;have HPk:=hDx hpk;have HR:=hDx hR;have HG:=hDx hg;have hmI:(m:Int)≤20000:=by omega
 have HLt:Hid (∀ b off,r.l≠[]→a=some ⟨b,off,none⟩→b<rb):=hDx (fun b off hl e=>by
  rcases hcl.at_ with h | ⟨b',off',e2,hlt,-⟩
  · exact absurd h hl
  · rw [e] at e2; cases e2; rw [← hrb]; exact hlt)
 clear hN0 hs2 hP hI hok hcl hnl hft htp hml hR hg hpk hw1 hw2 hs1 hb1 hb2 hO2 hA1 hA hrb;have hwayB:r.wrapped=true∧wrapN r.wrapped=1∨r.wrapped=false∧wrapN r.wrapped=0:=by cases r.wrapped <;> simp [wrapN]
 obtain ⟨bw,hbw⟩ : ∃ bw,r.wrapped=bw:=⟨_,rfl⟩;obtain ⟨wn,hwn⟩ : ∃ wn,wrapN r.wrapped=wn:=⟨_,rfl⟩;rw [hwn] at HN HPk;rw [hwn,hbw] at hwayB;rw [hbw] at HW1 HA c1 ⊢;clear hbw hwn;refine callsIn_of_wp_marks Tryd.func32 rfl trivial ?_ rfl;simp only [Tryd.ntmps32,List.size_toArray,List.length_cons,List.length_nil,Nat.reduceAdd,Nat.reduceSub,Array.replicate_succ,Array.replicate_zero,List.push_toArray,List.append_toArray,List.nil_append,List.cons_append];rcases hwayB with ⟨rfl,rfl⟩ | ⟨rfl,rfl⟩
 · gi_wp2_with fail
   rw [HW1.out,HW2.out,HRb.out];refine ⟨trivial,(callsIn_wide.2 HN.out).mono ?_⟩;rintro e w3 ⟨rfl,hO3,hb3,hk3⟩;have hba:Below w2.heap.size w2 (w2.alloc (.cells #[.int .i64 1] 3)):=(Below.refl _ _).alloc (Nat.le_refl _) _;have hrl:rb<w2.heap.size:=(gSx.1 HA.out).1;have hb03:Below rb w w3:=HB2.out.trans ((hba.mono (by omega)).trans hb3);have hA3:w3.heap[rb]?=some (.cells #[.slice a m c,.bool true] 57 (0,0)):=hk3.block rb _ ((hba.block rb hrl).trans HA.out) (by omega) (fun cur fr e=>by injection e with _ e2; revert e2; decide);have c0:w3.cell? ⟨rb,0,none⟩=some (.slice a m c):=by rw [cell_block hA3]; rfl
   have HRn:=hDx (runs_any a m c r.l w3 (HCl.out.belowAll (by rw [HRb.out]; exact hb03)));have HO3:=hDx hO3;have HB03:=hDx hb03;have hne:rb+1<w3.heap.size:=hO3.lt;clear hO3 hb3 hk3 hba hrl hb03 hA3 c1 HA
   gi_wp2_with fail
   refine ⟨trivial,(callsIn_wide.2 HRn.out).mono ?_⟩;rintro e w4 ⟨rfl,hL4,hb4⟩;have hO4:=outAt_below HO3.out hb4;have hb04:Below rb w w4:=HB03.out.trans (hb4.mono HB03.out.size |>.mono (by have:=HB03.out.size; have:=HRb.out; omega));have HL4:=hDx hL4;have HO4:=hDx hO4;have HB04:=hDx hb04;have hrw4:rb≤w4.heap.size:=by have:=hb04.size; have:=HRb.out; omega
   clear hL4 hb4 hO4 hb04 c0 HRn HO3
   gi_wp2_with fail
   refine wpIn_rangeFunc_ownH rfl h1 (gf:=86) (lb:=#[.pointer (some ⟨w3.heap.size,0,none⟩)]) rfl trivial (enters_of Tryd.func86 (by kernel_rfl) rfl)
     (runs_stops (n - 1) (by omega) w3.heap.size a m c r.l R HR.out HG.out (by omega) w4 HL4.out) (fun h1 h2=>keepL_t h1 h2) (keepL_b HL4.out.all) (Below.refl _ _) (fun _=>rfl)
     (fun pre V=>OutAt rb (rb+1) (digs (clipN 1)++runsB (valR pre)) V∧LooksR w3.heap.size a m c r.l V∧Below rb w V)
     (fun _ _ _=>False)
     (OwnFrom.and ownFrom_out (OwnFrom.and (ownFrom_looks HL4.out.all) (ownFrom_below (by rw [HRb.out]; exact Nat.le_refl _) hrw4)))
     (fun _ _ _ _ _ hs _ _=>hs)
     ⟨by simpa [valR,runsB] using HO4.out,HL4.out,HB04.out⟩
     (fun x a' V=>∃ Bx,V.heap[Bx]?=some (.cells #[.int .i64 (x.1.1:Int),.int .i32 x.1.2.rune,.int .i64 x.1.2.style,.int .i64 x.1.2.part] 129 (0,0))∧a'={ tmps:=#[.agg #[.slice a m c,.bool true],.pointer (some ⟨rb,0,none⟩),.string ⟨#[]⟩,.pointer (some ⟨rb+1,0,none⟩),.int .i64 1,.pointer (some ⟨Bx,0,none⟩),undef,.pointer (some ⟨rb,1,none⟩),.bool true,.int .i64 1,.slice (some ⟨rb+1+1,0,none⟩) 1 1,.pointer (some ⟨rb+1,0,none⟩),.pointer (some ⟨rb,0,none⟩),.slice a m c,.func (.func 86) #[] #[.pointer (some ⟨w3.heap.size,0,none⟩)],.agg #[.int .i64 (x.1.1:Int),.int .i32 x.1.2.rune,.int .i64 x.1.2.style,.int .i64 x.1.2.part],undef,undef,undef,undef,undef,undef,undef,undef,undef,undef,undef,undef,undef,undef],defers:=[] })
     (fun x a' s X Y row hs hg hr=>by
      obtain ⟨Bx,hb2,hb3⟩ := hs;refine ⟨Bx,(hg.block Bx (gSx.1 hb2).1 (fun e=>?_)).trans hb2,hb3⟩;obtain ⟨_,o,ho,hc⟩ := hr Bx e.symm;rw [hb2] at ho;cases ho;cases hc)
     ?assign ?body ?done ?stop
   case assign =>
    rintro l pre x V K ⟨hO,hL,hB⟩ hK;obtain ⟨⟨k,⟨x1,x2,x3⟩⟩,hq⟩ : ∃ q,x.1=q:=⟨_,rfl⟩;rw [hq] at hK;have hba:Below V.heap.size V (V.alloc (.cells #[.int .i64 (k:Int),.int .i32 x1,.int .i64 x2,.int .i64 x3] 129)):=(Below.refl _ _).alloc (Nat.le_refl _) _;have hK':=hK _ _ ((keepsOthers_below hba).from _) (KeepL.of_below hba hL.all) ⟨outAt_below hO hba,hL.below hba,hB.trans (hba.mono (by have:=hB.size; have:=HRb.out; omega))⟩ ⟨V.heap.size,heap_alloc_new V _,rfl⟩;have HK:=hDx hK';have hen:encQ x=#[.agg #[.int .i64 (k:Int),.int .i32 x1,.int .i64 x2,.int .i64 x3]]:=by unfold encQ; rw [hq]
    rw [hen];clear hK hK' hba hO hL hB hq hen
    gi_wp2
    exact HK.out
   case body =>
    rintro l pre x a' V hls hlr ⟨hO,hL,hB⟩ ⟨Bx,hBx,rfl⟩ hltp;clear hls hlr;obtain ⟨⟨k,⟨x1,x2,x3⟩⟩,hok,hkb⟩ := x;simp only at hok hkb hBx ⊢;have hwr:IntKind.i64.wrap x1=x1:=by have:=hok.1; simp only at this; rw [IntKind.wrap_i64]; omega
    have g0:V.cell? ⟨Bx,0,none⟩=some (.int .i64 (k:Int)):=by rw [cell_block hBx]; rfl
    have g1:V.cell? ⟨Bx,1,none⟩=some (.int .i32 x1):=by rw [cell_block hBx]; rfl
    have g2:V.cell? ⟨Bx,2,none⟩=some (.int .i64 x2):=by rw [cell_block hBx]; rfl
    have g3:V.cell? ⟨Bx,3,none⟩=some (.int .i64 x3):=by rw [cell_block hBx]; rfl
    obtain ⟨qb,hqb⟩ : ∃ qb,V.heap.size=qb:=⟨_,rfl⟩;obtain ⟨V2,hV2⟩ : ∃ V2,V.alloc (.cells #[.int .i32 x1,.int .i64 x2,.int .i64 x3] 118)=V2:=⟨_,rfl⟩;have hnew:V2.heap[qb]?=some (.cells #[.int .i32 x1,.int .i64 x2,.int .i64 x3] 118 (0,0)):=by rw [← hV2,← hqb]; exact heap_alloc_new V _
    have hbV:Below V.heap.size V V2:=by rw [← hV2]; exact (Below.refl _ _).alloc (Nat.le_refl _) _
    have k0:V2.cell? ⟨Bx,0,none⟩=some (.int .i64 (k:Int)):=(hbV.cell (p:=⟨Bx,0,none⟩) (gSx.1 hBx).1).trans g0;have hs2:V2.heap.size=V.heap.size+1:=by rw [← hV2,World.size_alloc]
    have hO2:=outAt_below hO hbV;have hrV:rb≤V.heap.size:=by have:=hB.size; have:=HRb.out; omega
    have hrV2:rb≤V2.heap.size:=Nat.le_trans hrV hbV.size;have hln:((digs (clipN 1)++runsB (valR pre)).length:Int)≤999900:=by
     have h1:=runsB_len (valR pre);have h2:=digs_nine (clipN 1) (clipN_le _);unfold valR at h1;rw [List.length_map] at h1;rw [List.length_append];unfold valR;omega
    have hN4:=num_four rb (rb+1) (k:Int) x1 x2 x3 _ V2 hln (by omega) hO2 hrV2;rw [show (some (⟨V2.heap.size,0,none⟩ : Addr))=some ⟨V.heap.size+1,0,none⟩ by rw [hs2]] at hN4;have HN4:=hDx hN4;rw [← hV2] at k0;have hb2a:Below V2.heap.size V2 (V2.alloc (.cells #[.int .i64 (k:Int),.int .i64 x1,.int .i64 x2,.int .i64 x3] 3)):=(Below.refl _ _).alloc (Nat.le_refl _) _;have HVa:Hid (Below V.heap.size V (V2.alloc (.cells #[.int .i64 (k:Int),.int .i64 x1,.int .i64 x2,.int .i64 x3] 3))):=hDx (hbV.trans (hb2a.mono hbV.size));have HL:=hDx hL;have HB:=hDx hB;have HOb:Hid (∀ o,V.heap[rb+1]?=some o→o.isCells=true):=hDx (fun o ho=>by
     obtain ⟨v,h1,-⟩ := hO;rw [show V.heap[rb+1]?=_ from h1] at ho;cases ho
     rfl)
    have HV2:=hDx hV2;clear hbV hO2 hln hb2a hL hB hO hltp hV2 hqb hnew hs2 hN4
    gi_wp2_with fail
    rw [HV2.out];refine ⟨trivial,fun _=>by omega,(callsIn_wide.2 HN4.out).mono ?_⟩;rintro e V' ⟨rfl,hO',hb',hk'⟩;have hKV:Keeps (rb+1) V V':=(keeps_below HVa.out).trans hk';have hBV:Below rb V V':=(HVa.out.mono hrV).trans hb';have hE1:=keepsOthers_of hKV HOb.out;have hE2:=keepL_of hKV HL.out (by omega) hBV HLt.out;have HE:Hid (KeepsFrom w4.heap.size V V'∧KeepL (lookR w3.heap.size a r.l) V V'∧OutAt rb (rb+1) (digs (clipN 1)++runsB (valR (pre++[⟨(k,⟨x1,x2,x3⟩),hok,hkb⟩]))) V'∧LooksR w3.heap.size a m c r.l V'∧Below rb w V'):=hDx ⟨hE1.from _,hE2,by
     rw [runsB_snoc,← List.append_assoc];exact hO',HL.out.keep hE2,HB.out.trans hBV⟩
    clear hO' hb' hk' hKV hBV hE1 hE2 HN4
    gi_wp2
    exact HE.out
   case done =>
    rintro D ys V hD hS ⟨hO,hL,hB⟩ hK;subst hS;have HBy:=hDx (bytes_any rb (rb+1) _ V hO);have HB:=hDx hB;have HK:=hDx hK;have HD:=hDx hD;clear hO hL hB hK hD
    gi_wp2_with fail
    refine ⟨trivial,(callsIn_wide.2 HBy.out).mono ?_⟩;rintro e V' ⟨rfl,rfl⟩
    gi_wp2
    refine ⟨by simp,.inl ⟨_,_,rfl,run_takeDeferred HK.out,?_⟩⟩;rw [← HP.out];exact ⟨_,results_tmp rfl _ _ _,by rw [HPk.out]; rfl,by rw [HRb.out]; exact HB.out.trans (belowK_b (w:=w4) hrw4 V D _ _ HD.out HK.out rfl rfl)⟩
   case stop =>
    rintro D c pre V hD _ h;exact h.elim
 · gi_wp2_with fail
   rw [HW1.out,HW2.out,HRb.out];refine ⟨trivial,(callsIn_wide.2 HN.out).mono ?_⟩;rintro e w3 ⟨rfl,hO3,hb3,hk3⟩;have hba:Below w2.heap.size w2 (w2.alloc (.cells #[.int .i64 0] 3)):=(Below.refl _ _).alloc (Nat.le_refl _) _;have hrl:rb<w2.heap.size:=(gSx.1 HA.out).1;have hb03:Below rb w w3:=HB2.out.trans ((hba.mono (by omega)).trans hb3);have hA3:w3.heap[rb]?=some (.cells #[.slice a m c,.bool false] 57 (0,0)):=hk3.block rb _ ((hba.block rb hrl).trans HA.out) (by omega) (fun cur fr e=>by injection e with _ e2; revert e2; decide);have c0:w3.cell? ⟨rb,0,none⟩=some (.slice a m c):=by rw [cell_block hA3]; rfl
   have HRn:=hDx (runs_any a m c r.l w3 (HCl.out.belowAll (by rw [HRb.out]; exact hb03)));have HO3:=hDx hO3;have HB03:=hDx hb03;have hne:rb+1<w3.heap.size:=hO3.lt;clear hO3 hb3 hk3 hba hrl hb03 hA3 c1 HA
   gi_wp2_with fail
   refine ⟨trivial,(callsIn_wide.2 HRn.out).mono ?_⟩;rintro e w4 ⟨rfl,hL4,hb4⟩;have hO4:=outAt_below HO3.out hb4;have hb04:Below rb w w4:=HB03.out.trans (hb4.mono HB03.out.size |>.mono (by have:=HB03.out.size; have:=HRb.out; omega));have HL4:=hDx hL4;have HO4:=hDx hO4;have HB04:=hDx hb04;have hrw4:rb≤w4.heap.size:=by have:=hb04.size; have:=HRb.out; omega
   clear hL4 hb4 hO4 hb04 c0 HRn HO3
   gi_wp2_with fail
   refine wpIn_rangeFunc_ownH rfl h1 (gf:=86) (lb:=#[.pointer (some ⟨w3.heap.size,0,none⟩)]) rfl trivial (enters_of Tryd.func86 (by kernel_rfl) rfl)
     (runs_stops (n - 1) (by omega) w3.heap.size a m c r.l R HR.out HG.out (by omega) w4 HL4.out) (fun h1 h2=>keepL_t h1 h2) (keepL_b HL4.out.all) (Below.refl _ _) (fun _=>rfl)
     (fun pre V=>OutAt rb (rb+1) (digs (clipN 0)++runsB (valR pre)) V∧LooksR w3.heap.size a m c r.l V∧Below rb w V)
     (fun _ _ _=>False)
     (OwnFrom.and ownFrom_out (OwnFrom.and (ownFrom_looks HL4.out.all) (ownFrom_below (by rw [HRb.out]; exact Nat.le_refl _) hrw4)))
     (fun _ _ _ _ _ hs _ _=>hs)
     ⟨by simpa [valR,runsB] using HO4.out,HL4.out,HB04.out⟩
     (fun x a' V=>∃ Bx,V.heap[Bx]?=some (.cells #[.int .i64 (x.1.1:Int),.int .i32 x.1.2.rune,.int .i64 x.1.2.style,.int .i64 x.1.2.part] 129 (0,0))∧a'={ tmps:=#[.agg #[.slice a m c,.bool false],.pointer (some ⟨rb,0,none⟩),.string ⟨#[]⟩,.pointer (some ⟨rb+1,0,none⟩),.int .i64 0,.pointer (some ⟨Bx,0,none⟩),undef,.pointer (some ⟨rb,1,none⟩),.bool false,.int .i64 0,.slice (some ⟨rb+1+1,0,none⟩) 1 1,.pointer (some ⟨rb+1,0,none⟩),.pointer (some ⟨rb,0,none⟩),.slice a m c,.func (.func 86) #[] #[.pointer (some ⟨w3.heap.size,0,none⟩)],.agg #[.int .i64 (x.1.1:Int),.int .i32 x.1.2.rune,.int .i64 x.1.2.style,.int .i64 x.1.2.part],undef,undef,undef,undef,undef,undef,undef,undef,undef,undef,undef,undef,undef,undef],defers:=[] })
     (fun x a' s X Y row hs hg hr=>by
      obtain ⟨Bx,hb2,hb3⟩ := hs;refine ⟨Bx,(hg.block Bx (gSx.1 hb2).1 (fun e=>?_)).trans hb2,hb3⟩;obtain ⟨_,o,ho,hc⟩ := hr Bx e.symm;rw [hb2] at ho;cases ho;cases hc)
     ?assign ?body ?done ?stop
   case assign =>
    rintro l pre x V K ⟨hO,hL,hB⟩ hK;obtain ⟨⟨k,⟨x1,x2,x3⟩⟩,hq⟩ : ∃ q,x.1=q:=⟨_,rfl⟩;rw [hq] at hK;have hba:Below V.heap.size V (V.alloc (.cells #[.int .i64 (k:Int),.int .i32 x1,.int .i64 x2,.int .i64 x3] 129)):=(Below.refl _ _).alloc (Nat.le_refl _) _;have hK':=hK _ _ ((keepsOthers_below hba).from _) (KeepL.of_below hba hL.all) ⟨outAt_below hO hba,hL.below hba,hB.trans (hba.mono (by have:=hB.size; have:=HRb.out; omega))⟩ ⟨V.heap.size,heap_alloc_new V _,rfl⟩;have HK:=hDx hK';have hen:encQ x=#[.agg #[.int .i64 (k:Int),.int .i32 x1,.int .i64 x2,.int .i64 x3]]:=by unfold encQ; rw [hq]
    rw [hen];clear hK hK' hba hO hL hB hq hen
    gi_wp2
    exact HK.out
   case body =>
    rintro l pre x a' V hls hlr ⟨hO,hL,hB⟩ ⟨Bx,hBx,rfl⟩ hltp;clear hls hlr;obtain ⟨⟨k,⟨x1,x2,x3⟩⟩,hok,hkb⟩ := x;simp only at hok hkb hBx ⊢;have hwr:IntKind.i64.wrap x1=x1:=by have:=hok.1; simp only at this; rw [IntKind.wrap_i64]; omega
    have g0:V.cell? ⟨Bx,0,none⟩=some (.int .i64 (k:Int)):=by rw [cell_block hBx]; rfl
    have g1:V.cell? ⟨Bx,1,none⟩=some (.int .i32 x1):=by rw [cell_block hBx]; rfl
    have g2:V.cell? ⟨Bx,2,none⟩=some (.int .i64 x2):=by rw [cell_block hBx]; rfl
    have g3:V.cell? ⟨Bx,3,none⟩=some (.int .i64 x3):=by rw [cell_block hBx]; rfl
    obtain ⟨qb,hqb⟩ : ∃ qb,V.heap.size=qb:=⟨_,rfl⟩;obtain ⟨V2,hV2⟩ : ∃ V2,V.alloc (.cells #[.int .i32 x1,.int .i64 x2,.int .i64 x3] 118)=V2:=⟨_,rfl⟩;have hnew:V2.heap[qb]?=some (.cells #[.int .i32 x1,.int .i64 x2,.int .i64 x3] 118 (0,0)):=by rw [← hV2,← hqb]; exact heap_alloc_new V _
    have hbV:Below V.heap.size V V2:=by rw [← hV2]; exact (Below.refl _ _).alloc (Nat.le_refl _) _
    have k0:V2.cell? ⟨Bx,0,none⟩=some (.int .i64 (k:Int)):=(hbV.cell (p:=⟨Bx,0,none⟩) (gSx.1 hBx).1).trans g0;have hs2:V2.heap.size=V.heap.size+1:=by rw [← hV2,World.size_alloc]
    have hO2:=outAt_below hO hbV;have hrV:rb≤V.heap.size:=by have:=hB.size; have:=HRb.out; omega
    have hrV2:rb≤V2.heap.size:=Nat.le_trans hrV hbV.size;have hln:((digs (clipN 0)++runsB (valR pre)).length:Int)≤999900:=by
     have h1:=runsB_len (valR pre);have h2:=digs_nine (clipN 0) (clipN_le _);unfold valR at h1;rw [List.length_map] at h1;rw [List.length_append];unfold valR;omega
    have hN4:=num_four rb (rb+1) (k:Int) x1 x2 x3 _ V2 hln (by omega) hO2 hrV2;rw [show (some (⟨V2.heap.size,0,none⟩ : Addr))=some ⟨V.heap.size+1,0,none⟩ by rw [hs2]] at hN4;have HN4:=hDx hN4;rw [← hV2] at k0;have hb2a:Below V2.heap.size V2 (V2.alloc (.cells #[.int .i64 (k:Int),.int .i64 x1,.int .i64 x2,.int .i64 x3] 3)):=(Below.refl _ _).alloc (Nat.le_refl _) _;have HVa:Hid (Below V.heap.size V (V2.alloc (.cells #[.int .i64 (k:Int),.int .i64 x1,.int .i64 x2,.int .i64 x3] 3))):=hDx (hbV.trans (hb2a.mono hbV.size));have HL:=hDx hL;have HB:=hDx hB;have HOb:Hid (∀ o,V.heap[rb+1]?=some o→o.isCells=true):=hDx (fun o ho=>by
     obtain ⟨v,h1,-⟩ := hO;rw [show V.heap[rb+1]?=_ from h1] at ho;cases ho
     rfl)
    have HV2:=hDx hV2;clear hbV hO2 hln hb2a hL hB hO hltp hV2 hqb hnew hs2 hN4
    gi_wp2_with fail
    rw [HV2.out];refine ⟨trivial,fun _=>by omega,(callsIn_wide.2 HN4.out).mono ?_⟩;rintro e V' ⟨rfl,hO',hb',hk'⟩;have hKV:Keeps (rb+1) V V':=(keeps_below HVa.out).trans hk';have hBV:Below rb V V':=(HVa.out.mono hrV).trans hb';have hE1:=keepsOthers_of hKV HOb.out;have hE2:=keepL_of hKV HL.out (by omega) hBV HLt.out;have HE:Hid (KeepsFrom w4.heap.size V V'∧KeepL (lookR w3.heap.size a r.l) V V'∧OutAt rb (rb+1) (digs (clipN 0)++runsB (valR (pre++[⟨(k,⟨x1,x2,x3⟩),hok,hkb⟩]))) V'∧LooksR w3.heap.size a m c r.l V'∧Below rb w V'):=hDx ⟨hE1.from _,hE2,by
     rw [runsB_snoc,← List.append_assoc];exact hO',HL.out.keep hE2,HB.out.trans hBV⟩
    clear hO' hb' hk' hKV hBV hE1 hE2 HN4
    gi_wp2
    exact HE.out
   case done =>
    rintro D ys V hD hS ⟨hO,hL,hB⟩ hK;subst hS;have HBy:=hDx (bytes_any rb (rb+1) _ V hO);have HB:=hDx hB;have HK:=hDx hK;have HD:=hDx hD;clear hO hL hB hK hD
    gi_wp2_with fail
    refine ⟨trivial,(callsIn_wide.2 HBy.out).mono ?_⟩;rintro e V' ⟨rfl,rfl⟩
    gi_wp2
    refine ⟨by simp,.inl ⟨_,_,rfl,run_takeDeferred HK.out,?_⟩⟩;rw [← HP.out];exact ⟨_,results_tmp rfl _ _ _,by rw [HPk.out]; rfl,by rw [HRb.out]; exact HB.out.trans (belowK_b (w:=w4) hrw4 V D _ _ HD.out HK.out rfl rfl)⟩
   case stop =>
    rintro D c pre V hD _ h;exact h.elim
theorem packRow_any (a:Option Addr) (m c:Nat) (b:Bool) (r:Ro) (w:World) (hI:RowV .i32 (.agg #[.slice a m c,.bool b]) r w) (hok:AllC okC r.l) (hm:m≤20000) :
    Calls Tryd.prog 32 #[.agg #[.slice a m c,.bool b]] w fun e w'=>e=.returned (.string ⟨(packR r).toArray⟩)∧Below w.heap.size w w' :=
 (callsIn_wide (n:=6)).1 (packRow_in 6 (Nat.le_refl _) a m c b r w hI hok hm)
end Go.Proofs.YtagolklnjhpbdaaDoor.K

namespace Go.Proofs.YtagolklnjhpbdaaDoor.R
open Go
section
variable {P:Program} {ops:Array Oper} {Q:Exit→Act→World→Prop}
def OpStepA (P:Program) (ops:Array Oper) (Q:Exit→Act→World→Prop) (base:Act) (C:(Nat→Bool)→Act→World→Prop) (R:World→World→Prop) (Ok:Nat→Value→World→Prop) (i:Nat) (o:Oper):Prop :=
 ∀ (L:Nat→Bool) (a:Act) (w:World),L i=false→(∀ e ∈ o.after,Region.binds .any e=true→L e.on=true)→C L a w→Agree ops base a→(∀ e ∈ o.after,Region.binds .any e=true→∀ oj d,ops[e.on]?=some oj→oj.dst=some d→Ok e.on (a.tmps.getD d undef) w) →
   (Region.wanted o (yielded ops a.tmps)=true∧∀ K:Act→World→Prop,(∀ v w',R w w'→Ok i v w'→C (upd L i) (a.put o.dst v) w'→K (a.put o.dst v) w')→o.wp P a w K Q) ∨
   (Region.wanted o (yielded ops a.tmps)=false∧R w w∧Ok i undef w∧C (upd L i) (a.put o.dst undef) w)
theorem wp_region_relA {id:Nat} {base:Act} {w0:World} (hm:P.follows .mixedOrders=true) (C:(Nat→Bool)→Act→World→Prop) (R:World→World→Prop) (Ok:Nat→Value→World→Prop)
    (hin:(ops.toList.all fun o=>match o.dst with | some d=>decide (d<base.tmps.size) | none=>true)=true)
    (hdis:distinctB ops=true) (hordB:orderedN ops ops.size=true)
    (hOk:∀ i v w w',Ok i v w→R w w'→Ok i v w')
    (hop:EachOp (OpStepA P ops Q base C R Ok) 0 ops.toList)
    (hdone:∀ a w,C (fun k=>decide (k<ops.size)) a w→Agree ops base a→(∀ (i:Nat) (o:Oper) (d:Nat),ops[i]?=some o→o.dst=some d→Ok i (a.tmps.getD d undef) w)→Q .normal a w)
    (h0:C (fun _=>false) base w0.drew):(Code.region id ops true).wp P Q base w0:=by
 have hinj:=fun i j o o' d=>distinctB_spec (ops:=ops) hdis i j o o' d
 have hord:∀ (i:Nat) (o:Oper),ops[i]?=some o→∀ e ∈ o.after,Region.binds .any e=true→e.on<i:=fun i o hi e he hb=>orderedN_spec hordB i o (gSx.1 hi).1 hi e he hb
 have hin':∀ (i:Nat) (o:Oper) (d:Nat),ops[i]?=some o→o.dst=some d→d<base.tmps.size:=fun i o d hi hd=>by
  have:=List.all_eq_true.1 hin o (by have:=Array.mem_of_getElem? hi; simpa using this);rw [hd] at this
  simpa using this
 have main:∀ (fuel:Nat) (listed:Array Bool) (a:Act) (w:World),listed.size=ops.size→C (fun k=>listed.getD k false) a w→Agree ops base a→Held ops Ok listed a w →
     ((List.range ops.size).filter fun i=>!listed.getD i true).length≤fuel→wpAny P .any ops Q fuel listed a w:=by
  intro fuel
  induction fuel with
  | zero =>
   intro listed a w hsz hc ha hh hf;have hall:∀ i,i<ops.size→listed.getD i true=true:=fun i hi=>by
    have h1:((List.range ops.size).filter fun i=>!listed.getD i true)=[]:=List.length_eq_zero_iff.1 (by omega);have h2:=List.filter_eq_nil_iff.1 h1 i (List.mem_range.2 hi)
    simpa using h2
   refine ⟨?_,hdone a w (by rw [allL hsz (fun i hi=>by have:=hall i hi; rw [gDx] at this ⊢; rw [Array.getElem?_eq_getElem (by omega)] at this ⊢; simpa using this)] at hc; exact hc) ha fun i o d hi hd=>hh i o d hi hd ?_⟩
   · unfold Region.ready;refine List.filter_eq_nil_iff.2 fun i hi=>?_
     rw [hall i (List.mem_range.1 hi)];simp
   · have hlt:=(gSx.1 hi).1;have:=hall i hlt;rw [gDx] at this ⊢;rw [Array.getElem?_eq_getElem (by omega)] at this ⊢
     simpa using this
  | succ fuel ih =>
   intro listed a w hsz hc ha hh hf;refine ⟨fun hr=>?_,fun i hi=>?_⟩
   ·
     have hall:∀ n i,i<n→i<ops.size→listed.getD i false=true:=by
      intro n
      induction n with
      | zero=>intro i hi _; omega
      | succ n ihn =>
       intro i hi hlt;by_cases hin:i<n
       · exact ihn i hin hlt
       · obtain rfl:i=n:=by omega
         cases hl:listed.getD i false with
         | true=>rfl
         | false =>
          exfalso
          have hl':listed.getD i true=false:=by
           rw [gDx] at hl ⊢;rw [Array.getElem?_eq_getElem (by omega)] at hl ⊢
           simpa using hl
          have hmem:i ∈ Region.ready .any ops listed:=by
           unfold Region.ready;refine List.mem_filter.2 ⟨List.mem_range.2 hlt,?_⟩;rw [hl',Array.getElem?_eq_getElem hlt];simp only [Bool.not_false,Bool.true_and,Option.map_some,Option.getD_some];refine Array.all_eq_true_iff_forall_mem.2 fun e he=>?_
           by_cases hb:Region.binds .any e=true
           · have:=ihn e.on (hord i _ (Array.getElem?_eq_getElem hlt) e he hb) (by have:=hord i _ (Array.getElem?_eq_getElem hlt) e he hb; omega);simp [this]
           · simp [hb]
          rw [hr] at hmem;cases hmem
     exact hdone a w (by rw [allL hsz (fun i hi=>hall _ i (Nat.lt_succ_self i) hi)] at hc; exact hc) ha fun i o d hi hd=>hh i o d hi hd (hall _ i (Nat.lt_succ_self i) (gSx.1 hi).1)
   · have hi':=hi;unfold Region.ready at hi';obtain ⟨hlt,hcond⟩ := List.mem_filter.1 hi';have hlt:=List.mem_range.1 hlt;simp only [Bool.and_eq_true,Bool.not_eq_true'] at hcond;obtain ⟨hun,hdeps⟩ := hcond;obtain ⟨o,ho⟩ : ∃ o,ops[i]?=some o:=⟨_,Array.getElem?_eq_getElem hlt⟩;rw [ho] at hdeps;simp only [Option.map_some,Option.getD_some] at hdeps;have hunL:listed.getD i false=false:=by
      rw [gDx] at hun ⊢;rw [Array.getElem?_eq_getElem (by omega)] at hun ⊢
      simpa using hun
     have hstep:=hop.at i o (by simpa using ho);rw [Nat.zero_add] at hstep;have hd:=hstep (fun k=>listed.getD k false) a w hunL (fun e he hb=>by
      have h1:=Array.all_eq_true_iff_forall_mem.1 hdeps e he;rw [hb] at h1;simp at h1;rw [gDx];exact h1) hc ha fun e he hb oj d hoj hdj=>by
      have h1:=Array.all_eq_true_iff_forall_mem.1 hdeps e he;rw [hb] at h1;simp at h1;refine hh e.on oj d hoj hdj ?_;rw [gDx];exact h1
     have next:∀ v w',R w w'→Ok i v w'→C (upd (fun k=>listed.getD k false) i) (a.put o.dst v) w'→wpAny P .any ops Q fuel (listed.setIfInBounds i true) (a.put o.dst v) w':=by
      intro v w' hr hv hcc;refine ih _ _ _ (by simpa using hsz) (by rw [updL listed i (by omega)]; exact hcc) ?_ ?_ ?_
      · obtain ⟨k1,k2,k3⟩ := ha;cases hdst:o.dst with
        | none=>exact ⟨k1,k2,k3⟩
        | some d =>
         have hds:=hin' i o d ho hdst;refine ⟨k1,by simpa [Act.put] using k2,fun t ht=>?_⟩;rw [getD_put (by omega),if_neg ?_]
         · exact k3 t ht
         · intro e;have:=List.all_eq_true.1 ht o (by have:=Array.mem_of_getElem? ho; simpa using this);rw [hdst,e] at this;simp at this
      · intro j oj dj hj hdj hlj;by_cases hji:j=i
        · subst hji;rw [ho] at hj;cases hj;rw [hdj,getD_put (by have:=hin' j o dj ho hdj; have:=ha.2.1; omega),if_pos rfl];exact hv
        · have hlj':listed.getD j false=true:=by
           rw [gDx,Array.getElem?_setIfInBounds,if_neg (Ne.symm hji),← gDx] at hlj;exact hlj
          have hold:=hOk _ _ _ _ (hh j oj dj hj hdj hlj') hr;cases hdst:o.dst with
          | none=>exact hold
          | some d =>
           rw [getD_put (by have:=hin' i o d ho hdst; have:=ha.2.1; omega),if_neg ?_]
           · exact hold
           · intro e;exact hji (hinj j i oj o dj hj ho hdj (by rw [hdst,e]))
      · have hcount:((List.range ops.size).filter fun k=>!(listed.setIfInBounds i true).getD k true).length<((List.range ops.size).filter fun k=>!listed.getD k true).length:=by
         have hsub:((List.range ops.size).filter fun k=>!(listed.setIfInBounds i true).getD k true)=((List.range ops.size).filter fun k=>!listed.getD k true).filter fun k=>k != i:=by
          rw [List.filter_filter];refine List.filter_congr fun k hk=>?_
          rw [gDx,Array.getElem?_setIfInBounds];by_cases hki:i=k
          · subst hki; rw [if_pos rfl,if_pos (by omega)]; simp
          · rw [if_neg hki,← gDx];simp [Ne.symm hki]
         rw [hsub];refine List.length_filter_lt_length_iff_exists.2 ⟨i,List.mem_filter.2 ⟨List.mem_range.2 hlt,?_⟩,?_⟩
         · rw [gDx]; simpa using hun
         · simp
        omega
     unfold wpOp;rw [ho];simp only;rcases hd with ⟨hw,hk⟩ | ⟨hw,hr,hv,hcc⟩
     · rw [if_pos hw];exact .inl (hk _ next)
     · rw [if_neg (by rw [hw]; decide)];exact next _ _ hr hv hcc
 refine wp_region_any hm (main ops.size (Array.replicate ops.size false) base w0.drew (by simp) (by rw [noneL]; exact h0) ⟨rfl,rfl,fun _ _=>rfl⟩ (fun i o d hi _ hl=>?_) ?_)
 · have hlt:=(gSx.1 hi).1;rw [gDx] at hl;simp [hlt] at hl
 · exact Nat.le_trans (List.length_filter_le _ _) (by simp)
end
end Go.Proofs.YtagolklnjhpbdaaDoor.R

namespace Go.Proofs.YtagolklnjhpbdaaDoor.R
open Go
section
variable {P:Program} {ops:Array Oper} {Q:Exit→Act→World→Prop}
def slot (a:Act):Nat→Value:=fun s=>a.tmps.getD s undef
def slotsP (ops:Array Oper) (cs:List Nat) (k:Nat):List Nat :=
 (cs.take k).flatMap fun c=>match ops[c]? with
   | none=>[]
   | some o=>(match o.dst with | some d=>[d] | none=>[])++(o.after.toList.filter (fun e=>Region.binds .any e)).flatMap fun e=>match ops[e.on]? with
     | none=>[]
     | some o'=>match o'.dst with | some d=>[d] | none=>[]
theorem mem_slots {ops:Array Oper} {cs:List Nat} {k s:Nat} (h:(slotsP ops cs k).contains s=true):s ∈ slotsP ops cs k:=by simpa using h
theorem slotsP_all {ops:Array Oper} {cs:List Nat} {k:Nat} (h:cs.length≤k):slotsP ops cs k=slotsP ops cs cs.length:=by
 unfold slotsP;rw [List.take_of_length_le h,List.take_of_length_le (Nat.le_refl _)]
def chainB (ops:Array Oper) (cs:List Nat):Bool :=
 (List.range cs.length).all fun j=>match cs[j]? with
   | none=>true
   | some c=>(match ops[c]? with
     | none=>false
     | some o=>match j with
       | 0=>true
       | j'+1=>match cs[j']? with
         | none=>false
         | some c'=>o.after.toList.any fun e=>Region.binds .any e && e.on == c') && (List.range j).all fun i=>cs[i]? != some c
theorem slot_put {a:Act} {d s:Nat} {v:Value} (h:s≠d):slot (a.put (some d) v) s=slot a s:=by
 unfold slot Act.put;simp only [gDx];rw [Array.getElem?_setIfInBounds,if_neg (fun e=>h e.symm)]
theorem slot_same {a:Act} {d:Nat} {v:Value} (h:d<a.tmps.size):slot (a.put (some d) v) d=v:=by
 unfold slot;rw [getD_put h,if_pos rfl]
theorem chainB_spec {cs:List Nat} (h:chainB ops cs=true) {j c:Nat} (hj:cs[j]?=some c):(∃ o,ops[c]?=some o∧∀ j',j=j'+1→∃ c',cs[j']?=some c'∧∃ e ∈ o.after,Region.binds .any e=true∧e.on=c')∧∀ i,i<j→cs[i]?≠some c:=by
 unfold chainB at h;have hlt:=(List.getElem?_eq_some_iff.1 hj).1;have h1:=List.all_eq_true.1 h j (List.mem_range.2 hlt);rw [hj] at h1;simp only [Bool.and_eq_true] at h1;obtain ⟨h1,h2⟩ := h1;refine ⟨?_,fun i hi e=>?_⟩
 · cases ho:ops[c]? with
   | none=>rw [ho] at h1; cases h1
   | some o =>
    rw [ho] at h1;refine ⟨o,rfl,fun j' e=>?_⟩;subst e;simp only at h1;cases hc:cs[j']? with
    | none=>rw [hc] at h1; cases h1
    | some c' =>
     rw [hc] at h1;simp only at h1;obtain ⟨e,he,hb⟩ := List.any_eq_true.1 h1;simp only [Bool.and_eq_true,beq_iff_eq] at hb;exact ⟨c',rfl,e,by simpa using he,hb.1,hb.2⟩
 · have:=List.all_eq_true.1 h2 i (List.mem_range.2 hi);rw [e] at this;simp at this
end
end Go.Proofs.YtagolklnjhpbdaaDoor.R

namespace Go.Proofs.YtagolklnjhpbdaaDoor.R
open Go
section
variable {P:Program} {ops:Array Oper} {Q:Exit→Act→World→Prop}
def reachD (ops:Array Oper):Nat→Nat→Nat→Bool
  | 0,_,_=>false
  | f+1,c,i=>match ops[c]? with
    | none=>false
    | some o=>o.after.any fun e=>Region.binds .any e && (e.on == i || reachD ops f e.on i)
theorem reachD_spec {L:Nat→Bool} (hcl:∀ c o,L c=true→ops[c]?=some o→∀ e ∈ o.after,Region.binds .any e=true→L e.on=true):∀ (f c i:Nat),reachD ops f c i=true→L c=true→L i=true
  | 0,_,_,h,_=>by cases h
  | f+1,c,i,h,hc=>by
   unfold reachD at h;cases ho:ops[c]? with
   | none=>rw [ho] at h; cases h
   | some o =>
    rw [ho] at h;simp only at h;obtain ⟨k,hk,hb⟩ := Array.any_eq_true.1 h;simp only [Bool.and_eq_true,Bool.or_eq_true,beq_iff_eq] at hb;have hL:=hcl c o hc ho o.after[k] (Array.getElem_mem hk) hb.1;rcases hb.2 with e | e
    · rw [← e]; exact hL
    · exact reachD_spec hcl f _ i e hL
def dueB (ops:Array Oper) (cs due:List Nat):Bool:=(List.range ops.size).all fun i=>cs.contains i || match cs[due.getD i cs.length]? with
  | none=>true
  | some c=>reachD ops ops.size c i
def OpStepD (P:Program) (ops:Array Oper) (Q:Exit→Act→World→Prop) (base:Act) (cs due:List Nat) (St:Nat→(Nat→Value)→World→Prop) (R:World→World→Prop) (Ok:Nat→Value→World→Prop) (i:Nat) (o:Oper):Prop :=
 match cs.findIdx? (fun c=>c == i) with
 | none=>∀ (k:Nat) (a:Act) (w:World),k≤due.getD i cs.length→St k (slot a) w→Agree ops base a→(∀ e ∈ o.after,Region.binds .any e=true→∀ oj d,ops[e.on]?=some oj→oj.dst=some d→Ok e.on (a.tmps.getD d undef) w) →
   (Region.wanted o (yielded ops a.tmps)=true∧∀ K:Act→World→Prop,(∀ v w',R w w'→Ok i v w'→St k (slot a) w'→K (a.put o.dst v) w')→o.wp P a w K Q) ∨
   (Region.wanted o (yielded ops a.tmps)=false∧R w w∧Ok i undef w)
 | some j=>∀ (a:Act) (w:World),St j (slot a) w→Agree ops base a→(∀ e ∈ o.after,Region.binds .any e=true→∀ oj d,ops[e.on]?=some oj→oj.dst=some d→Ok e.on (a.tmps.getD d undef) w) →
   Region.wanted o (yielded ops a.tmps)=true∧∀ K:Act→World→Prop,(∀ v w',R w w'→Ok i v w'→St (j+1) (slot (a.put o.dst v)) w'→K (a.put o.dst v) w')→o.wp P a w K Q
theorem wp_region_due {id:Nat} {base:Act} {w0:World} (cs due:List Nat) (hm:P.follows .mixedOrders=true) (St:Nat→(Nat→Value)→World→Prop) (R:World→World→Prop) (Ok:Nat→Value→World→Prop)
    (hin:(ops.toList.all fun o=>match o.dst with | some d=>decide (d<base.tmps.size) | none=>true)=true)
    (hdis:distinctB ops=true) (hordB:orderedN ops ops.size=true) (hch:chainB ops cs=true) (hdu:dueB ops cs due=true)
    (hcong:∀ k f g w,(∀ s ∈ slotsP ops cs k,f s=g s)→St k f w→St k g w)
    (hOk:∀ i v w w',Ok i v w→R w w'→Ok i v w')
    (hop:EachOp (OpStepD P ops Q base cs due St R Ok) 0 ops.toList)
    (hdone:∀ a w,St cs.length (slot a) w→Agree ops base a→(∀ (i:Nat) (o:Oper) (d:Nat),ops[i]?=some o→o.dst=some d→Ok i (a.tmps.getD d undef) w)→Q .normal a w)
    (h0:St 0 (slot base) w0.drew):(Code.region id ops true).wp P Q base w0:=by
 let C:(Nat→Bool)→Act→World→Prop:=fun L a w=>∃ k,k≤cs.length∧(∀ j c,cs[j]?=some c→L c=decide (j<k))∧(∀ c o,L c=true→ops[c]?=some o→∀ e ∈ o.after,Region.binds .any e=true→L e.on=true)∧St k (slot a) w
 have hdst:∀ (L:Nat→Bool) (k i:Nat) (o:Oper) (d:Nat),ops[i]?=some o→o.dst=some d→L i=false→(∀ j c,cs[j]?=some c→L c=decide (j<k))→(∀ j c o,j<k→cs[j]?=some c→ops[c]?=some o→∀ e ∈ o.after,Region.binds .any e=true→L e.on=true)→∀ s ∈ slotsP ops cs k,s≠d:=by
  intro L k i o d ho hd hL h1 h2 s hs e;subst e;unfold slotsP at hs;obtain ⟨c,hc,hs⟩ := List.mem_flatMap.1 hs;obtain ⟨j,hjc⟩ := List.mem_iff_getElem?.1 hc;rw [List.getElem?_take] at hjc
  split at hjc
  · rename_i hjk;have hLc:=h1 j c hjc;rw [decide_eq_true hjk] at hLc;cases ho':ops[c]? with
    | none=>rw [ho'] at hs; cases hs
    | some o' =>
     rw [ho'] at hs;simp only at hs;rcases List.mem_append.1 hs with hs | hs
     · cases hd':o'.dst with
       | none=>rw [hd'] at hs; cases hs
       | some d' =>
        rw [hd'] at hs;obtain rfl:s=d':=by simpa using hs
        have:=distinctB_spec (ops:=ops) hdis i c o o' s ho ho' hd hd';rw [this] at hL;rw [hL] at hLc;cases hLc
     · obtain ⟨e,he,hs⟩ := List.mem_flatMap.1 hs;obtain ⟨he,hb⟩ := List.mem_filter.1 he;have hLe:=h2 j c o' hjk hjc ho' e (by simpa using he) hb;cases ho2:ops[e.on]? with
       | none=>rw [ho2] at hs; cases hs
       | some o2 =>
        rw [ho2] at hs;simp only at hs;cases hd2:o2.dst with
        | none=>rw [hd2] at hs; cases hs
        | some d2 =>
         rw [hd2] at hs;obtain rfl:s=d2:=by simpa using hs
         have:=distinctB_spec (ops:=ops) hdis i e.on o o2 s ho ho2 hd hd2;rw [this] at hL;rw [hL] at hLe;cases hLe
  · cases hjc
 refine wp_region_relA hm C R Ok hin hdis hordB hOk ?_ ?_ ⟨0,Nat.zero_le _,fun j c _=>by simp,(fun c o hc=>by simp at hc),h0⟩
 ·
   have key:∀ i o,ops.toList[i]?=some o→OpStepA P ops Q base C R Ok i o:=by
    intro i o hio;have hio':ops[i]?=some o:=by simpa using hio
    have hstep:=hop.at i o hio;rw [Nat.zero_add] at hstep;intro L a w hL hpre hC hag hdep;obtain ⟨k,hk,h1,hcl,hst⟩ := hC;have h2:∀ j c o,j<k→cs[j]?=some c→ops[c]?=some o→∀ e ∈ o.after,Region.binds .any e=true→L e.on=true:=fun j c o hj hc=>hcl c o (by rw [h1 j c hc,decide_eq_true hj])
    have hcl':∀ c o',upd L i c=true→ops[c]?=some o'→∀ e ∈ o'.after,Region.binds .any e=true→upd L i e.on=true:=fun c o' hc ho' e he hb=>by
     have h6:L e.on=true:=by
      unfold upd at hc
      split at hc
      · rename_i hci;subst hci;rw [hio'] at ho';cases ho';exact hpre e he hb
      · exact hcl c o' hc ho' e he hb
     unfold upd
     split
     · rfl
     · exact h6
    unfold OpStepD at hstep;cases hf:cs.findIdx? (fun c=>c == i) with
    | none =>
     rw [hf] at hstep;simp only at hstep;have hni:∀ j c,cs[j]?=some c→c≠i:=fun j c hc e=>by
      have:=List.findIdx?_eq_none_iff.1 hf c (List.mem_of_getElem? hc);simp [e] at this
     have hC':∀ v w',St k (slot a) w'→C (upd L i) (a.put o.dst v) w':=fun v w' hs=>by
      refine ⟨k,hk,fun j c hc=>?_,hcl',?_⟩
      · unfold upd;rw [if_neg (hni j c hc)];exact h1 j c hc
      · cases hd:o.dst with
        | none=>exact hs
        | some d=>exact hcong k _ _ w' (fun s hs'=>(slot_put (hdst L k i o d hio' hd hL h1 h2 s hs')).symm) hs
     have hkd:k≤due.getD i cs.length:=by
      have h7:=List.all_eq_true.1 hdu i (List.mem_range.2 (gSx.1 hio').1);rcases Bool.or_eq_true_iff.1 h7 with h7 | h7
      · have:=List.findIdx?_eq_none_iff.1 hf i (by simpa using h7);simp at this
      · cases hc:cs[due.getD i cs.length]? with
        | none=>have:=List.getElem?_eq_none_iff.1 hc; omega
        | some c =>
         rw [hc] at h7;simp only at h7;rcases Nat.lt_or_ge (due.getD i cs.length) k with h8 | h8
         · have h9:=reachD_spec hcl _ c i h7 (by rw [h1 _ c hc,decide_eq_true h8]);rw [hL] at h9;cases h9
         · exact h8
     rcases hstep k a w hkd hst hag hdep with ⟨h3,h4⟩ | ⟨h3,h4,h5⟩
     · exact .inl ⟨h3,fun K hK=>h4 K (fun v w' hr ho hs=>hK v w' hr ho (hC' v w' hs))⟩
     · exact .inr ⟨h3,h4,h5,hC' undef w hst⟩
    | some j =>
     rw [hf] at hstep;simp only at hstep;obtain ⟨hjl,hji,hjn⟩ := List.findIdx?_eq_some_iff_getElem.1 hf;have hji':cs[j]=i:=by simpa using hji
     have hcj:cs[j]?=some i:=by rw [List.getElem?_eq_getElem hjl,hji']
     obtain ⟨⟨o',ho',hpr⟩,hdup⟩ := chainB_spec (ops:=ops) hch hcj;rw [hio'] at ho';cases ho';have hkj:k=j:=by
      have h3:=h1 j i hcj;rw [hL] at h3;have h4:¬ j<k:=fun h=>by rw [decide_eq_true h] at h3; cases h3
      cases j with
      | zero=>omega
      | succ j' =>
       obtain ⟨c',hc',e,he,hb,hon⟩ := hpr j' rfl;have h5:=hpre e he hb;rw [hon,h1 j' c' hc'] at h5;have:=of_decide_eq_true h5;omega
     subst hkj;obtain ⟨h3,h4⟩ := hstep a w hst hag hdep;refine .inl ⟨h3,fun K hK=>h4 K (fun v w' hr hov hs=>hK v w' hr hov ⟨k+1,hjl,fun j2 c hc=>?_,hcl',hs⟩)⟩
     · unfold upd;by_cases hci:c=i
       · rw [if_pos hci];subst hci;have:j2=k:=by
          rcases Nat.lt_trichotomy j2 k with h | h | h
          · exact absurd hc (hdup j2 h)
          · exact h
          · exact absurd hcj ((chainB_spec (ops:=ops) hch hc).2 k h)
         subst this;exact (decide_eq_true (by omega)).symm
       · rw [if_neg hci,h1 j2 c hc];have:j2≠k:=fun e=>hci (by subst e; rw [hcj] at hc; cases hc; rfl)
         by_cases h:j2<k
         · rw [decide_eq_true h,decide_eq_true (by omega)]
         · rw [decide_eq_false h,decide_eq_false (by omega)]
   have go:∀ (l:List Oper) (k:Nat),(∀ i o,l[i]?=some o→OpStepA P ops Q base C R Ok (k+i) o)→EachOp (OpStepA P ops Q base C R Ok) k l:=by
    intro l
    induction l with
    | nil=>intro k _; trivial
    | cons o l ih =>
     intro k h;exact ⟨h 0 o rfl,ih (k+1) (fun i o' ho=>by have:=h (i+1) o' (by simpa using ho); rwa [show k+(i+1)=k+1+i by omega] at this)⟩
   exact go ops.toList 0 (fun i o h=>by rw [Nat.zero_add]; exact key i o h)
 · intro a w hC hag hok;obtain ⟨k,hk,h1,h2,hst⟩ := hC;have hkl:k=cs.length:=by
    rcases Nat.lt_or_ge k cs.length with h | h
    · have hck:cs[k]?=some cs[k]:=List.getElem?_eq_getElem h;have h3:=h1 k cs[k] hck;obtain ⟨⟨o,ho,-⟩,-⟩ := chainB_spec (ops:=ops) hch hck;have hlt:=(gSx.1 ho).1
      dsimp only at h3
      rw [decide_eq_true hlt,decide_eq_false (Nat.lt_irrefl k)] at h3;cases h3
    · omega
   subst hkl;exact hdone a w hst hag hok
end
end Go.Proofs.YtagolklnjhpbdaaDoor.R
