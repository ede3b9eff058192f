import Derived.Test.YtagolklnjhpbdaaDoorMerged0
import Derived.Test.YtagolklnjhpbdaaDoorNRuns
import Derived.Test.YtagolklnjhpbdaaDoorMerged15
import Derived.Test.YtagolklnjhpbdaaDoorMerged4
namespace Go.Proofs.YtagolklnjhpbdaaDoor.K
open Go.RowKit Go.Shelf Go.Proofs.YtagolklnjhpbdaaDoor.I
open W (KeepL keepL_t keepL_b)
attribute [local go_sem] Oper.semAt_some
theorem num_four (base B:Nat) (z y x u:Int) (bs:List UInt8) (w:World) (hsz:(bs.length:Int)≤999900) (hbase:base≤B) (hO:OutAt base B bs w) (hbw:base≤w.heap.size) :
    Calls Tryd.prog 30 #[.pointer (some ⟨B,0,none⟩),.slice (some ⟨w.heap.size,0,none⟩) 4 4] (w.alloc (.cells #[.int .i64 z,.int .i64 y,.int .i64 x,.int .i64 u] 3)) (Wrote base B (bs++(digs (clipN z)++(digs (clipN y)++(digs (clipN x)++digs (clipN u))))) (w.alloc (.cells #[.int .i64 z,.int .i64 y,.int .i64 x,.int .i64 u] 3))):=by
 have h:=num_any base B w.heap.size 0 4 [z,y,x,u] bs (w.alloc (.cells #[.int .i64 z,.int .i64 y,.int .i64 x,.int .i64 u] 3)) (by simp; omega) hbase (hO.alloc _) (fun w' _ hk i hi=>by
  rw [cell_keeps hk (block_new w _) (by decide) (by have:=hO.lt; omega),cell_alloc_new]
  match i,hi with
  | 0,_=>rfl
  | 1,_=>rfl
  | 2,_=>rfl
  | 3,_=>rfl
  | i+4,hi=>simp at hi; omega) (by simp; omega)
 simpa [numsOf] using h
theorem outAt_below {base B:Nat} {bs:List UInt8} {w w':World} (h:OutAt base B bs w) (hb:Below w.heap.size w w'):OutAt base B bs w':=by
 obtain ⟨v,h1,h2⟩ := h;exact ⟨v,(hb.block B h1.lt).trans h1,U.belowAll h2 hb⟩
theorem ownFrom_out {base B C:Nat} {h:List UInt8}:OwnFrom C (fun (pre:List QR) W=>OutAt base B (h++runsB (valR pre)) W):=fun s X Y row hs hg hr=>own_outAt base B h (runsB (valR s)) X Y row hs hg (fun r e=>(hr r e).2)
theorem keepsOthers_of {B:Nat} {V V':World} (h:Keeps B V V') (hB:∀ o,V.heap[B]?=some o→o.isCells=true):KeepsOthers V V':=⟨h.size,fun k o hk ho=>h.block k o hk (fun e=>by rw [e] at hk; rw [hB o hk] at ho; cases ho) (fun cur fr e=>by rw [e] at ho; cases ho)⟩
theorem keepL_of {B rb Bc:Nat} {a:Option Addr} {n c:Nat} {l:List Cel} {V V':World} (h:Keeps B V V') (hL:LooksR Bc a n c l V) (hne:Bc≠B) (hb:Below rb V V') (hlt:∀ b off,l≠[]→a=some ⟨b,off,none⟩→b<rb):KeepL (lookR Bc a l) V V':=by
 refine ⟨h.size,fun b hbm hbl=>?_⟩;rcases List.mem_cons.1 hbm with rfl | hbm
 · have hx:V.heap[b]?=some (.cells #[.slice a n c] 55 (0,0)):=hL.bl;rw [hx];exact h.block b _ hx hne (fun cur fr e=>by injection e with _ e2; revert e2; decide)
 · unfold blkC at hbm;by_cases hl:l=[]
   · rw [if_pos hl] at hbm; cases hbm
   · rw [if_neg hl] at hbm;rcases hL.cl.at_ with e | ⟨b',off,rfl,-,-⟩
     · exact absurd e hl
     · have:b=b':=by simpa using hbm
       subst this;exact hb.block b (hlt b off hl rfl)
theorem runs_stops (n:Nat) (hn:2≤n) (B:Nat) (a:Option Addr) (len cap:Nat) (l:List Cel) (R:List QR) (hR:expR (valR R)=l) (hg:Good none (valR R)) (hlen:len≤1000000) (w:World) (hL:LooksR B a len cap l w) :
    SeqStopsK Fence.wide n Tryd.prog 86 #[.pointer (some ⟨B,0,none⟩)] encQ (KeepL (lookR B a l)) (fun ys=>ys=R) (fun pre=>∃ j,j≤R.length∧pre=R.take j) R.length w:=fun y J Jx V hV hJ _ hY h0 =>
 runs1_in n hn y B a len cap l R hR hg hlen J Jx V hJ hY (hL.below hV) h0
theorem ownFrom_looks {C B:Nat} {a:Option Addr} {n c:Nat} {l:List Cel} (h:∀ b ∈ lookR B a l,b<C):OwnFrom C (fun (_:List QR) W=>LooksR B a n c l W):=fun s X Y row hs hg hr=>hs.keep ⟨hg.size,fun b hb hlt=>hg.block b hlt (fun e=>by have:=(hr b e.symm).1; have:=h b hb; omega)⟩
def PackRPost (r:Ro) (w:World) (e:Ending) (w':World):Prop:=e=.returned (.string ⟨(packR r).toArray⟩)∧Below w.heap.size w w'
theorem packR_runs (r:Ro) (R:List QR) (hR:expR (valR R)=r.l) (hg:Good none (valR R)):packR r=digs (clipN (wrapN r.wrapped))++runsB (valR R):=by
 unfold packR;rw [← hR,packC_exp _ _ hg]
theorem runsB_snoc (pre:List QR) (x:QR):runsB (valR (pre++[x]))=runsB (valR pre)++runB x.1.1 x.1.2:=by
 unfold valR;rw [List.map_append,runsB_append];unfold runsB;simp
set_option maxRecDepth 100000 in
set_option maxHeartbeats 8000000 in
theorem packRow_in (n:Nat) (hn:6≤n) (a:Option Addr) (m c:Nat) (b:Bool) (r:Ro) (w:World) (hI:RowV .i32 (.agg #[.slice a m c,.bool b]) r w) (hok:AllC okC r.l) (hm:m≤20000) :
    CallsIn Fence.wide n Tryd.prog 32 #[.agg #[.slice a m c,.bool b]] w (PackRPost r w):=by
 have h1:1≤n:=by omega
 obtain ⟨hwr,hcl,hnl,hft,htp,hml⟩ := hI.of;subst hwr;obtain ⟨rb,hrb⟩ : ∃ rb,w.heap.size=rb:=⟨_,rfl⟩;obtain ⟨P,hP⟩ : ∃ P,PackRPost r w=P:=⟨_,rfl⟩;rw [hP];have HP:=hDx hP;obtain ⟨R,hR,hg⟩ := runs_all r.l hok (by omega);have hpk:=packR_runs r R hR hg;have hRl:R.length≤20000:=by
  have h2:=good_len _ _ hg;rw [hR] at h2;unfold valR at h2;rw [List.length_map] at h2;omega
 obtain ⟨w1,hw1⟩ : ∃ w1,w.alloc (.cells #[.slice a m c,.bool r.wrapped] 57)=w1:=⟨_,rfl⟩;obtain ⟨w2,hw2⟩ : ∃ w2,w1.alloc (.cells #[.slice none 0 0] 68)=w2:=⟨_,rfl⟩;have hs1:w1.heap.size=rb+1:=by rw [← hw1,World.size_alloc,hrb]
 have hb1:Below rb w w1:=by rw [← hw1,← hrb]; exact (Below.refl _ _).alloc (Nat.le_refl _) _
 have hb2:Below rb w w2:=by rw [← hw2]; exact hb1.alloc (by omega) _
 have hO2:OutAt rb (rb+1) [] w2:=by have:=out_new rb w1; rw [hw2,hs1] at this; exact this
 have hA1:w1.heap[rb]?=some (.cells #[.slice a m c,.bool r.wrapped] 57 (0,0)):=by rw [← hw1,← hrb]; exact heap_alloc_new w _
 have hA:w2.heap[rb]?=some (.cells #[.slice a m c,.bool r.wrapped] 57 (0,0)):=by rw [← hw2,Below.heap_alloc _ _ _ (by omega)]; exact hA1
 have c1:w2.cell? ⟨rb,1,none⟩=some (.bool r.wrapped):=by rw [cell_block hA]; rfl
 have hs2:w2.heap.size=rb+1+1:=by rw [← hw2,World.size_alloc,hs1]
 have hN0:=(num_one rb (rb+1) (wrapN r.wrapped) [] w2 (by simp) (by omega) hO2 (by have:=hb2.size; omega) |> fun h=>(by simpa using h:Calls Tryd.prog 30 #[.pointer (some ⟨rb+1,0,none⟩),.slice (some ⟨w2.heap.size,0,none⟩) 1 1] (w2.alloc (.cells #[.int .i64 (wrapN r.wrapped)] 3)) (Wrote rb (rb+1) (digs (clipN (wrapN r.wrapped))) (w2.alloc (.cells #[.int .i64 (wrapN r.wrapped)] 3)))));rw [show (some (⟨w2.heap.size,0,none⟩ : Addr))=some ⟨rb+1+1,0,none⟩ by rw [hs2]] at hN0;have HN:=hDx hN0;have HW1:=hDx hw1;have HW2:=hDx hw2;have HRb:=hDx hrb;have HS1:=hDx hs1;have HA:=hDx hA;have HB2:=hDx hb2;have HCl:=hDx hcl;have HPk:=hDx hpk;have HR:=hDx hR;have HG:=hDx hg;have hmI:(m:Int)≤20000:=by omega
 have HLt:Hid (∀ b off,r.l≠[]→a=some ⟨b,off,none⟩→b<rb):=hDx (fun b off hl e=>by
  rcases hcl.at_ with h | ⟨b',off',e2,hlt,-⟩
  · exact absurd h hl
  · rw [e] at e2; cases e2; rw [← hrb]; exact hlt)
 clear hN0 hs2 hP hI hok hcl hnl hft htp hml hR hg hpk hw1 hw2 hs1 hb1 hb2 hO2 hA1 hA hrb;have hwayB:r.wrapped=true∧wrapN r.wrapped=1∨r.wrapped=false∧wrapN r.wrapped=0:=by cases r.wrapped <;> simp [wrapN]
 obtain ⟨bw,hbw⟩ : ∃ bw,r.wrapped=bw:=⟨_,rfl⟩;obtain ⟨wn,hwn⟩ : ∃ wn,wrapN r.wrapped=wn:=⟨_,rfl⟩;rw [hwn] at HN HPk;rw [hwn,hbw] at hwayB;rw [hbw] at HW1 HA c1 ⊢;clear hbw hwn;refine callsIn_of_wp_marks Tryd.func32 rfl trivial ?_ rfl;simp only [Tryd.ntmps32,List.size_toArray,List.length_cons,List.length_nil,Nat.reduceAdd,Nat.reduceSub,Array.replicate_succ,Array.replicate_zero,List.push_toArray,List.append_toArray,List.nil_append,List.cons_append];rcases hwayB with ⟨rfl,rfl⟩ | ⟨rfl,rfl⟩
 · gi_wp2_with fail
   rw [HW1.out,HW2.out,HRb.out];refine ⟨trivial,(callsIn_wide.2 HN.out).mono ?_⟩;rintro e w3 ⟨rfl,hO3,hb3,hk3⟩;have hba:Below w2.heap.size w2 (w2.alloc (.cells #[.int .i64 1] 3)):=(Below.refl _ _).alloc (Nat.le_refl _) _;have hrl:rb<w2.heap.size:=(gSx.1 HA.out).1;have hb03:Below rb w w3:=HB2.out.trans ((hba.mono (by omega)).trans hb3);have hA3:w3.heap[rb]?=some (.cells #[.slice a m c,.bool true] 57 (0,0)):=hk3.block rb _ ((hba.block rb hrl).trans HA.out) (by omega) (fun cur fr e=>by injection e with _ e2; revert e2; decide);have c0:w3.cell? ⟨rb,0,none⟩=some (.slice a m c):=by rw [cell_block hA3]; rfl
   have HRn:=hDx (runs_any a m c r.l w3 (HCl.out.belowAll (by rw [HRb.out]; exact hb03)));have HO3:=hDx hO3;have HB03:=hDx hb03;have hne:rb+1<w3.heap.size:=hO3.lt;clear hO3 hb3 hk3 hba hrl hb03 hA3 c1 HA
   gi_wp2_with fail
   refine ⟨trivial,(callsIn_wide.2 HRn.out).mono ?_⟩;rintro e w4 ⟨rfl,hL4,hb4⟩;have hO4:=outAt_below HO3.out hb4;have hb04:Below rb w w4:=HB03.out.trans (hb4.mono HB03.out.size |>.mono (by have:=HB03.out.size; have:=HRb.out; omega));have HL4:=hDx hL4;have HO4:=hDx hO4;have HB04:=hDx hb04;have hrw4:rb≤w4.heap.size:=by have:=hb04.size; have:=HRb.out; omega
   clear hL4 hb4 hO4 hb04 c0 HRn HO3
   gi_wp2_with fail
   refine wpIn_rangeFunc_ownH rfl h1 (gf:=86) (lb:=#[.pointer (some ⟨w3.heap.size,0,none⟩)]) rfl trivial (enters_of Tryd.func86 (by kernel_rfl) rfl)
     (runs_stops (n - 1) (by omega) w3.heap.size a m c r.l R HR.out HG.out (by omega) w4 HL4.out) (fun h1 h2=>keepL_t h1 h2) (keepL_b HL4.out.all) (Below.refl _ _) (fun _=>rfl)
     (fun pre V=>OutAt rb (rb+1) (digs (clipN 1)++runsB (valR pre)) V∧LooksR w3.heap.size a m c r.l V∧Below rb w V)
     (fun _ _ _=>False)
     (OwnFrom.and ownFrom_out (OwnFrom.and (ownFrom_looks HL4.out.all) (ownFrom_below (by rw [HRb.out]; exact Nat.le_refl _) hrw4)))
     (fun _ _ _ _ _ hs _ _=>hs)
     ⟨by simpa [valR,runsB] using HO4.out,HL4.out,HB04.out⟩
     (fun x a' V=>∃ Bx,V.heap[Bx]?=some (.cells #[.int .i64 (x.1.1:Int),.int .i32 x.1.2.rune,.int .i64 x.1.2.style,.int .i64 x.1.2.part] 129 (0,0))∧a'={ tmps:=#[.agg #[.slice a m c,.bool true],.pointer (some ⟨rb,0,none⟩),.string ⟨#[]⟩,.pointer (some ⟨rb+1,0,none⟩),.int .i64 1,.pointer (some ⟨Bx,0,none⟩),undef,.pointer (some ⟨rb,1,none⟩),.bool true,.int .i64 1,.slice (some ⟨rb+1+1,0,none⟩) 1 1,.pointer (some ⟨rb+1,0,none⟩),.pointer (some ⟨rb,0,none⟩),.slice a m c,.func (.func 86) #[] #[.pointer (some ⟨w3.heap.size,0,none⟩)],.agg #[.int .i64 (x.1.1:Int),.int .i32 x.1.2.rune,.int .i64 x.1.2.style,.int .i64 x.1.2.part],undef,undef,undef,undef,undef,undef,undef,undef,undef,undef,undef,undef,undef,undef],defers:=[] })
     (fun x a' s X Y row hs hg hr=>by
      obtain ⟨Bx,hb2,hb3⟩ := hs;refine ⟨Bx,(hg.block Bx (gSx.1 hb2).1 (fun e=>?_)).trans hb2,hb3⟩;obtain ⟨_,o,ho,hc⟩ := hr Bx e.symm;rw [hb2] at ho;cases ho;cases hc)
     ?assign ?body ?done ?stop
   case assign =>
    rintro l pre x V K ⟨hO,hL,hB⟩ hK;obtain ⟨⟨k,⟨x1,x2,x3⟩⟩,hq⟩ : ∃ q,x.1=q:=⟨_,rfl⟩;rw [hq] at hK;have hba:Below V.heap.size V (V.alloc (.cells #[.int .i64 (k:Int),.int .i32 x1,.int .i64 x2,.int .i64 x3] 129)):=(Below.refl _ _).alloc (Nat.le_refl _) _;have hK':=hK _ _ ((keepsOthers_below hba).from _) (KeepL.of_below hba hL.all) ⟨outAt_below hO hba,hL.below hba,hB.trans (hba.mono (by have:=hB.size; have:=HRb.out; omega))⟩ ⟨V.heap.size,heap_alloc_new V _,rfl⟩;have HK:=hDx hK';have hen:encQ x=#[.agg #[.int .i64 (k:Int),.int .i32 x1,.int .i64 x2,.int .i64 x3]]:=by unfold encQ; rw [hq]
    rw [hen];clear hK hK' hba hO hL hB hq hen
    gi_wp2
    exact HK.out
   case body =>
    rintro l pre x a' V hls hlr ⟨hO,hL,hB⟩ ⟨Bx,hBx,rfl⟩ hltp;clear hls hlr;obtain ⟨⟨k,⟨x1,x2,x3⟩⟩,hok,hkb⟩ := x;simp only at hok hkb hBx ⊢;have hwr:IntKind.i64.wrap x1=x1:=by have:=hok.1; simp only at this; rw [IntKind.wrap_i64]; omega
    have g0:V.cell? ⟨Bx,0,none⟩=some (.int .i64 (k:Int)):=by rw [cell_block hBx]; rfl
    have g1:V.cell? ⟨Bx,1,none⟩=some (.int .i32 x1):=by rw [cell_block hBx]; rfl
    have g2:V.cell? ⟨Bx,2,none⟩=some (.int .i64 x2):=by rw [cell_block hBx]; rfl
    have g3:V.cell? ⟨Bx,3,none⟩=some (.int .i64 x3):=by rw [cell_block hBx]; rfl
    obtain ⟨qb,hqb⟩ : ∃ qb,V.heap.size=qb:=⟨_,rfl⟩;obtain ⟨V2,hV2⟩ : ∃ V2,V.alloc (.cells #[.int .i32 x1,.int .i64 x2,.int .i64 x3] 118)=V2:=⟨_,rfl⟩;have hnew:V2.heap[qb]?=some (.cells #[.int .i32 x1,.int .i64 x2,.int .i64 x3] 118 (0,0)):=by rw [← hV2,← hqb]; exact heap_alloc_new V _
    have hbV:Below V.heap.size V V2:=by rw [← hV2]; exact (Below.refl _ _).alloc (Nat.le_refl _) _
    have k0:V2.cell? ⟨Bx,0,none⟩=some (.int .i64 (k:Int)):=(hbV.cell (p:=⟨Bx,0,none⟩) (gSx.1 hBx).1).trans g0;have hs2:V2.heap.size=V.heap.size+1:=by rw [← hV2,World.size_alloc]
    have hO2:=outAt_below hO hbV;have hrV:rb≤V.heap.size:=by have:=hB.size; have:=HRb.out; omega
    have hrV2:rb≤V2.heap.size:=Nat.le_trans hrV hbV.size;have hln:((digs (clipN 1)++runsB (valR pre)).length:Int)≤999900:=by
     have h1:=runsB_len (valR pre);have h2:=digs_nine (clipN 1) (clipN_le _);unfold valR at h1;rw [List.length_map] at h1;rw [List.length_append];unfold valR;omega
    have hN4:=num_four rb (rb+1) (k:Int) x1 x2 x3 _ V2 hln (by omega) hO2 hrV2;rw [show (some (⟨V2.heap.size,0,none⟩ : Addr))=some ⟨V.heap.size+1,0,none⟩ by rw [hs2]] at hN4;have HN4:=hDx hN4;rw [← hV2] at k0;have hb2a:Below V2.heap.size V2 (V2.alloc (.cells #[.int .i64 (k:Int),.int .i64 x1,.int .i64 x2,.int .i64 x3] 3)):=(Below.refl _ _).alloc (Nat.le_refl _) _;have HVa:Hid (Below V.heap.size V (V2.alloc (.cells #[.int .i64 (k:Int),.int .i64 x1,.int .i64 x2,.int .i64 x3] 3))):=hDx (hbV.trans (hb2a.mono hbV.size));have HL:=hDx hL;have HB:=hDx hB;have HOb:Hid (∀ o,V.heap[rb+1]?=some o→o.isCells=true):=hDx (fun o ho=>by
     obtain ⟨v,h1,-⟩ := hO;rw [show V.heap[rb+1]?=_ from h1] at ho;cases ho
     rfl)
    have HV2:=hDx hV2;clear hbV hO2 hln hb2a hL hB hO hltp hV2 hqb hnew hs2 hN4
    gi_wp2_with fail
    rw [HV2.out];refine ⟨trivial,fun _=>by omega,(callsIn_wide.2 HN4.out).mono ?_⟩;rintro e V' ⟨rfl,hO',hb',hk'⟩;have hKV:Keeps (rb+1) V V':=(keeps_below HVa.out).trans hk';have hBV:Below rb V V':=(HVa.out.mono hrV).trans hb';have hE1:=keepsOthers_of hKV HOb.out;have hE2:=keepL_of hKV HL.out (by omega) hBV HLt.out;have HE:Hid (KeepsFrom w4.heap.size V V'∧KeepL (lookR w3.heap.size a r.l) V V'∧OutAt rb (rb+1) (digs (clipN 1)++runsB (valR (pre++[⟨(k,⟨x1,x2,x3⟩),hok,hkb⟩]))) V'∧LooksR w3.heap.size a m c r.l V'∧Below rb w V'):=hDx ⟨hE1.from _,hE2,by
     rw [runsB_snoc,← List.append_assoc];exact hO',HL.out.keep hE2,HB.out.trans hBV⟩
    clear hO' hb' hk' hKV hBV hE1 hE2 HN4
    gi_wp2
    exact HE.out
   case done =>
    rintro D ys V hD hS ⟨hO,hL,hB⟩ hK;subst hS;have HBy:=hDx (bytes_any rb (rb+1) _ V hO);have HB:=hDx hB;have HK:=hDx hK;have HD:=hDx hD;clear hO hL hB hK hD
    gi_wp2_with fail
    refine ⟨trivial,(callsIn_wide.2 HBy.out).mono ?_⟩;rintro e V' ⟨rfl,rfl⟩
    gi_wp2
    refine ⟨by simp,.inl ⟨_,_,rfl,run_takeDeferred HK.out,?_⟩⟩;rw [← HP.out];exact ⟨_,results_tmp rfl _ _ _,by rw [HPk.out]; rfl,by rw [HRb.out]; exact HB.out.trans (belowK_b (w:=w4) hrw4 V D _ _ HD.out HK.out rfl rfl)⟩
   case stop =>
    rintro D c pre V hD _ h;exact h.elim
 · gi_wp2_with fail
   rw [HW1.out,HW2.out,HRb.out];refine ⟨trivial,(callsIn_wide.2 HN.out).mono ?_⟩;rintro e w3 ⟨rfl,hO3,hb3,hk3⟩;have hba:Below w2.heap.size w2 (w2.alloc (.cells #[.int .i64 0] 3)):=(Below.refl _ _).alloc (Nat.le_refl _) _;have hrl:rb<w2.heap.size:=(gSx.1 HA.out).1;have hb03:Below rb w w3:=HB2.out.trans ((hba.mono (by omega)).trans hb3);have hA3:w3.heap[rb]?=some (.cells #[.slice a m c,.bool false] 57 (0,0)):=hk3.block rb _ ((hba.block rb hrl).trans HA.out) (by omega) (fun cur fr e=>by injection e with _ e2; revert e2; decide);have c0:w3.cell? ⟨rb,0,none⟩=some (.slice a m c):=by rw [cell_block hA3]; rfl
   have HRn:=hDx (runs_any a m c r.l w3 (HCl.out.belowAll (by rw [HRb.out]; exact hb03)));have HO3:=hDx hO3;have HB03:=hDx hb03;have hne:rb+1<w3.heap.size:=hO3.lt;clear hO3 hb3 hk3 hba hrl hb03 hA3 c1 HA
   gi_wp2_with fail
   refine ⟨trivial,(callsIn_wide.2 HRn.out).mono ?_⟩;rintro e w4 ⟨rfl,hL4,hb4⟩;have hO4:=outAt_below HO3.out hb4;have hb04:Below rb w w4:=HB03.out.trans (hb4.mono HB03.out.size |>.mono (by have:=HB03.out.size; have:=HRb.out; omega));have HL4:=hDx hL4;have HO4:=hDx hO4;have HB04:=hDx hb04;have hrw4:rb≤w4.heap.size:=by have:=hb04.size; have:=HRb.out; omega
   clear hL4 hb4 hO4 hb04 c0 HRn HO3
   gi_wp2_with fail
   refine wpIn_rangeFunc_ownH rfl h1 (gf:=86) (lb:=#[.pointer (some ⟨w3.heap.size,0,none⟩)]) rfl trivial (enters_of Tryd.func86 (by kernel_rfl) rfl)
     (runs_stops (n - 1) (by omega) w3.heap.size a m c r.l R HR.out HG.out (by omega) w4 HL4.out) (fun h1 h2=>keepL_t h1 h2) (keepL_b HL4.out.all) (Below.refl _ _) (fun _=>rfl)
     (fun pre V=>OutAt rb (rb+1) (digs (clipN 0)++runsB (valR pre)) V∧LooksR w3.heap.size a m c r.l V∧Below rb w V)
     (fun _ _ _=>False)
     (OwnFrom.and ownFrom_out (OwnFrom.and (ownFrom_looks HL4.out.all) (ownFrom_below (by rw [HRb.out]; exact Nat.le_refl _) hrw4)))
     (fun _ _ _ _ _ hs _ _=>hs)
     ⟨by simpa [valR,runsB] using HO4.out,HL4.out,HB04.out⟩
     (fun x a' V=>∃ Bx,V.heap[Bx]?=some (.cells #[.int .i64 (x.1.1:Int),.int .i32 x.1.2.rune,.int .i64 x.1.2.style,.int .i64 x.1.2.part] 129 (0,0))∧a'={ tmps:=#[.agg #[.slice a m c,.bool false],.pointer (some ⟨rb,0,none⟩),.string ⟨#[]⟩,.pointer (some ⟨rb+1,0,none⟩),.int .i64 0,.pointer (some ⟨Bx,0,none⟩),undef,.pointer (some ⟨rb,1,none⟩),.bool false,.int .i64 0,.slice (some ⟨rb+1+1,0,none⟩) 1 1,.pointer (some ⟨rb+1,0,none⟩),.pointer (some ⟨rb,0,none⟩),.slice a m c,.func (.func 86) #[] #[.pointer (some ⟨w3.heap.size,0,none⟩)],.agg #[.int .i64 (x.1.1:Int),.int .i32 x.1.2.rune,.int .i64 x.1.2.style,.int .i64 x.1.2.part],undef,undef,undef,undef,undef,undef,undef,undef,undef,undef,undef,undef,undef,undef],defers:=[] })
     (fun x a' s X Y row hs hg hr=>by
      obtain ⟨Bx,hb2,hb3⟩ := hs;refine ⟨Bx,(hg.block Bx (gSx.1 hb2).1 (fun e=>?_)).trans hb2,hb3⟩;obtain ⟨_,o,ho,hc⟩ := hr Bx e.symm;rw [hb2] at ho;cases ho;cases hc)
     ?assign ?body ?done ?stop
   case assign =>
    rintro l pre x V K ⟨hO,hL,hB⟩ hK;obtain ⟨⟨k,⟨x1,x2,x3⟩⟩,hq⟩ : ∃ q,x.1=q:=⟨_,rfl⟩;rw [hq] at hK;have hba:Below V.heap.size V (V.alloc (.cells #[.int .i64 (k:Int),.int .i32 x1,.int .i64 x2,.int .i64 x3] 129)):=(Below.refl _ _).alloc (Nat.le_refl _) _;have hK':=hK _ _ ((keepsOthers_below hba).from _) (KeepL.of_below hba hL.all) ⟨outAt_below hO hba,hL.below hba,hB.trans (hba.mono (by have:=hB.size; have:=HRb.out; omega))⟩ ⟨V.heap.size,heap_alloc_new V _,rfl⟩;have HK:=hDx hK';have hen:encQ x=#[.agg #[.int .i64 (k:Int),.int .i32 x1,.int .i64 x2,.int .i64 x3]]:=by unfold encQ; rw [hq]
    rw [hen];clear hK hK' hba hO hL hB hq hen
    gi_wp2
    exact HK.out
   case body =>
    rintro l pre x a' V hls hlr ⟨hO,hL,hB⟩ ⟨Bx,hBx,rfl⟩ hltp;clear hls hlr;obtain ⟨⟨k,⟨x1,x2,x3⟩⟩,hok,hkb⟩ := x;simp only at hok hkb hBx ⊢;have hwr:IntKind.i64.wrap x1=x1:=by have:=hok.1; simp only at this; rw [IntKind.wrap_i64]; omega
    have g0:V.cell? ⟨Bx,0,none⟩=some (.int .i64 (k:Int)):=by rw [cell_block hBx]; rfl
    have g1:V.cell? ⟨Bx,1,none⟩=some (.int .i32 x1):=by rw [cell_block hBx]; rfl
    have g2:V.cell? ⟨Bx,2,none⟩=some (.int .i64 x2):=by rw [cell_block hBx]; rfl
    have g3:V.cell? ⟨Bx,3,none⟩=some (.int .i64 x3):=by rw [cell_block hBx]; rfl
    obtain ⟨qb,hqb⟩ : ∃ qb,V.heap.size=qb:=⟨_,rfl⟩;obtain ⟨V2,hV2⟩ : ∃ V2,V.alloc (.cells #[.int .i32 x1,.int .i64 x2,.int .i64 x3] 118)=V2:=⟨_,rfl⟩;have hnew:V2.heap[qb]?=some (.cells #[.int .i32 x1,.int .i64 x2,.int .i64 x3] 118 (0,0)):=by rw [← hV2,← hqb]; exact heap_alloc_new V _
    have hbV:Below V.heap.size V V2:=by rw [← hV2]; exact (Below.refl _ _).alloc (Nat.le_refl _) _
    have k0:V2.cell? ⟨Bx,0,none⟩=some (.int .i64 (k:Int)):=(hbV.cell (p:=⟨Bx,0,none⟩) (gSx.1 hBx).1).trans g0;have hs2:V2.heap.size=V.heap.size+1:=by rw [← hV2,World.size_alloc]
    have hO2:=outAt_below hO hbV;have hrV:rb≤V.heap.size:=by have:=hB.size; have:=HRb.out; omega
    have hrV2:rb≤V2.heap.size:=Nat.le_trans hrV hbV.size;have hln:((digs (clipN 0)++runsB (valR pre)).length:Int)≤999900:=by
     have h1:=runsB_len (valR pre);have h2:=digs_nine (clipN 0) (clipN_le _);unfold valR at h1;rw [List.length_map] at h1;rw [List.length_append];unfold valR;omega
    have hN4:=num_four rb (rb+1) (k:Int) x1 x2 x3 _ V2 hln (by omega) hO2 hrV2;rw [show (some (⟨V2.heap.size,0,none⟩ : Addr))=some ⟨V.heap.size+1,0,none⟩ by rw [hs2]] at hN4;have HN4:=hDx hN4;rw [← hV2] at k0;have hb2a:Below V2.heap.size V2 (V2.alloc (.cells #[.int .i64 (k:Int),.int .i64 x1,.int .i64 x2,.int .i64 x3] 3)):=(Below.refl _ _).alloc (Nat.le_refl _) _;have HVa:Hid (Below V.heap.size V (V2.alloc (.cells #[.int .i64 (k:Int),.int .i64 x1,.int .i64 x2,.int .i64 x3] 3))):=hDx (hbV.trans (hb2a.mono hbV.size));have HL:=hDx hL;have HB:=hDx hB;have HOb:Hid (∀ o,V.heap[rb+1]?=some o→o.isCells=true):=hDx (fun o ho=>by
     obtain ⟨v,h1,-⟩ := hO;rw [show V.heap[rb+1]?=_ from h1] at ho;cases ho
     rfl)
    have HV2:=hDx hV2;clear hbV hO2 hln hb2a hL hB hO hltp hV2 hqb hnew hs2 hN4
    gi_wp2_with fail
    rw [HV2.out];refine ⟨trivial,fun _=>by omega,(callsIn_wide.2 HN4.out).mono ?_⟩;rintro e V' ⟨rfl,hO',hb',hk'⟩;have hKV:Keeps (rb+1) V V':=(keeps_below HVa.out).trans hk';have hBV:Below rb V V':=(HVa.out.mono hrV).trans hb';have hE1:=keepsOthers_of hKV HOb.out;have hE2:=keepL_of hKV HL.out (by omega) hBV HLt.out;have HE:Hid (KeepsFrom w4.heap.size V V'∧KeepL (lookR w3.heap.size a r.l) V V'∧OutAt rb (rb+1) (digs (clipN 0)++runsB (valR (pre++[⟨(k,⟨x1,x2,x3⟩),hok,hkb⟩]))) V'∧LooksR w3.heap.size a m c r.l V'∧Below rb w V'):=hDx ⟨hE1.from _,hE2,by
     rw [runsB_snoc,← List.append_assoc];exact hO',HL.out.keep hE2,HB.out.trans hBV⟩
    clear hO' hb' hk' hKV hBV hE1 hE2 HN4
    gi_wp2
    exact HE.out
   case done =>
    rintro D ys V hD hS ⟨hO,hL,hB⟩ hK;subst hS;have HBy:=hDx (bytes_any rb (rb+1) _ V hO);have HB:=hDx hB;have HK:=hDx hK;have HD:=hDx hD;clear hO hL hB hK hD
    gi_wp2_with fail
    refine ⟨trivial,(callsIn_wide.2 HBy.out).mono ?_⟩;rintro e V' ⟨rfl,rfl⟩
    gi_wp2
    refine ⟨by simp,.inl ⟨_,_,rfl,run_takeDeferred HK.out,?_⟩⟩;rw [← HP.out];exact ⟨_,results_tmp rfl _ _ _,by rw [HPk.out]; rfl,by rw [HRb.out]; exact HB.out.trans (belowK_b (w:=w4) hrw4 V D _ _ HD.out HK.out rfl rfl)⟩
   case stop =>
    rintro D c pre V hD _ h;exact h.elim
theorem packRow_any (a:Option Addr) (m c:Nat) (b:Bool) (r:Ro) (w:World) (hI:RowV .i32 (.agg #[.slice a m c,.bool b]) r w) (hok:AllC okC r.l) (hm:m≤20000) :
    Calls Tryd.prog 32 #[.agg #[.slice a m c,.bool b]] w fun e w'=>e=.returned (.string ⟨(packR r).toArray⟩)∧Below w.heap.size w w' :=
 (callsIn_wide (n:=6)).1 (packRow_in 6 (Nat.le_refl _) a m c b r w hI hok hm)
end Go.Proofs.YtagolklnjhpbdaaDoor.K
