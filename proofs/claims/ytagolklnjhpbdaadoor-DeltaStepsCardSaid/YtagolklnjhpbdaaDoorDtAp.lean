import Derived.Test.YtagolklnjhpbdaaDoorMerged0
import Derived.Test.YtagolklnjhpbdaaDoorDtUp
import Derived.Test.YtagolklnjhpbdaaDoorMerged24
namespace Go.Proofs.YtagolklnjhpbdaaDoor.K
open Go.Proofs.YtagolklnjhpbdaaDoor.R (agree_frame wp_region_due)
open Go.RowKit Go.Proofs.YtagolklnjhpbdaaDoor.I
theorem roundsM_rows (w h:Nat) (m:Ms):∀ n,∀ x ∈ (roundsM w h n m).l,x ∈ m.l∨(x.2.l.length≤w∧AllC okC x.2.l)
  | 0,x,hx=>.inl hx
  | n+1,x,hx=>by
   have h1:x ∈ (roundM w h (roundsM w h n m)).l:=hx;unfold roundM at h1
   split at h1
   · exact roundsM_rows w h m n x h1
   · have h2:x ∈ (roundsM w h n m).l++[((msNum (roundsM w h n m)).2,(readR (msSt h (roundsM w h n m)) w).2)]:=h1;rcases List.mem_append.1 h2 with h2 | h2
     · exact roundsM_rows w h m n x h2
     · have e:x=((msNum (roundsM w h n m)).2,(readR (msSt h (roundsM w h n m)) w).2):=by simpa using h2
       rw [e];exact .inr ⟨readR_len _ _,readR_rng _ _⟩
theorem readM_rows (w h:Nat) (st:Sta):∀ x ∈ (readM w h st).l,x.2.l.length≤w∧AllC okC x.2.l:=fun x hx=>(roundsM_rows w h (ms0 st) _ x hx).resolve_left (fun e=>by cases e)
theorem readM_good (w h:Nat) (st:Sta) (h0:(readM w h st).st.2=0):MsGood h (readM w h st):=roundsM_good (ms0_good h st) _ h0
theorem readD_ok (st:Sta):(∀ x ∈ (readD st).1.l,AllC Rng x.2.l∧x.2.l.length≤1000)∧((readD st).1.st.2=0→((readD st).1.l.map Prod.fst).Pairwise (·<·))∧(0≤(readD st).2.2.h∧(readD st).2.2.h≤1000)∧(readD st).2.2.B.length≤1000000∧∀ g ∈ (readD st).2.2.B,-2147483648≤g.1∧g.1≤2147483647:=by
 obtain ⟨u,hu⟩ : ∃ u,pU st=u:=⟨_,rfl⟩;have h1:(pW u.1).2≤1000:=by rw [pW_def]; exact atS_le _ _
 have h2:(pH u.1).2≤1000:=by rw [pH_def]; exact atS_le _ _
 have h3:(pB u.1).2.length≤1000000∧∀ g ∈ (pB u.1).2,-2147483648≤g.1∧g.1≤2147483647:=by
  rw [pB_def];exact ⟨by have:=readS_len (pC u.1).1; omega,fun g hg=>by have:=(readS_rng _ g hg).1; omega⟩
 have e:readD st=(readM (pW u.1).2 (pH u.1).2 (pB u.1).1,u.2,⟨((pK u.1).2:Int),((pW u.1).2:Int),((pH u.1).2:Int),((pX u.1).2:Int),((pY u.1).2:Int),⟨(pT u.1).2.toArray⟩,[],((pN u.1).2:Int),((pC u.1).2:Int),(pB u.1).2⟩):=by rw [readD,hu]
 rw [e];clear e hu;generalize pK u.1=K at *;generalize pW u.1=W at *;generalize pH u.1=H at *;generalize pX u.1=X at *;generalize pY u.1=Y at *;generalize pT u.1=T at *;generalize pN u.1=N at *;generalize pC u.1=C at *;generalize pB u.1=B at *;simp only;refine ⟨fun x hx=>?_,fun h0=>(readM_good _ _ _ h0).up,⟨by omega,by omega⟩,h3.1,h3.2⟩;obtain ⟨h4,h5⟩ := readM_rows _ _ _ x hx;exact ⟨okC_rng h5,by omega⟩
def ApPost (q:Sn × Nat) (w:World) (e:Ending) (w':World):Prop:=∃ xa xn xc ya yn yc,e=.returned (.tuple #[.agg (snA q.1 xa xn xc ya yn yc),.int .i64 (q.2:Int)])∧SnIn .i32 xa xn xc ya yn yc q.1 w'∧Below w.heap.size w w'
def ApOk (rb cb:Nat) (cu:Int) (Sm:Int) (sa:Sn) (ra:Option Addr) (rn rc:Nat) (ga:Option Addr) (gn gc:Nat):Nat→Value→World→Prop
  | 0,u,_=>u=.pointer (some ⟨cb,0,none⟩)
  | 1,u,_=>u=.int .i64 cu
  | 2,u,_=>u=.agg #[.int .i64 sa.k,.int .i64 sa.w,.int .i64 sa.h,.int .i64 sa.x,.int .i64 sa.y,.string sa.t,.slice ra rn rc,.int .i64 sa.n,.int .i64 sa.c,.slice ga gn gc]
  | 3,u,_=>u=.int .i64 Sm
  | 4,u,_=>u=.bool (cu != Sm)
  | _,_,_=>True
set_option maxRecDepth 100000 in
set_option maxHeartbeats 16000000 in
theorem apply_any (t:ByteArray) (ht:(t.size:Int)≤1000000) (sa:Sn) (ra:Option Addr) (rn rc:Nat) (ga:Option Addr) (gn gc:Nat) (w:World) (hA:SnIn .i32 ra rn rc ga gn gc sa w) (hAB:SnB sa) (hT:Go.Proofs.YtagolklnjhpbdaaDoor.S.Tab w) :
    Calls Tryd.prog 17 #[.agg (snA sa ra rn rc ga gn gc),.string t] w (ApPost (applyN sa t.data.toList) w):=by
 obtain ⟨P,hP⟩ : ∃ P,ApPost (applyN sa t.data.toList) w=P:=⟨_,rfl⟩;rw [hP];have HP:=hDx hP;obtain ⟨rb,hrb⟩ : ∃ rb,w.heap.size=rb:=⟨_,rfl⟩;obtain ⟨w1,hw1⟩ : ∃ w1,(w.alloc (.cells (snA sa ra rn rc ga gn gc) 25)).alloc (.cells #[.int .i64 0,.int .i64 0,.int .i64 0,.int .i64 0,.int .i64 0,.string ⟨#[]⟩,.slice none 0 0,.int .i64 0,.int .i64 0,.slice none 0 0] 25)=w1:=⟨_,rfl⟩;have b1:Below rb w (w.alloc (.cells (snA sa ra rn rc ga gn gc) 25)):=by rw [← hrb]; exact (Below.refl _ _).alloc (Nat.le_refl _) _
 have hb1:Below rb w w1:=by rw [← hw1]; exact b1.alloc (by rw [World.size_alloc]; omega) _
 have hs1:w1.heap.size=rb+2:=by rw [← hw1,World.size_alloc,World.size_alloc,hrb]
 have hza:w1.heap[rb]?=some (.cells (snA sa ra rn rc ga gn gc) 25 (0,0)):=by
  rw [← hw1,Below.heap_alloc _ _ _ (by rw [World.size_alloc]; omega),← hrb];exact heap_alloc_new w _
 have hzr:w1.heap[rb+1]?=some (.cells #[.int .i64 0,.int .i64 0,.int .i64 0,.int .i64 0,.int .i64 0,.string ⟨#[]⟩,.slice none 0 0,.int .i64 0,.int .i64 0,.slice none 0 0] 25 (0,0)):=by
  have h:=heap_alloc_new (w.alloc (.cells (snA sa ra rn rc ga gn gc) 25)) (.cells #[.int .i64 0,.int .i64 0,.int .i64 0,.int .i64 0,.int .i64 0,.string ⟨#[]⟩,.slice none 0 0,.int .i64 0,.int .i64 0,.slice none 0 0] 25);rw [World.size_alloc,hw1,hrb] at h;exact h
 have HCk:=hDx (ncheck_any sa ra rn rc ga gn gc w1 (hA.belowAll (by rw [hrb]; exact hb1)) hAB);have HA:=hDx hA;have HAB:=hDx hAB;have HTt:=hDx hT;have HRb:=hDx hrb;have HW1:=hDx hw1;have HB1:=hDx hb1;have HS1:=hDx hs1;have HZA1:=hDx hza;have HZR1:=hDx hzr;have HKp:Hid (∀ w4 w5,Below rb w w4→w4.heap[rb]?=some (.cells (snA sa ra rn rc ga gn gc) 25 (0,0))→w4.heap[rb+1]?=some (.cells #[.int .i64 0,.int .i64 0,.int .i64 0,.int .i64 0,.int .i64 0,.string ⟨#[]⟩,.slice none 0 0,.int .i64 0,.int .i64 0,.slice none 0 0] 25 (0,0))→Below w4.heap.size w4 w5→Below rb w w5∧w5.heap[rb]?=some (.cells (snA sa ra rn rc ga gn gc) 25 (0,0))∧w5.heap[rb+1]?=some (.cells #[.int .i64 0,.int .i64 0,.int .i64 0,.int .i64 0,.int .i64 0,.string ⟨#[]⟩,.slice none 0 0,.int .i64 0,.int .i64 0,.slice none 0 0] 25 (0,0))):=hDx (fun w4 w5 b h1 h2 hb=>by
  have hlt:=(gSx.1 h1).1;have hlt2:=(gSx.1 h2).1;exact ⟨b.trans (hb.mono (by omega)),(hb.block _ hlt).trans h1,(hb.block _ hlt2).trans h2⟩)
 obtain ⟨c0,c1,c2,c3,c4,c5,c6,c7,c8,c9⟩ := ten_cells hza;clear hP hA hAB hT hrb hw1 b1 hb1 hs1 hza hzr;unfold snA at HW1 HCk;unfold snA
 go_enter Tryd.func17,Tryd.ntmps17
 go_upto_region 1 with fail
 rw [HW1.out,HRb.out]
 go_wp2_with fail
 refine HCk.out.mono ?_;rintro e w2 ⟨rfl,hb2⟩;obtain ⟨hbw2,hza2,hzr2⟩ := HKp.out w1 w2 HB1.out HZA1.out HZR1.out hb2;clear c0 c1 c2 c3 c4 c5 c6 c7 c8 c9 hb2 HCk;by_cases hma:MayN sa
 rotate_left
 · have hap:applyN sa t.data.toList=(emptyN,1):=by unfold applyN; rw [if_pos hma]
   have hck:((chkN sa:Nat):Int)=1:=by unfold chkN; rw [if_neg hma]; rfl
   rw [hck];have hbw:=hbw2;clear hck hma;have hz9:=zeroSnap;have hz0:=hzr2;obtain ⟨d0,d1,d2,d3,d4,d5,d6,d7,d8,d9⟩ : _:=ten_cells (s:=emptyN) (ra:=none) (rn:=0) (rc:=0) (ga:=none) (gn:=0) (gc:=0) hz0;unfold emptyN at d0 d1 d2 d3 d4 d5 d7 d8;simp only at d0 d1 d2 d3 d4 d5 d6 d7 d8 d9;have f0:=frozen_block hz0 0;have f1:=frozen_block hz0 1;have f2:=frozen_block hz0 2;have f3:=frozen_block hz0 3;have f4:=frozen_block hz0 4;have f5:=frozen_block hz0 5;have f6:=frozen_block hz0 6;have f7:=frozen_block hz0 7;have f8:=frozen_block hz0 8;have f9:=frozen_block hz0 9
   have hend:Hid (P (.returned (.tuple #[.agg #[.int .i64 0,.int .i64 0,.int .i64 0,.int .i64 0,.int .i64 0,.string ⟨#[]⟩,.slice none 0 0,.int .i64 0,.int .i64 0,.slice none 0 0],.int .i64 1])) ((((((((((w2.setCell ⟨rb+1,0,none⟩ (.int .i64 0)).setCell ⟨rb+1,1,none⟩ (.int .i64 0)).setCell ⟨rb+1,2,none⟩ (.int .i64 0)).setCell ⟨rb+1,3,none⟩ (.int .i64 0)).setCell ⟨rb+1,4,none⟩ (.int .i64 0)).setCell ⟨rb+1,5,none⟩ (.string ⟨#[]⟩)).setCell ⟨rb+1,6,none⟩ (.slice none 0 0)).setCell ⟨rb+1,7,none⟩ (.int .i64 0)).setCell ⟨rb+1,8,none⟩ (.int .i64 0)).setCell ⟨rb+1,9,none⟩ (.slice none 0 0))):=hDx (by
    rw [← HP.out,hap];have hg:∀ (u:World) (o:Nat) (x:Value),u.grownBy (u.setCell ⟨rb+1,o,none⟩ x) (some (rb+1)):=fun u o x=>grown_set u (rb+1) o x
    have gg:w2.grownBy ((((((((((w2.setCell ⟨rb+1,0,none⟩ (.int .i64 0)).setCell ⟨rb+1,1,none⟩ (.int .i64 0)).setCell ⟨rb+1,2,none⟩ (.int .i64 0)).setCell ⟨rb+1,3,none⟩ (.int .i64 0)).setCell ⟨rb+1,4,none⟩ (.int .i64 0)).setCell ⟨rb+1,5,none⟩ (.string ⟨#[]⟩)).setCell ⟨rb+1,6,none⟩ (.slice none 0 0)).setCell ⟨rb+1,7,none⟩ (.int .i64 0)).setCell ⟨rb+1,8,none⟩ (.int .i64 0)).setCell ⟨rb+1,9,none⟩ (.slice none 0 0)) (some (rb+1)):=(grown_trans (grown_trans (grown_trans (grown_trans (grown_trans (grown_trans (grown_trans (grown_trans (grown_trans (hg w2 0 _) (hg _ 1 _)) (hg _ 2 _)) (hg _ 3 _)) (hg _ 4 _)) (hg _ 5 _)) (hg _ 6 _)) (hg _ 7 _)) (hg _ 8 _)) (hg _ 9 _));refine ⟨none,0,0,none,0,0,rfl,zero_in _,?_⟩;rw [HRb.out];exact hbw.trans ((Below.refl rb w2).grown gg (by have:=(gSx.1 hz0).1; omega) (fun q e=>by have:=Option.some.inj e; omega)))
   clear hz0 hap hbw
   go_wp2_with fail
   refine bodyPost_ret (v:=.tuple #[.agg #[.int .i64 0,.int .i64 0,.int .i64 0,.int .i64 0,.int .i64 0,.string ⟨#[]⟩,.slice none 0 0,.int .i64 0,.int .i64 0,.slice none 0 0],.int .i64 1]) (by rw [results_cell_tmp rfl]; go_simp) rfl ?_;exact hend.out
 have hck:((chkN sa:Nat):Int)=0:=by unfold chkN; rw [if_pos hma]; rfl
 rw [hck];clear hck;have HMa:=hDx hma;have HOf:=hDx (of_any t ht w2);have HZA2:=hDx hza2;have HZR2:=hDx hzr2;have HBw2:=hDx hbw2;clear hma hza2 hzr2 hbw2
 go_wp2_with fail
 refine HOf.out.mono ?_;rintro e w3 ⟨rfl,hi3,hw3⟩;obtain ⟨p,hp⟩ : ∃ p,w2.heap.size=p:=⟨_,rfl⟩;rw [hp] at hi3 ⊢;have hb23:Below w2.heap.size w2 w3:=by rw [hw3]; exact (Below.refl _ _).alloc (Nat.le_refl _) _
 obtain ⟨hbw3,hza3,hzr3⟩ := HKp.out w2 w3 HBw2.out HZA2.out HZR2.out hb23;have HPr:Hid (rb+1<p):=hDx (by rw [← hp]; exact (gSx.1 HZR2.out).1);have HRd:=hDx (dread_any p (t.data.toList,0) w3 hi3 (fun h=>absurd rfl h));have HOk:=hDx (readD_ok (t.data.toList,0));have hpl3:p<w3.heap.size:=by obtain ⟨x,h1,-⟩ := hi3; exact h1.lt
 have HPl3:=hDx hpl3;have HZA3:=hDx hza3;have HZR3:=hDx hzr3;have HBw3:=hDx hbw3;clear hi3 hw3 hp hb23 hbw3 hza3 hzr3 hpl3 HOf HZA2 HZR2 HBw2
 go_wp2_with fail
 refine HRd.out.mono ?_;rintro e w4 ⟨mb,ya,yn,yc,rfl,hi4,hg4,hit4,ho4,hmb4⟩;have hrd:applyN sa t.data.toList=if endS (readD (t.data.toList,0)).1.st.1 (readD (t.data.toList,0)).1.st.2≠0 then (emptyN,endS (readD (t.data.toList,0)).1.st.1 (readD (t.data.toList,0)).1.st.2) else if (readD (t.data.toList,0)).2.1≠Go.Proofs.YtagolklnjhpbdaaDoor.S.sumOf (packN sa) then (emptyN,7) else uponN (readD (t.data.toList,0)).2.2 (readD (t.data.toList,0)).1.l sa:=by
  show applyN sa t.data.toList=_;unfold applyN;rw [if_neg (by simpa using HMa.out)]
 obtain ⟨⟨m,cu,s⟩,hq⟩ : ∃ q,readD (t.data.toList,0)=q:=⟨_,rfl⟩;rw [hq] at hrd hi4 hit4 ho4 HOk ⊢;simp only at hrd hi4 hit4 ho4 HOk ⊢;obtain ⟨er,her⟩ : ∃ er,endS m.st.1 m.st.2=er:=⟨_,rfl⟩;rw [her] at hrd;obtain ⟨cb,hcb⟩ : ∃ cb,w4.heap.size=cb:=⟨_,rfl⟩;obtain ⟨w5,hw5⟩ : ∃ w5,w4.alloc (.cells (chA cu s ya yn yc mb) 92)=w5:=⟨_,rfl⟩;have hb45:Below w4.heap.size w4 w5:=by rw [← hw5]; exact (Below.refl _ _).alloc (Nat.le_refl _) _
 have hzc5:w5.heap[cb]?=some (.cells (chA cu s ya yn yc mb) 92 (0,0)):=by rw [← hw5,← hcb]; exact heap_alloc_new w4 _
 have hza4:=(hg4.block rb (gSx.1 HZA3.out).1 (fun e=>by have:=Option.some.inj e; have:=HPr.out; omega)).trans HZA3.out;have hzr4:=(hg4.block (rb+1) (gSx.1 HZR3.out).1 (fun e=>by have:=Option.some.inj e; have:=HPr.out; omega)).trans HZR3.out;have hbw4:Below rb w w4:=HBw3.out.grown hg4 (by have:=HPr.out; have:=HPl3.out; omega) (fun q e=>by have:=Option.some.inj e; have:=HPr.out; omega);obtain ⟨hbw5,hza5,hzr5⟩ := HKp.out w4 w5 hbw4 hza4 hzr4 hb45;have hi5:=inst_below hi4 hb45;have hE:=end_any p m.st.1 m.st.2 w5 hi5;rw [her] at hE;have HE:=hDx hE;have HIt5:Hid (m.st.2=0→∃ it,m.l=it.map imR∧ItsAt mb it w5):=hDx (fun h0=>by
  obtain ⟨it,h1,h2⟩ := hit4 h0;exact ⟨it,h1,h2.below hb45⟩)
 have HO5:=hDx (ho4.belowAll hb45);have HZA5:=hDx hza5;have HZR5:=hDx hzr5;have HBw5:=hDx hbw5;have HZC5:=hDx hzc5;have HW5:=hDx hw5;have HCb:=hDx hcb;have HRd0:=hDx hrd;have HMb:Hid (rb+1≤mb):=hDx (by have:=HPl3.out; have:=HPr.out; omega);have HEr:=hDx her;unfold chA at HW5;unfold chA;clear hi4 hg4 hit4 ho4 hmb4 hq hrd her hcb hw5 hb45 hzc5 hza4 hzr4 hbw4 hbw5 hza5 hzr5 hi5 hE HRd
 go_upto_region 5 with fail
 rw [HW5.out,HCb.out]
 go_wp2_with fail
 refine HE.out.mono ?_;rintro e w6 ⟨rfl,rfl⟩;clear HE;by_cases he:er=0
 rotate_left
 · have hap:applyN sa t.data.toList=(emptyN,er):=by rw [HRd0.out,if_pos he]
   have q1:((er:Int) != 0)=true:=by rw [bne_iff_ne]; omega
   have q2:((er:Int) == 0)=false:=by rw [beq_eq_false_iff_ne]; omega
   have q3:decide (er=0)=false:=decide_eq_false he;have hbw:=HBw5.out;clear he;have hz9:=zeroSnap;have hz0:=HZR5.out;obtain ⟨d0,d1,d2,d3,d4,d5,d6,d7,d8,d9⟩ : _:=ten_cells (s:=emptyN) (ra:=none) (rn:=0) (rc:=0) (ga:=none) (gn:=0) (gc:=0) hz0;unfold emptyN at d0 d1 d2 d3 d4 d5 d7 d8;simp only at d0 d1 d2 d3 d4 d5 d6 d7 d8 d9;have f0:=frozen_block hz0 0;have f1:=frozen_block hz0 1;have f2:=frozen_block hz0 2;have f3:=frozen_block hz0 3;have f4:=frozen_block hz0 4;have f5:=frozen_block hz0 5;have f6:=frozen_block hz0 6;have f7:=frozen_block hz0 7;have f8:=frozen_block hz0 8;have f9:=frozen_block hz0 9
   have hend:Hid (P (.returned (.tuple #[.agg #[.int .i64 0,.int .i64 0,.int .i64 0,.int .i64 0,.int .i64 0,.string ⟨#[]⟩,.slice none 0 0,.int .i64 0,.int .i64 0,.slice none 0 0],.int .i64 (er:Int)])) ((((((((((w5.setCell ⟨rb+1,0,none⟩ (.int .i64 0)).setCell ⟨rb+1,1,none⟩ (.int .i64 0)).setCell ⟨rb+1,2,none⟩ (.int .i64 0)).setCell ⟨rb+1,3,none⟩ (.int .i64 0)).setCell ⟨rb+1,4,none⟩ (.int .i64 0)).setCell ⟨rb+1,5,none⟩ (.string ⟨#[]⟩)).setCell ⟨rb+1,6,none⟩ (.slice none 0 0)).setCell ⟨rb+1,7,none⟩ (.int .i64 0)).setCell ⟨rb+1,8,none⟩ (.int .i64 0)).setCell ⟨rb+1,9,none⟩ (.slice none 0 0))):=hDx (by
    rw [← HP.out,hap];have hg:∀ (u:World) (o:Nat) (x:Value),u.grownBy (u.setCell ⟨rb+1,o,none⟩ x) (some (rb+1)):=fun u o x=>grown_set u (rb+1) o x
    have gg:w5.grownBy ((((((((((w5.setCell ⟨rb+1,0,none⟩ (.int .i64 0)).setCell ⟨rb+1,1,none⟩ (.int .i64 0)).setCell ⟨rb+1,2,none⟩ (.int .i64 0)).setCell ⟨rb+1,3,none⟩ (.int .i64 0)).setCell ⟨rb+1,4,none⟩ (.int .i64 0)).setCell ⟨rb+1,5,none⟩ (.string ⟨#[]⟩)).setCell ⟨rb+1,6,none⟩ (.slice none 0 0)).setCell ⟨rb+1,7,none⟩ (.int .i64 0)).setCell ⟨rb+1,8,none⟩ (.int .i64 0)).setCell ⟨rb+1,9,none⟩ (.slice none 0 0)) (some (rb+1)):=(grown_trans (grown_trans (grown_trans (grown_trans (grown_trans (grown_trans (grown_trans (grown_trans (grown_trans (hg w5 0 _) (hg _ 1 _)) (hg _ 2 _)) (hg _ 3 _)) (hg _ 4 _)) (hg _ 5 _)) (hg _ 6 _)) (hg _ 7 _)) (hg _ 8 _)) (hg _ 9 _));refine ⟨none,0,0,none,0,0,rfl,zero_in _,?_⟩;rw [HRb.out];exact hbw.trans ((Below.refl rb w5).grown gg (by have:=(gSx.1 hz0).1; omega) (fun q e=>by have:=Option.some.inj e; omega)))
   clear hz0 hap hbw
   go_wp2_with fail
   refine bodyPost_ret (v:=.tuple #[.agg #[.int .i64 0,.int .i64 0,.int .i64 0,.int .i64 0,.int .i64 0,.string ⟨#[]⟩,.slice none 0 0,.int .i64 0,.int .i64 0,.slice none 0 0],.int .i64 (er:Int)]) (by rw [results_cell_tmp rfl]; go_simp) rfl ?_;exact hend.out
 subst he;obtain ⟨b0,hb0⟩ : ∃ b0,w5.heap.size=b0:=⟨_,rfl⟩;obtain ⟨Sm,hSm⟩ : ∃ Sm:Int,((Go.Proofs.YtagolklnjhpbdaaDoor.S.sumOf (packN sa):Nat):Int)=Sm:=⟨_,rfl⟩;have HLt:Hid (cb<b0∧rb<b0∧b0≤w5.heap.size):=hDx (by
  have h1:=(gSx.1 HZC5.out).1;have h2:=(gSx.1 HZA5.out).1;omega)
 have HBv:Hid (∀ v,Below b0 w5 v→Below rb w v):=hDx (fun v h=>HBw5.out.trans (h.mono (Nat.le_of_lt HLt.out.2.1)));have HSu:Hid (∀ v,Below b0 w5 v→Calls Tryd.prog 33 #[.agg (snA sa ra rn rc ga gn gc)] v fun e w'=>e=.returned (.int .i64 Sm)∧Below v.heap.size v w'):=hDx (fun v h=>by
  rw [← hSm];exact nsum_any sa ra rn rc ga gn gc v (HA.out.belowAll (by rw [HRb.out]; exact HBv.out v h)) HAB.out (Go.Proofs.YtagolklnjhpbdaaDoor.S.tab_of HTt.out (by rw [HRb.out]; exact HBv.out v h)))
 unfold snA at HSu;have HZC:=HZC5;unfold chA at HZC;have HZA:=HZA5;have HB0:=hDx hb0;have HSm:=hDx hSm;clear hb0 hSm
 go_upto_region 8 with fail
 refine wp_region_due [] [0,0,0,0,0] (by kernel_rfl) (fun _ _ u=>Below b0 w5 u) (fun _ _=>True) (ApOk rb cb (cu:Int) Sm sa ra rn rc ga gn gc) (by rfl) (by kernel_rfl) (by kernel_rfl) (by kernel_rfl) (by kernel_rfl) ?hcong ?hOk ?hop ?hdone ?h0
 case hcong=>exact fun k f f2 u hs hst=>hst
 case hOk=>intro i u w1 w2 h hr; unfold ApOk at h ⊢; split <;> first | exact True.intro | exact h
 case h0=>exact (Below.refl _ _).drew
 case hop =>
  refine ⟨?_,?_,?_,?_,?_,trivial⟩
  · intro k z v hk hst hag hdep;refine .inl ⟨rfl,fun K hK=>?_⟩;have d7:z.tmps.getD 7 undef=.pointer (some ⟨cb,0,none⟩):=hag.2.2 7 (by kernel_rfl);have e7:=gEx d7;have HSt:=hDx hst;clear hdep hag hst;go_simp;exact hK _ _ trivial rfl HSt.out
  · intro k z v hk hst hag hdep;refine .inl ⟨rfl,fun K hK=>?_⟩;have d23:z.tmps.getD 23 undef=.pointer (some ⟨cb,0,none⟩):=hdep ⟨0,.data⟩ (by simp) rfl _ _ rfl rfl;have e23:=gEx d23;have hzc:v.heap[cb]?=some (.cells #[.int .i64 (cu:Int),.int .i64 s.k,.int .i64 s.w,.int .i64 s.h,.int .i64 s.x,.int .i64 s.y,.string s.t,.slice none 0 0,.int .i64 s.n,.int .i64 s.c,.slice ya yn yc,.map (some mb)] 92 (0,0)):=((show Below b0 w5 v from hst).block cb HLt.out.1).trans HZC.out;obtain ⟨x0,x1,x2,x3,x4,x5,x6,x7,x8,x9,x10,x11⟩ := twelve_cells hzc;clear hzc;have HSt:=hDx hst;clear hdep hag hst;go_simp;exact hK _ _ trivial rfl HSt.out
  · intro k z v hk hst hag hdep;refine .inl ⟨rfl,fun K hK=>?_⟩;have d2:z.tmps.getD 2 undef=.pointer (some ⟨rb,0,none⟩):=hag.2.2 2 (by kernel_rfl);have e2:=gEx d2;have hza:v.heap[rb]?=some (.cells (snA sa ra rn rc ga gn gc) 25 (0,0)):=((show Below b0 w5 v from hst).block rb HLt.out.2.1).trans HZA.out;obtain ⟨x0,x1,x2,x3,x4,x5,x6,x7,x8,x9⟩ := ten_cells hza;clear hza;have HSt:=hDx hst;clear hdep hag hst;go_simp;exact hK _ _ trivial rfl HSt.out
  · intro k z v hk hst hag hdep;refine .inl ⟨rfl,fun K hK=>?_⟩;have d25:z.tmps.getD 25 undef=.agg #[.int .i64 sa.k,.int .i64 sa.w,.int .i64 sa.h,.int .i64 sa.x,.int .i64 sa.y,.string sa.t,.slice ra rn rc,.int .i64 sa.n,.int .i64 sa.c,.slice ga gn gc]:=hdep ⟨2,.data⟩ (by simp) rfl _ _ rfl rfl;have e25:=gEx d25;have hbv:Below b0 w5 v:=hst;have HC:=hDx (HSu.out v hbv);have HSt:=hDx hbv;clear hdep hag hst hbv;go_simp;refine HC.out.mono ?_;rintro e w' ⟨rfl,hbq⟩;exact hK _ _ trivial rfl (HSt.out.trans (hbq.mono (Nat.le_trans HLt.out.2.2 HSt.out.size)))
  · intro k z v hk hst hag hdep;refine .inl ⟨rfl,fun K hK=>?_⟩;have d24:z.tmps.getD 24 undef=.int .i64 cu:=hdep ⟨1,.data⟩ (by simp) rfl _ _ rfl rfl;have e24:=gEx d24;have d26:z.tmps.getD 26 undef=.int .i64 Sm:=hdep ⟨3,.data⟩ (by simp) rfl _ _ rfl rfl;have e26:=gEx d26;have HSt:=hDx hst;clear hdep hag hst;go_simp;exact hK _ _ trivial rfl HSt.out
 case hdone =>
  intro z v hst hag hok;have hst:Below b0 w5 v:=hst;have d27:z.tmps.getD 27 undef=.bool ((cu:Int) != Sm):=hok 4 _ 27 rfl rfl;have HV:=hDx hst;clear hst;obtain ⟨uu,hu,hzz⟩ := agree_frame [23,24,25,26,27] rfl hag;have e27:=(hu 27).trans d27;subst hzz;simp only [List.foldl_cons,List.foldl_nil];rw [e27];clear e27 d27 hu hag hok
  try dsimp only [Exit.then]
  simp only [List.setIfInBounds_toArray,List.set_cons_succ,List.set_cons_zero];generalize uu 23=u23',uu 24=u24',uu 25=u25',uu 26=u26';clear uu;rename_i K hK;refine hK _ _ ?_;have hzr9:=(HV.out.block (rb+1) (by have h1:=(gSx.1 HZR5.out).1; have:=HB0.out; omega)).trans HZR5.out;have HZR9:=hDx hzr9;clear hzr9;by_cases hs:(cu:Int)=Sm
  rotate_left
  · have hap:applyN sa t.data.toList=(emptyN,7):=by rw [HRd0.out,if_neg (by decide),if_pos (fun e=>hs (by rw [← HSm.out,e]))]
    have q1:((cu:Int) != Sm)=true:=by rw [bne_iff_ne]; exact hs
    rw [q1];have hbw:=HBv.out v HV.out;clear hs;have hz9:=zeroSnap;have hz0:=HZR9.out;obtain ⟨d0,d1,d2,d3,d4,d5,d6,d7,d8,d9⟩ : _:=ten_cells (s:=emptyN) (ra:=none) (rn:=0) (rc:=0) (ga:=none) (gn:=0) (gc:=0) hz0;unfold emptyN at d0 d1 d2 d3 d4 d5 d7 d8;simp only at d0 d1 d2 d3 d4 d5 d6 d7 d8 d9;have f0:=frozen_block hz0 0;have f1:=frozen_block hz0 1;have f2:=frozen_block hz0 2;have f3:=frozen_block hz0 3;have f4:=frozen_block hz0 4;have f5:=frozen_block hz0 5;have f6:=frozen_block hz0 6;have f7:=frozen_block hz0 7;have f8:=frozen_block hz0 8;have f9:=frozen_block hz0 9
    have hend:Hid (P (.returned (.tuple #[.agg #[.int .i64 0,.int .i64 0,.int .i64 0,.int .i64 0,.int .i64 0,.string ⟨#[]⟩,.slice none 0 0,.int .i64 0,.int .i64 0,.slice none 0 0],.int .i64 7])) ((((((((((v.setCell ⟨rb+1,0,none⟩ (.int .i64 0)).setCell ⟨rb+1,1,none⟩ (.int .i64 0)).setCell ⟨rb+1,2,none⟩ (.int .i64 0)).setCell ⟨rb+1,3,none⟩ (.int .i64 0)).setCell ⟨rb+1,4,none⟩ (.int .i64 0)).setCell ⟨rb+1,5,none⟩ (.string ⟨#[]⟩)).setCell ⟨rb+1,6,none⟩ (.slice none 0 0)).setCell ⟨rb+1,7,none⟩ (.int .i64 0)).setCell ⟨rb+1,8,none⟩ (.int .i64 0)).setCell ⟨rb+1,9,none⟩ (.slice none 0 0))):=hDx (by
     rw [← HP.out,hap];have hg:∀ (u:World) (o:Nat) (x:Value),u.grownBy (u.setCell ⟨rb+1,o,none⟩ x) (some (rb+1)):=fun u o x=>grown_set u (rb+1) o x
     have gg:v.grownBy ((((((((((v.setCell ⟨rb+1,0,none⟩ (.int .i64 0)).setCell ⟨rb+1,1,none⟩ (.int .i64 0)).setCell ⟨rb+1,2,none⟩ (.int .i64 0)).setCell ⟨rb+1,3,none⟩ (.int .i64 0)).setCell ⟨rb+1,4,none⟩ (.int .i64 0)).setCell ⟨rb+1,5,none⟩ (.string ⟨#[]⟩)).setCell ⟨rb+1,6,none⟩ (.slice none 0 0)).setCell ⟨rb+1,7,none⟩ (.int .i64 0)).setCell ⟨rb+1,8,none⟩ (.int .i64 0)).setCell ⟨rb+1,9,none⟩ (.slice none 0 0)) (some (rb+1)):=(grown_trans (grown_trans (grown_trans (grown_trans (grown_trans (grown_trans (grown_trans (grown_trans (grown_trans (hg v 0 _) (hg _ 1 _)) (hg _ 2 _)) (hg _ 3 _)) (hg _ 4 _)) (hg _ 5 _)) (hg _ 6 _)) (hg _ 7 _)) (hg _ 8 _)) (hg _ 9 _));refine ⟨none,0,0,none,0,0,rfl,zero_in _,?_⟩;rw [HRb.out];exact hbw.trans ((Below.refl rb v).grown gg (by have:=(gSx.1 hz0).1; omega) (fun q e=>by have:=Option.some.inj e; omega)))
    clear hz0 hap hbw
    go_wp2_with fail
    refine bodyPost_ret (v:=.tuple #[.agg #[.int .i64 0,.int .i64 0,.int .i64 0,.int .i64 0,.int .i64 0,.string ⟨#[]⟩,.slice none 0 0,.int .i64 0,.int .i64 0,.slice none 0 0],.int .i64 7]) (by rw [results_cell_tmp rfl]; go_simp) rfl ?_;exact hend.out
  have q1:((cu:Int) != Sm)=false:=by rw [bne_eq_false_iff_eq]; exact hs
  rw [q1];have hap:applyN sa t.data.toList=uponN s m.l sa:=by rw [HRd0.out,if_neg (by decide),if_neg (by intro h; apply h; have h2:=HSm.out; rw [← hs] at h2; omega)]
  have h0:m.st.2=0:=(endS_zero HEr.out).1;obtain ⟨it,hml,hits⟩ := HIt5.out h0;have hb5v:Below w5.heap.size w5 v:=by rw [HB0.out]; exact HV.out
  obtain ⟨a9,c9',e9,h3,h3b,h4⟩ := (HO5.out.belowAll hb5v).shape;injection e9 with e91 e92 e93
  subst e91 e92 e93;have hp9:(it.map (fun x=>x.1)).Pairwise (·<·):=by
   have h5:=HOk.out.2.1 h0;rw [hml,List.map_map] at h5;exact h5
  have HUp:=upon_any cu s sa ya _ yc mb it ra rn rc ga gn gc v (HA.out.belowAll (by rw [HRb.out]; exact HBv.out v HV.out)) HAB.out h3 h4 HOk.out.2.2.2 (hits.below hb5v) hp9 (fun x hx=>HOk.out.1 (imR x) (by rw [hml]; exact List.mem_map_of_mem hx)) HOk.out.2.2.1 (rb+1) ⟨HMb.out,by have h1:=(gSx.1 HZR9.out).1; omega⟩ (fun b o e=>by have h5:=(h3b b o e).1; have:=HPl3.out; have:=HPr.out; omega);rw [← hml] at HUp;obtain ⟨⟨q1',q2'⟩,hq⟩ : ∃ q,uponN s m.l sa=q:=⟨_,rfl⟩;rw [hq] at HUp hap;have HUp:=hDx HUp;have HAp:=hDx hap;have hzc9:=(HV.out.block cb HLt.out.1).trans HZC.out;have hza9:=(HV.out.block rb HLt.out.2.1).trans HZA.out;obtain ⟨x0,x1,x2,x3,x4,x5,x6,x7,x8,x9,x10,x11⟩ := twelve_cells hzc9;obtain ⟨y0,y1,y2,y3,y4,y5,y6,y7,y8,y9⟩ := ten_cells hza9;unfold snA chA at HUp;clear hs hap h0 hml hits hb5v h3 h3b h4 hp9 hq hzc9 hza9
  go_wp2_with fail
  refine HUp.out.mono ?_;rintro e w9 ⟨qa,qn,qc,za,zn,zc,rfl,hin,hb9,vs,m9,ho9,hr9,hk9,hv9,hz9b⟩;unfold snA;simp only;have hz0:=(hb9.block (rb+1) (gSx.1 HZR9.out).1).trans HZR9.out;have hbw9:Below rb w w9:=(HBv.out v HV.out).trans (hb9.mono (by have h1:=(gSx.1 HZR9.out).1; omega));obtain ⟨d0,d1,d2,d3,d4,d5,d6,d7,d8,d9⟩ : _:=ten_cells (s:=emptyN) (ra:=none) (rn:=0) (rc:=0) (ga:=none) (gn:=0) (gc:=0) hz0;unfold emptyN at d0 d1 d2 d3 d4 d5 d7 d8;simp only at d0 d1 d2 d3 d4 d5 d6 d7 d8 d9;have f0:=frozen_block hz0 0;have f1:=frozen_block hz0 1;have f2:=frozen_block hz0 2;have f3:=frozen_block hz0 3;have f4:=frozen_block hz0 4;have f5:=frozen_block hz0 5;have f6:=frozen_block hz0 6;have f7:=frozen_block hz0 7;have f8:=frozen_block hz0 8;have f9:=frozen_block hz0 9
  have hend:Hid (P (.returned (.tuple #[.agg #[.int .i64 q1'.k,.int .i64 q1'.w,.int .i64 q1'.h,.int .i64 q1'.x,.int .i64 q1'.y,.string q1'.t,.slice qa qn qc,.int .i64 q1'.n,.int .i64 q1'.c,.slice za zn zc],.int .i64 (q2':Int)])) ((((((((((w9.setCell ⟨rb+1,0,none⟩ (.int .i64 q1'.k)).setCell ⟨rb+1,1,none⟩ (.int .i64 q1'.w)).setCell ⟨rb+1,2,none⟩ (.int .i64 q1'.h)).setCell ⟨rb+1,3,none⟩ (.int .i64 q1'.x)).setCell ⟨rb+1,4,none⟩ (.int .i64 q1'.y)).setCell ⟨rb+1,5,none⟩ (.string q1'.t)).setCell ⟨rb+1,6,none⟩ (.slice qa qn qc)).setCell ⟨rb+1,7,none⟩ (.int .i64 q1'.n)).setCell ⟨rb+1,8,none⟩ (.int .i64 q1'.c)).setCell ⟨rb+1,9,none⟩ (.slice za zn zc))):=hDx (by
   rw [← HP.out,HAp.out];have hg:∀ (u:World) (o:Nat) (x:Value),u.grownBy (u.setCell ⟨rb+1,o,none⟩ x) (some (rb+1)):=fun u o x=>grown_set u (rb+1) o x
   have gg:w9.grownBy ((((((((((w9.setCell ⟨rb+1,0,none⟩ (.int .i64 q1'.k)).setCell ⟨rb+1,1,none⟩ (.int .i64 q1'.w)).setCell ⟨rb+1,2,none⟩ (.int .i64 q1'.h)).setCell ⟨rb+1,3,none⟩ (.int .i64 q1'.x)).setCell ⟨rb+1,4,none⟩ (.int .i64 q1'.y)).setCell ⟨rb+1,5,none⟩ (.string q1'.t)).setCell ⟨rb+1,6,none⟩ (.slice qa qn qc)).setCell ⟨rb+1,7,none⟩ (.int .i64 q1'.n)).setCell ⟨rb+1,8,none⟩ (.int .i64 q1'.c)).setCell ⟨rb+1,9,none⟩ (.slice za zn zc)) (some (rb+1)):=(grown_trans (grown_trans (grown_trans (grown_trans (grown_trans (grown_trans (grown_trans (grown_trans (grown_trans (hg w9 0 _) (hg _ 1 _)) (hg _ 2 _)) (hg _ 3 _)) (hg _ 4 _)) (hg _ 5 _)) (hg _ 6 _)) (hg _ 7 _)) (hg _ 8 _)) (hg _ 9 _));have hr10:=hr9.moved gg.size (fun x hx p o e hl=>gg.block p hl (fun e2=>hv9 x hx p o e (Option.some.inj e2)));have ho10:=ho9.kept gg (fun q hq e=>by have:=(ho9.ownBlock q hq).1; have:=Option.some.inj e; omega)
   refine ⟨qa,qn,qc,za,zn,zc,rfl,⟨ho10.rowsL hr10 (fun x _ _ b o _ hm=>by cases hm) (fun p hp=>by cases hp),PairsIn.blocks hin.beg gg.size (fun b off ha _=>gg.block b (by assumption) (fun e2=>hz9b b off ha (Option.some.inj e2))),hin.nil⟩,?_⟩;rw [HRb.out];exact hbw9.trans ((Below.refl rb w9).grown gg (by have:=(gSx.1 hz0).1; omega) (fun q e=>by have:=Option.some.inj e; omega)))
  clear hz0 hbw9 hin hb9 ho9 hr9 hk9 hv9 hz9b HUp
  go_wp2_with fail
  refine bodyPost_ret (v:=.tuple #[.agg #[.int .i64 q1'.k,.int .i64 q1'.w,.int .i64 q1'.h,.int .i64 q1'.x,.int .i64 q1'.y,.string q1'.t,.slice qa qn qc,.int .i64 q1'.n,.int .i64 q1'.c,.slice za zn zc],.int .i64 (q2':Int)]) (by rw [results_cell_tmp rfl]; go_simp) rfl ?_;exact hend.out
end Go.Proofs.YtagolklnjhpbdaaDoor.K
