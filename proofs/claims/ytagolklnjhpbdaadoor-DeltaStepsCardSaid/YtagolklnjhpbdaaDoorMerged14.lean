import Derived.Test.YtagolklnjhpbdaaDoorMerged0
import Derived.Test.YtagolklnjhpbdaaDoorMerged13
import Derived.Test.YtagolklnjhpbdaaDoorMerged1
import Derived.Test.YtagolklnjhpbdaaDoorRows
import Derived.WalkKit
import Derived.WalkLawsBesides
import Derived.WalkSpells
import Derived.Outline
import Derived.Lib.Hide
import Derived.Below
import Derived.IntWalk
import Derived.OwnWalk
import Derived.RangeFuncBox
import Derived.Laws.OwnMore
import Derived.Test.YtagolklnjhpbdaaDoorMerged11
namespace Go.Proofs.YtagolklnjhpbdaaDoor.K
open Go.RowKit Go.Proofs.YtagolklnjhpbdaaDoor.I
theorem zero_in (w:World):SnIn .i32 none 0 0 none 0 0 emptyN w:=⟨⟨⟨[],⟨rfl,Nat.le_refl _,by decide,.inl rfl⟩,RowsV.nil _ _,fun u hu=>by cases hu⟩,fun _=>rfl,fun h=>absurd rfl h⟩,⟨rfl,Nat.le_refl _,by decide,.inl rfl⟩,fun _=>rfl⟩
theorem ten_cells {s:Sn} {ra:Option Addr} {rn rc:Nat} {ga:Option Addr} {gn gc b:Nat} {T:TypeId} {w:World} (h:w.heap[b]?=some (.cells (snA s ra rn rc ga gn gc) T (0,0))):w.cell? ⟨b,0,none⟩=some (.int .i64 s.k)∧w.cell? ⟨b,1,none⟩=some (.int .i64 s.w)∧w.cell? ⟨b,2,none⟩=some (.int .i64 s.h)∧w.cell? ⟨b,3,none⟩=some (.int .i64 s.x)∧w.cell? ⟨b,4,none⟩=some (.int .i64 s.y)∧w.cell? ⟨b,5,none⟩=some (.string s.t)∧w.cell? ⟨b,6,none⟩=some (.slice ra rn rc)∧w.cell? ⟨b,7,none⟩=some (.int .i64 s.n)∧w.cell? ⟨b,8,none⟩=some (.int .i64 s.c)∧w.cell? ⟨b,9,none⟩=some (.slice ga gn gc):=by
 refine ⟨?_,?_,?_,?_,?_,?_,?_,?_,?_,?_⟩ <;> (rw [cell_block h]; rfl)
set_option maxRecDepth 100000 in
set_option maxHeartbeats 4000000 in
theorem nempty_any (s:Sn) (ra:Option Addr) (rn rc:Nat) (ga:Option Addr) (gn gc:Nat) (w:World) (h:SnIn .i32 ra rn rc ga gn gc s w) (hB:SnB s) :
    Calls Tryd.prog 59 #[.agg (snA s ra rn rc ga gn gc)] w fun e w'=>e=.returned (.bool (decide (s=emptyN)))∧Below w.heap.size w w':=by
 obtain ⟨rb,hrb⟩ : ∃ rb,w.heap.size=rb:=⟨_,rfl⟩;rw [hrb];obtain ⟨w1,hw1⟩ : ∃ w1,w.alloc (.cells (snA s ra rn rc ga gn gc) 25)=w1:=⟨_,rfl⟩;have hb1:Below rb w w1:=by rw [← hw1,← hrb]; exact (Below.refl _ _).alloc (Nat.le_refl _) _
 have h1:w1.heap[rb]?=some (.cells (snA s ra rn rc ga gn gc) 25 (0,0)):=by rw [← hw1,← hrb]; exact heap_alloc_new w _
 have HS:=hDx (nsame_any s emptyN ra rn rc ga gn gc none 0 0 none 0 0 w1 (h.belowAll (by rw [hrb]; exact hb1)) (zero_in w1) hB SnB.empty);obtain ⟨D,hD⟩ : ∃ D,decide (s=emptyN)=D:=⟨_,rfl⟩;rw [hD] at HS ⊢;obtain ⟨c0,c1,c2,c3,c4,c5,c6,c7,c8,c9⟩ := ten_cells (h1);have HW1:=hDx hw1;have HRb:=hDx hrb;have HB1:=hDx hb1;clear hD h hB h1 hw1 hb1 hrb;unfold snA at HS HW1 ⊢
 go_enter Tryd.func59,Tryd.ntmps59
 go_upto_region 1 with fail
 rw [HW1.out,HRb.out]
 go_wp2_with fail
 refine HS.out.mono ?_;rintro e w2 ⟨rfl,hb2⟩;have HE:Hid (Below rb w w2):=hDx (HB1.out.trans (hb2.mono (by have:=HB1.out.size; have:=HRb.out; omega)));clear hb2 c0 c1 c2 c3 c4 c5 c6 c7 c8 c9
 go_wp2
 go_ret
 exact ⟨rfl,HE.out⟩
def chkN (s:Sn):Nat:=if MayN s then 0 else 1
set_option maxRecDepth 100000 in
set_option maxHeartbeats 16000000 in
theorem ncheck_any (s:Sn) (ra:Option Addr) (rn rc:Nat) (ga:Option Addr) (gn gc:Nat) (w:World) (h:SnIn .i32 ra rn rc ga gn gc s w) (hB:SnB s) :
    Calls Tryd.prog 27 #[.agg (snA s ra rn rc ga gn gc)] w fun e w'=>e=.returned (.int .i64 (chkN s:Int))∧Below w.heap.size w w':=by
 obtain ⟨rb,hrb⟩ : ∃ rb,w.heap.size=rb:=⟨_,rfl⟩;rw [hrb];obtain ⟨w1,hw1⟩ : ∃ w1,w.alloc (.cells (snA s ra rn rc ga gn gc) 25)=w1:=⟨_,rfl⟩;have hb1:Below rb w w1:=by rw [← hw1,← hrb]; exact (Below.refl _ _).alloc (Nat.le_refl _) _
 have h1:w1.heap[rb]?=some (.cells (snA s ra rn rc ga gn gc) 25 (0,0)):=by rw [← hw1,← hrb]; exact heap_alloc_new w _
 obtain ⟨P,hP⟩ : ∃ P:Ending→World→Prop,(fun e w'=>e=.returned (.int .i64 (chkN s:Int))∧Below rb w w')=P:=⟨_,rfl⟩;rw [hP];have HKp:Hid (∀ w2 w3,Below rb w w2→w2.heap[rb]?=some (.cells (snA s ra rn rc ga gn gc) 25 (0,0))→Below w2.heap.size w2 w3→Below rb w w3∧w3.heap[rb]?=some (.cells (snA s ra rn rc ga gn gc) 25 (0,0))):=hDx (fun w2 w3 b h2 hb=>by
  have hlt:=(gSx.1 h2).1;exact ⟨b.trans (hb.mono (by omega)),(hb.block rb hlt).trans h2⟩)
 have HIn:Hid (∀ w2,Below rb w w2→SnIn .i32 ra rn rc ga gn gc s w2):=hDx (fun w2 b=>h.belowAll (by rw [hrb]; exact b));have HB:=hDx hB;have HEnd0:Hid (MayN s→∀ w2,Below rb w w2→P (.returned (.int .i64 0)) w2):=hDx (fun hm w2 b=>by rw [← hP]; exact ⟨by unfold chkN; rw [if_pos hm]; rfl,b⟩);have HEnd1:Hid (¬ MayN s→∀ w2,Below rb w w2→P (.returned (.int .i64 1)) w2):=hDx (fun hm w2 b=>by rw [← hP]; exact ⟨by unfold chkN; rw [if_neg hm]; rfl,b⟩);have H1:Hid (w1.heap[rb]?=some (.cells (snA s ra rn rc ga gn gc) 25 (0,0))):=hDx h1;obtain ⟨c0,c1,c2,c3,c4,c5,c6,c7,c8,c9⟩ := ten_cells (h1);have HW1:=hDx hw1;have HRb:=hDx hrb;have HB1:=hDx hb1;have HE:=nempty_any s ra rn rc ga gn gc w1 (HIn.out w1 hb1) hB;clear hP h hB h1 hw1 hb1 hrb;obtain ⟨A,hA⟩ : ∃ A,snA s ra rn rc ga gn gc=A:=⟨_,rfl⟩
 have hA2:A=#[.int .i64 s.k,.int .i64 s.w,.int .i64 s.h,.int .i64 s.x,.int .i64 s.y,.string s.t,.slice ra rn rc,.int .i64 s.n,.int .i64 s.c,.slice ga gn gc]:=by rw [← hA]; rfl
 have HSt:=hDx (fun w=>stands_any s ra rn rc ga gn gc w);have HCt:=hDx (fun w=>counts_any s ra rn rc ga gn gc w);have HSh:Hid (∀ w2,Below rb w w2→Calls Tryd.prog 62 #[.agg A] w2 fun e w'=>e=.returned (.bool (decide (Shows s)))∧Below w2.heap.size w2 w'):=hDx (fun w2 b=>by rw [← hA]; exact shows_any s ra rn rc ga gn gc w2 (HIn.out w2 b).rows HB.out.rng (fun r hr=>by have:=HB.out.cells r hr; omega));have HBe:Hid (∀ w2,Below rb w w2→Calls Tryd.prog 63 #[.agg A] w2 fun e w'=>e=.returned (.bool (decide (Begins s)))∧Below w2.heap.size w2 w'):=hDx (fun w2 b=>by rw [← hA]; exact begins_any s ra rn rc ga gn gc w2 (HIn.out w2 b).beg HB.out.brng);rw [hA] at HE HKp H1 HW1 HSt HCt ⊢;rw [hA2] at HE HKp H1 HW1 HSt HCt HSh HBe ⊢
 have HCells:Hid (∀ w2:World,w2.heap[rb]?=some (.cells (#[.int .i64 s.k,.int .i64 s.w,.int .i64 s.h,.int .i64 s.x,.int .i64 s.y,.string s.t,.slice ra rn rc,.int .i64 s.n,.int .i64 s.c,.slice ga gn gc]) 25 (0,0))→w2.cell? ⟨rb,0,none⟩=some (.int .i64 s.k)∧w2.cell? ⟨rb,1,none⟩=some (.int .i64 s.w)∧w2.cell? ⟨rb,2,none⟩=some (.int .i64 s.h)∧w2.cell? ⟨rb,3,none⟩=some (.int .i64 s.x)∧w2.cell? ⟨rb,4,none⟩=some (.int .i64 s.y)∧w2.cell? ⟨rb,5,none⟩=some (.string s.t)∧w2.cell? ⟨rb,6,none⟩=some (.slice ra rn rc)∧w2.cell? ⟨rb,7,none⟩=some (.int .i64 s.n)∧w2.cell? ⟨rb,8,none⟩=some (.int .i64 s.c)∧w2.cell? ⟨rb,9,none⟩=some (.slice ga gn gc)):=hDx (fun w2 h2=>ten_cells (s:=s) h2);clear hA hA2 HIn HB;by_cases m0:s=emptyN
 · rw [decide_eq_true m0] at HE;have HE':=hDx HE;have hend:=hDx (HEnd0.out (.inl m0));clear HE m0
   go_enter Tryd.func27,Tryd.ntmps27
   go_upto_region 1 with fail
   rw [HW1.out,HRb.out]
   go_wp2_with fail
   refine HE'.out.mono ?_;rintro e w2 ⟨rfl,hb2⟩;obtain ⟨b2,h2⟩ := HKp.out w1 w2 HB1.out H1.out hb2;have hfin:=hend.out w2 b2;clear hb2 b2 h2 c0 c1 c2 c3 c4 c5 c6 c7 c8 c9
   go_wp2_with fail
   exact hfin
 rw [decide_eq_false m0] at HE;have HE':=hDx HE;have HMay:Hid (MayN s↔Stands s∧Counts s∧Shows s∧Begins s):=hDx ⟨fun h=>h.resolve_left m0,fun h=>.inr h⟩;clear HE m0
 go_enter Tryd.func27,Tryd.ntmps27
 go_upto_region 1 with fail
 rw [HW1.out,HRb.out]
 go_wp2_with fail
 refine HE'.out.mono ?_;rintro e w2 ⟨rfl,hb2⟩;obtain ⟨b2,h2⟩ := HKp.out w1 w2 HB1.out H1.out hb2;clear hb2 c0 c1 c2 c3 c4 c5 c6 c7 c8 c9 HE' HW1;obtain ⟨c0,c1,c2,c3,c4,c5,c6,c7,c8,c9⟩ := HCells.out w2 h2;have B2:=hDx b2;have H2:=hDx h2;have K2:=HSt.out w2;clear b2 h2;by_cases m2:Stands s
 rotate_left
 · rw [decide_eq_false m2] at K2;have hend:=hDx (HEnd1.out (by rw [HMay.out]; exact fun h=>m2 h.1));have K2':=hDx K2;clear K2 m2
   go_wp2_with fail
   refine K2'.out.mono ?_;rintro e w3 ⟨rfl,hb3⟩;obtain ⟨b3,h3⟩ := HKp.out w2 w3 B2.out H2.out hb3;have hfin:=hend.out w3 b3;clear hb3 b3 h3 c0 c1 c2 c3 c4 c5 c6 c7 c8 c9
   go_wp2_with fail
   exact hfin
 rw [decide_eq_true m2] at K2;have K2':=hDx K2;have M2:=hDx m2;clear K2 m2
 go_wp2_with fail
 refine K2'.out.mono ?_;rintro e w3 ⟨rfl,hb3⟩;obtain ⟨b3,h3⟩ := HKp.out w2 w3 B2.out H2.out hb3;clear hb3 c0 c1 c2 c3 c4 c5 c6 c7 c8 c9;obtain ⟨c0,c1,c2,c3,c4,c5,c6,c7,c8,c9⟩ := HCells.out w3 h3;have B3:=hDx b3;have H3:=hDx h3;have K3:=HCt.out w3;clear b3 h3;by_cases m3:Counts s
 rotate_left
 · rw [decide_eq_false m3] at K3;have hend:=hDx (HEnd1.out (by rw [HMay.out]; exact fun h=>m3 h.2.1));have K3':=hDx K3;clear K3 m3
   go_wp2_with fail
   refine K3'.out.mono ?_;rintro e w4 ⟨rfl,hb4⟩;obtain ⟨b4,h4⟩ := HKp.out w3 w4 B3.out H3.out hb4;have hfin:=hend.out w4 b4;clear hb4 b4 h4 c0 c1 c2 c3 c4 c5 c6 c7 c8 c9
   go_wp2_with fail
   exact hfin
 rw [decide_eq_true m3] at K3;have K3':=hDx K3;have M3:=hDx m3;clear K3 m3
 go_wp2_with fail
 refine K3'.out.mono ?_;rintro e w4 ⟨rfl,hb4⟩;obtain ⟨b4,h4⟩ := HKp.out w3 w4 B3.out H3.out hb4;clear hb4 c0 c1 c2 c3 c4 c5 c6 c7 c8 c9;obtain ⟨c0,c1,c2,c3,c4,c5,c6,c7,c8,c9⟩ := HCells.out w4 h4;have B4:=hDx b4;have H4:=hDx h4;have K4:=HSh.out w4 b4;clear b4 h4;by_cases m4:Shows s
 rotate_left
 · rw [decide_eq_false m4] at K4;have hend:=hDx (HEnd1.out (by rw [HMay.out]; exact fun h=>m4 h.2.2.1));have K4':=hDx K4;clear K4 m4
   go_wp2_with fail
   refine K4'.out.mono ?_;rintro e w5 ⟨rfl,hb5⟩;obtain ⟨b5,h5⟩ := HKp.out w4 w5 B4.out H4.out hb5;have hfin:=hend.out w5 b5;clear hb5 b5 h5 c0 c1 c2 c3 c4 c5 c6 c7 c8 c9
   go_wp2_with fail
   exact hfin
 rw [decide_eq_true m4] at K4;have K4':=hDx K4;have M4:=hDx m4;clear K4 m4
 go_wp2_with fail
 refine K4'.out.mono ?_;rintro e w5 ⟨rfl,hb5⟩;obtain ⟨b5,h5⟩ := HKp.out w4 w5 B4.out H4.out hb5;clear hb5 c0 c1 c2 c3 c4 c5 c6 c7 c8 c9;obtain ⟨c0,c1,c2,c3,c4,c5,c6,c7,c8,c9⟩ := HCells.out w5 h5;have B5:=hDx b5;have H5:=hDx h5;have K5:=HBe.out w5 b5;clear b5 h5;by_cases m5:Begins s
 rotate_left
 · rw [decide_eq_false m5] at K5;have hend:=hDx (HEnd1.out (by rw [HMay.out]; exact fun h=>m5 h.2.2.2));have K5':=hDx K5;clear K5 m5
   go_wp2_with fail
   refine K5'.out.mono ?_;rintro e w6 ⟨rfl,hb6⟩;obtain ⟨b6,h6⟩ := HKp.out w5 w6 B5.out H5.out hb6;have hfin:=hend.out w6 b6;clear hb6 b6 h6 c0 c1 c2 c3 c4 c5 c6 c7 c8 c9
   go_wp2_with fail
   exact hfin
 rw [decide_eq_true m5] at K5;have K5':=hDx K5;have M5:=hDx m5;clear K5 m5
 go_wp2_with fail
 refine K5'.out.mono ?_;rintro e w6 ⟨rfl,hb6⟩;obtain ⟨b6,h6⟩ := HKp.out w5 w6 B5.out H5.out hb6;clear hb6 c0 c1 c2 c3 c4 c5 c6 c7 c8 c9;have hfin:=HEnd0.out (by rw [HMay.out]; exact ⟨M2.out,M3.out,M4.out,M5.out⟩) w6 b6;clear b6 h6
 go_wp2_with fail
 exact hfin
end Go.Proofs.YtagolklnjhpbdaaDoor.K

namespace Go.Proofs.YtagolklnjhpbdaaDoor.K
open Go.RowKit Go.Proofs.YtagolklnjhpbdaaDoor.I
theorem runs_exist:∀ (N:Nat) (l:List Cel),l.length≤N→AllC okC l→∀ pr:Option Cel,(pr≠none→l.head?≠pr)→∃ R,expR R=l∧Good pr R:=by
 intro N
 induction N with
 | zero =>
  intro l hN _ pr _;obtain rfl:l=[]:=List.eq_nil_of_length_eq_zero (by omega);exact ⟨[],rfl,trivial⟩
 | succ N ih =>
  intro l hN hok pr hpr;cases l with
  | nil=>exact ⟨[],rfl,trivial⟩
  | cons c l =>
   obtain ⟨n,t,h3,h4,h5⟩ := head_run c l;have hpr':pr≠some c:=fun e=>hpr (by rw [e]; simp) (by rw [e]; rfl)
   obtain ⟨R,e1,e2⟩ := ih t (by simp only [List.length_cons] at hN; omega) (fun d hd=>hok d (by rw [h3]; exact List.mem_append_right _ hd)) (some c) (fun _=>h4);refine ⟨(n+1,c)::R,?_,⟨by simp,hok c List.mem_cons_self,hpr',e2⟩⟩;unfold expR at e1 ⊢;rw [List.flatMap_cons,e1,h3]
theorem expR_append (A B:List (Nat × Cel)):expR (A++B)=expR A++expR B:=List.flatMap_append ..
theorem runsB_append (A B:List (Nat × Cel)):runsB (A++B)=runsB A++runsB B:=List.flatMap_append ..
theorem runsB_len:∀ R:List (Nat × Cel),(runsB R).length≤36*R.length
  | []=>by simp [runsB]
  | q::R=>by
   have h1:=runsB_len R;have h2:=runB_len q.1 q.2;unfold runsB at h1 ⊢;rw [List.flatMap_cons,List.length_append,List.length_cons];omega
theorem good_len:∀ (R:List (Nat × Cel)) (pr:Option Cel),Good pr R→R.length≤(expR R).length
  | [],_,_=>Nat.zero_le _
  | q::R,pr,h=>by
   have h1:=good_len R _ h.2.2.2;have h2:=h.1;unfold expR at h1 ⊢;rw [List.flatMap_cons,List.length_append,List.length_replicate,List.length_cons];omega
theorem good_drop:∀ (R:List (Nat × Cel)) (pr:Option Cel) (j:Nat),Good pr R→∃ pr',Good pr' (R.drop j)
  | R,pr,0,h=>⟨pr,h⟩
  | [],pr,j+1,h=>⟨pr,by simpa using h⟩
  | q::R,pr,j+1,h=>good_drop R (some q.2) j h.2.2.2
def atR (R:List (Nat × Cel)) (j:Nat):Nat:=(expR (R.take j)).length
theorem atR_end (R:List (Nat × Cel)):atR R R.length=(expR R).length:=by unfold atR; rw [List.take_length]
theorem run_at {R:List (Nat × Cel)} {pr:Option Cel} (h:Good pr R) {j:Nat} {n:Nat} {c:Cel} (hj:R[j]?=some (n,c)) :
    1≤n∧okC c∧atR R (j+1)=atR R j+n∧atR R j+n≤(expR R).length∧(∀ i,i<n→(expR R)[atR R j+i]?=some c)∧(expR R)[atR R j+n]?≠some c:=by
 have hjl:j<R.length:=(List.getElem?_eq_some_iff.1 hj).1;have hd:R.drop j=(n,c)::R.drop (j+1):=by
  rw [List.drop_eq_getElem_cons hjl]
  congr 1
  exact (List.getElem?_eq_some_iff.1 hj).2
 obtain ⟨pr',hg⟩ := good_drop R pr j h;rw [hd] at hg;obtain ⟨h1,h2,h3,h4⟩ := hg;simp only at h1 h2 h4;have he:expR R=expR (R.take j)++(List.replicate n c++expR (R.drop (j+1))):=by
  have e1:R=R.take j++((n,c)::R.drop (j+1)):=by rw [← hd,List.take_append_drop]
  have e2:expR ((n,c)::R.drop (j+1))=List.replicate n c++expR (R.drop (j+1)):=by unfold expR; rw [List.flatMap_cons]
  rw [← e2,← expR_append,← e1]
 have ha:atR R (j+1)=atR R j+n:=by
  unfold atR;rw [List.take_add_one,hj,expR_append,List.length_append];show _+(expR [(n,c)]).length=_;unfold expR;simp
 refine ⟨h1,h2,ha,?_,?_,?_⟩
 · rw [he];unfold atR;simp only [List.length_append,List.length_replicate];omega
 · intro i hi;rw [he];unfold atR;rw [List.getElem?_append_right (by omega),List.getElem?_append_left (by rw [List.length_replicate]; omega),List.getElem?_replicate,if_pos (by omega)]
 · rw [he];unfold atR;rw [List.getElem?_append_right (by omega),List.getElem?_append_right (by rw [List.length_replicate]; omega),List.length_replicate,show (expR (R.take j)).length+n - (expR (R.take j)).length - n=0 by omega];have:=good_head h4 (by simp);rw [← List.head?_eq_getElem?];exact this
end Go.Proofs.YtagolklnjhpbdaaDoor.K

namespace Go.Proofs.YtagolklnjhpbdaaDoor.W
open Go.RowKit
def KeepL (l:List Nat) (A B:World):Prop:=A.heap.size≤B.heap.size∧∀ b ∈ l,b<A.heap.size→B.heap[b]?=A.heap[b]?
theorem keepL_t {l:List Nat} {A B C:World} (h:KeepL l A B) (k:KeepL l B C):KeepL l A C:=⟨Nat.le_trans h.1 k.1,fun b hb hlt=>(k.2 b hb (Nat.lt_of_lt_of_le hlt h.1)).trans (h.2 b hb hlt)⟩
theorem keepL_b {l:List Nat} {w:World} (hl:∀ b ∈ l,b<w.heap.size) (W:World) (i:Nat) (o o':Obj) (hi:w.heap.size≤i) (_:W.heap[i]?=some o) (_:o.isCells=false) (_:o.isWalk=false):KeepL l W (W.putObj i o') :=
 ⟨by simp,fun b hb _=>World.putObj_heap_other (by have:=hl b hb; omega)⟩
theorem KeepL.of_below {l:List Nat} {A B:World} {n:Nat} (h:Below n A B) (hl:∀ b ∈ l,b<n):KeepL l A B:=⟨h.size,fun b hb _=>h.block b (hl b hb)⟩
theorem KeepL.refl (l:List Nat) (A:World):KeepL l A A:=⟨Nat.le_refl _,fun _ _ _=>rfl⟩
theorem KeepL.setCell {l:List Nat} (W:World) {B:Nat} (h:B ∉ l) (j:Nat) (v:Value):KeepL l W (W.setCell ⟨B,j,none⟩ v) :=
 ⟨(KeepsWalks.setCell W _ v).size,fun b hb _=>Below.heap_setCell W ⟨B,j,none⟩ v b (fun e=>h (by simp at e; rw [← e]; exact hb))⟩
theorem KeepL.drew {l:List Nat} {A B:World} (h:KeepL l A B):KeepL l A B.drew:=h
theorem grownBy_of_below {w w':World} (h:Below w.heap.size w w'):w.grownBy w' none:=⟨h.os,h.tape,h.output,h.size,fun k hk _=>h.block k hk⟩
def blkOf (a:Option Addr) (zs:List Int):List Nat:=match a,zs with
  | some a,_::_=>[a.block]
  | _,_=>[]
theorem blkOf_sub {a:Option Addr} {zs ys:List Int} (h:ys≠[]→zs≠[]):∀ b ∈ blkOf a ys,b ∈ blkOf a zs:=by
 intro b hb;cases a with
 | none=>cases hb
 | some a =>
  cases ys with
  | nil=>cases hb
  | cons y ys =>
   cases zs with
   | nil=>exact absurd rfl (h (by simp))
   | cons z zs=>exact hb
theorem take_snoc (zs:List Int) (j:Nat) (h:j<zs.length):zs.take (j+1)=zs.take j++[zs.getD j 0]:=by
 rw [List.take_succ_eq_append_getElem h]; simp [List.getD_eq_getElem?_getD,h]
def IntsIn (a:Option Addr) (len:Nat) (zs:List Int) (w:World):Prop:=len=zs.length∧(zs=[]∨∃ b off,a=some ⟨b,off,none⟩∧b<w.heap.size∧∀ i,i<zs.length→w.cell? ⟨b,off+i,none⟩=some (.int .i64 (zs.getD i 0)))
theorem IntsIn.belowAll {a:Option Addr} {len:Nat} {zs:List Int} {w w':World} (h:IntsIn a len zs w) (hb:Below w.heap.size w w'):IntsIn a len zs w':=by
 refine ⟨h.1,h.2.imp id ?_⟩;rintro ⟨b,off,ha,hl,hi⟩;exact ⟨b,off,ha,Nat.lt_of_lt_of_le hl hb.size,fun i hi'=>(hb.cell (p:=⟨b,off+i,none⟩) hl).trans (hi i hi')⟩
abbrev inV (z:Int):Value:=.int .i64 z
theorem infoInt:(Tryd.prog.info? 3).map (fun i=>(i.zero,i.size,i.bytes))=some (some (.int .i64 0),1,8):=by kernel_rfl
def OwnI (base:Nat) (v:Value) (zs:List Int) (w:World):Prop:=w.ownsRow base 3 1 v zs.length (zs.map inV)
theorem OwnI.nil (base:Nat) (w:World):OwnI base (.slice none 0 0) [] w:=World.ownsRow_nil _ _ _ _
theorem OwnI.belowAll {base:Nat} {v:Value} {zs:List Int} {w w':World} (h:OwnI base v zs w) (hb:Below w.heap.size w w'):OwnI base v zs w' :=
 World.ownsRow.kept h (grownBy_of_below hb) (by
  cases hv:v.ownBlock with
  | none=>exact .inl rfl
  | some k=>exact .inr (by simp))
theorem OwnI.shape {base:Nat} {v:Value} {zs:List Int} {w:World} (h:OwnI base v zs w):∃ a c,v=.slice a zs.length c∧IntsIn a zs.length zs w∧(∀ b ∈ blkOf a zs,base≤b∧b<w.heap.size)∧(a=none→c=0)∧(zs.length:Int)≤c∧(c:Int)≤9223372036854775807:=by
 rcases h.2 with ⟨rfl,h0⟩ | ⟨g,cap,cur,rfl,hbase,hg,hc,hm,hs,ht⟩
 · refine ⟨none,0,by rw [h0],⟨rfl,.inl (List.length_eq_zero_iff.1 h0)⟩,(fun b hb=>by cases hb),fun _=>rfl,by omega,by omega⟩
 · have hlt:=(gSx.1 hg).1;refine ⟨some ⟨g,0,none⟩,cap,rfl,⟨rfl,.inr ⟨g,0,rfl,hlt,fun i hi=>?_⟩⟩,fun b hb=>?_,(fun e=>by cases e),by omega,by unfold maxLen at hm; omega⟩
   · have h1:w.cell? ⟨g,0+i,none⟩=cur[i]?:=by rw [Nat.zero_add]; simp [World.cell?,hg]
     rw [h1];have h2:(cur.toList.take (zs.length*1))[i]?=some (inV (zs.getD i 0)):=by rw [ht]; simp [hi]
     rw [List.getElem?_take] at h2
     split at h2
     · simpa using h2
     · cases h2
   · have hb':=blkOf_sub (zs:=[0]) (fun _=>by simp) b hb;simp [blkOf] at hb';subst hb';exact ⟨hbase,hlt⟩
theorem append_ints_run (base:Nat) (v:Value) (xs:List Int) (a:Option Addr) (m c:Nat) (zs:List Int) (w:World) (hown:OwnI base v xs w) (h:IntsIn a m zs w) (hnil:a=none→c=0) (hx:(xs.length:Int)≤1000000) (hz:(zs.length:Int)≤1000000) (hbase:base≤w.heap.size) :
    ∃ v' w',(Builtin.append_ #[37,37] 37 #[v,.slice a m c]).run Tryd.prog w=.ok v' w'∧OwnI base v' (xs++zs) w'∧w.grownBy w' v.ownBlock:=by
 obtain ⟨i0,hi,hz0,hz1,hz2⟩ := info_parts infoInt;obtain ⟨hl,hcase⟩ := h;cases a with
 | none =>
  have hc:=hnil rfl;subst hc;have h0:zs=[]:=by
   rcases hcase with h0 | ⟨b,off,e,_⟩
   · exact h0
   · cases e
  subst h0;obtain rfl:m=0:=hl;refine ⟨v,w,run_append_owned_none w base _ _ _ i0 1 Tryd.underlying37 hi v _ _ hown,by rw [List.append_nil]; exact hown,⟨rfl,rfl,rfl,Nat.le_refl _,fun _ _ _=>rfl⟩⟩
 | some ad =>
  obtain ⟨v',w',hr,h2,h3,_⟩ := run_append_own w base 37 37 3 i0 (.int .i64 0) 1 8 Tryd.underlying37 hi hz0 hz1 hz2 rfl (by decide) v xs.length (xs.map inV) hown ad m c (zs.map inV) (by rw [List.length_map,hl]; omega)
    (fun j u hj=>by
     rcases hcase with h0 | ⟨b,off,e,hb,hI⟩
     · rw [h0] at hj; simp at hj
     · cases e;have hadd:((⟨b,off,none⟩ : Addr).add j)=⟨b,off+j,none⟩ := by unfold Addr.add; split <;> simp_all
       have hlt:j<zs.length:=by have:=(List.getElem?_eq_some_iff.1 hj).1; simpa using this
       rw [hadd,hI j hlt];simp [hlt] at hj ⊢;exact hj)
    (fun u hu=>by obtain ⟨z,_,rfl⟩ := List.mem_map.1 hu; rfl) (by unfold maxLen; omega) (by omega) hbase
  refine ⟨v',w',hr,?_,h3⟩;unfold OwnI;rw [List.length_append,List.map_append,← hl];exact h2
theorem ints_one (w:World) (z:Int) (t:TypeId):IntsIn (some ⟨w.heap.size,0,none⟩) 1 [z] (w.alloc (.cells #[.int .i64 z] t)) :=
 ⟨rfl,.inr ⟨w.heap.size,0,rfl,by simp,fun i hi=>by
  obtain rfl:i=0:=by simpa using hi
  rw [World.cell?_alloc_new]; rfl⟩⟩
theorem OwnI.ownBlock {base:Nat} {v:Value} {zs:List Int} {w:World} (h:OwnI base v zs w):∀ k,v.ownBlock=some k→base≤k:=fun k hk=>(World.ownsRow.lt h k hk).1
theorem OwnI.alloc {base:Nat} {v:Value} {zs:List Int} {w:World} (h:OwnI base v zs w) (o:Obj):OwnI base v zs (w.alloc o):=World.ownsRow.alloc h o
end Go.Proofs.YtagolklnjhpbdaaDoor.W

namespace Go.Proofs.YtagolklnjhpbdaaDoor.K
open Go.RowKit Go.Proofs.YtagolklnjhpbdaaDoor.I
set_option maxRecDepth 100000 in
set_option maxHeartbeats 2000000 in
theorem counted_any (x s p:Int) (hx:0≤x) (hs:0≤s) (hp:0≤p) (w:World):Calls Tryd.prog 87 #[.agg #[.int .i32 x,.int .i64 s,.int .i64 p]] w fun e w'=>e=.returned (.agg #[.int .i32 x,.int .i64 s,.int .i64 p])∧Below w.heap.size w w':=by
 have m1:max x 0=x:=by omega
 have m2:max s 0=s:=by omega
 have m3:max p 0=p:=by omega
 go_enter Tryd.func87,Tryd.ntmps87
 go_wp2
 refine bodyPost_ret (v:=.agg #[.int .i32 x,.int .i64 s,.int .i64 p]) (by rw [results_cell rfl]; go_simp) rfl ?_;exact ⟨rfl,((Below.refl _ _).alloc (Nat.le_refl _) _).alloc (by simp) _⟩
def blkC (a:Option Addr) (l:List Cel):List Nat:=if l=[] then [] else match a with | some ad=>[ad.block] | none=>[]
def lookR (B:Nat) (a:Option Addr) (l:List Cel):List Nat:=B::blkC a l
structure LooksR (B:Nat) (a:Option Addr) (n c:Nat) (l:List Cel) (w:World):Prop where
 bl:Boxed w B 55 (.slice a n c)
 cl:CelsIn .i32 a n l w
theorem blkC_some {a:Option Addr} {l:List Cel} {b off:Nat} (hl:l≠[]) (ha:a=some ⟨b,off,none⟩):b ∈ blkC a l:=by
 subst ha;unfold blkC;rw [if_neg hl];simp
theorem LooksR.keep {B:Nat} {a:Option Addr} {n c:Nat} {l:List Cel} {w w':World} (h:LooksR B a n c l w) (hk:W.KeepL (lookR B a l) w w'):LooksR B a n c l w':=by
 refine ⟨(hk.2 B (by simp [lookR]) h.bl.lt).trans h.bl,?_⟩;by_cases hl:l=[]
 · exact ⟨h.cl.len,.inl hl⟩
 · exact h.cl.blocks hk.1 (fun b off e hlt=>hk.2 b (List.mem_cons_of_mem _ (blkC_some hl e)) hlt)
theorem LooksR.all {B:Nat} {a:Option Addr} {n c:Nat} {l:List Cel} {w:World} (h:LooksR B a n c l w):∀ b ∈ lookR B a l,b<w.heap.size:=by
 intro b hb;rcases List.mem_cons.1 hb with rfl | hb
 · exact h.bl.lt
 · unfold blkC at hb;by_cases hl:l=[]
   · rw [if_pos hl] at hb; cases hb
   · rw [if_neg hl] at hb;rcases h.cl.at_ with e | ⟨b',off,rfl,hlt,-⟩
     · exact absurd e hl
     · simp at hb; omega
theorem LooksR.below {B:Nat} {a:Option Addr} {n c:Nat} {l:List Cel} {w w':World} (h:LooksR B a n c l w) (hb:Below w.heap.size w w'):LooksR B a n c l w':=h.keep (W.KeepL.of_below hb h.all)
def RunsPost (a:Option Addr) (n c:Nat) (l:List Cel) (w:World) (e:Ending) (w':World):Prop :=
 e=.returned (.func (.func 86) #[] #[.pointer (some ⟨w.heap.size,0,none⟩)])∧LooksR w.heap.size a n c l w'∧Below w.heap.size w w'
theorem runs_any (a:Option Addr) (n c:Nat) (l:List Cel) (w:World) (h:CelsIn .i32 a n l w) :
    Calls Tryd.prog 67 #[.slice a n c] w (RunsPost a n c l w):=by
 have hb:Below w.heap.size w (w.alloc (.cells #[.slice a n c] 55)):=(Below.refl _ _).alloc (Nat.le_refl _) _;have hend:Hid (RunsPost a n c l w (.returned (.func (.func 86) #[] #[.pointer (some ⟨w.heap.size,0,none⟩)])) (w.alloc (.cells #[.slice a n c] 55))):=hDx ⟨rfl,⟨Boxed.new w 55 _,h.belowAll hb⟩,hb⟩;clear h hb
 go_enter Tryd.func67,Tryd.ntmps67
 go_wp2
 go_ret
 exact hend.out
end Go.Proofs.YtagolklnjhpbdaaDoor.K
