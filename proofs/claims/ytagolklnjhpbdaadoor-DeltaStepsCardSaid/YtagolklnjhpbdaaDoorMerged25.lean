import Derived.Test.YtagolklnjhpbdaaDoorMerged0
import Derived.Test.YtagolklnjhpbdaaDoorMerged19
import Derived.Test.YtagolklnjhpbdaaDoorMerged24
import Derived.Test.YtagolklnjhpbdaaDoorNPack
import Derived.Test.YtagolklnjhpbdaaDoorMerged21
import Derived.Test.YtagolklnjhpbdaaDoorMerged14
import Derived.RangeFuncRecord
import Derived.RangeFuncLeaves
import Derived.RangeFuncKeeps
import Derived.RangeFuncFrom
namespace Go.Proofs.YtagolklnjhpbdaaDoor.S
open Go.RowKit
end Go.Proofs.YtagolklnjhpbdaaDoor.S

namespace Go.Proofs.YtagolklnjhpbdaaDoor.K
open Go.RowKit Go.Proofs.YtagolklnjhpbdaaDoor.I
theorem packN_len (s:Sn):(packN s).length≤40000000:=by
 unfold packN;by_cases h:s≠emptyN∧MayN s
 · rw [if_pos h];obtain ⟨h1,h2,h3,h4⟩ := h.2.resolve_left h.1;have a1:=headB_len h2.2.2.2 h4.2;have a2:=rows_len s.R 1000 (fun r hr=>by have h5:=(h3.2 r hr).1; have h6:=h1.1.2; omega);have a3:s.R.length≤1000:=by have h5:=h3.1; have h6:=h1.2.1.2; omega
   unfold rawN;rw [List.length_append];omega
 · rw [if_neg h];exact Nat.zero_le _
set_option maxRecDepth 100000 in
set_option maxHeartbeats 4000000 in
theorem nsum_any (s:Sn) (ra:Option Addr) (rn rc:Nat) (ga:Option Addr) (gn gc:Nat) (w:World) (h:SnIn .i32 ra rn rc ga gn gc s w) (hB:SnB s) (hT:S.Tab w) :
    Calls Tryd.prog 33 #[.agg (snA s ra rn rc ga gn gc)] w fun e w'=>e=.returned (.int .i64 ((S.sumOf (packN s):Nat):Int))∧Below w.heap.size w w':=by
 obtain ⟨rb,hrb⟩ : ∃ rb,w.heap.size=rb:=⟨_,rfl⟩;obtain ⟨P,hP⟩ : ∃ P:Ending→World→Prop,(fun e w'=>e=.returned (.int .i64 ((S.sumOf (packN s):Nat):Int))∧Below w.heap.size w w')=P:=⟨_,rfl⟩;rw [hP];obtain ⟨w1,hw1⟩ : ∃ w1,w.alloc (.cells (snA s ra rn rc ga gn gc) 25)=w1:=⟨_,rfl⟩;have hb1:Below rb w w1:=by rw [← hw1,← hrb]; exact (Below.refl _ _).alloc (Nat.le_refl _) _
 have hz1:w1.heap[rb]?=some (.cells (snA s ra rn rc ga gn gc) 25 (0,0)):=by rw [← hw1,← hrb]; exact heap_alloc_new w _
 have HPk:=hDx (npack_any s ra rn rc ga gn gc w1 (h.belowAll (by rw [hrb]; exact hb1)) hB);obtain ⟨pk,hpk⟩ : ∃ t:ByteArray,(⟨(packN s).toArray⟩ : ByteArray)=t:=⟨_,rfl⟩;have hpl:pk.data.toList=packN s:=by rw [← hpk]
 have hps:(pk.size:Int)≤40000000:=by
  have h1:=packN_len s;rw [← hpl] at h1;have h2:pk.data.toList.length=pk.size:=rfl;omega
 rw [hpk] at HPk;have HEnd:Hid (∀ v,Below rb w v→P (.returned (.int .i64 ((S.sumOf pk.data.toList:Nat):Int))) v):=hDx (fun v hv=>by rw [← hP,hpl]; exact ⟨rfl,by rw [hrb]; exact hv⟩);have HT:=hDx hT;have HW1:=hDx hw1;have HRb:=hDx hrb;have HB1:=hDx hb1;obtain ⟨c0,c1,c2,c3,c4,c5,c6,c7,c8,c9⟩ := ten_cells hz1;have HSz:=hDx hps;clear hP hrb hw1 hb1 hz1 hpk hpl hps h hB hT;unfold snA at HW1 HPk;unfold snA
 go_enter Tryd.func33,Tryd.ntmps33
 go_upto_region 1 with fail
 rw [HW1.out,HRb.out]
 go_wp2_with fail
 refine HPk.out.mono ?_;rintro e w2 ⟨rfl,hb2⟩;obtain ⟨w3,hw3⟩ : ∃ w3,w2.alloc (.cells #[.string pk] 9)=w3:=⟨_,rfl⟩;have hb3:Below w2.heap.size w2 w3:=by rw [← hw3]; exact (Below.refl _ _).alloc (Nat.le_refl _) _
 have hn3:w3.heap[w2.heap.size]?=some (.cells #[.string pk] 9 (0,0)):=by rw [← hw3]; exact heap_alloc_new w2 _
 have hb13:Below rb w w3:=(HB1.out.trans (hb2.mono HB1.out.size |>.mono (by have:=HB1.out.size; have:=HRb.out; omega))).trans (hb3.mono (by have:=hb2.size; have:=HB1.out.size; have:=HRb.out; omega));have HO:=hDx (fun c=>S.of_one pk w2.heap.size c w3 (by rw [cell_block hn3]; rfl) (by have:=HSz.out; omega) (S.tab_of HT.out (show Below w.heap.size w w3 from by rw [HRb.out]; exact hb13)));have hend:=hDx (HEnd.out w3 hb13);have hsl:S.sumOf pk.data.toList<4294967296:=S.sumOf_lt _;obtain ⟨sv,hsv⟩ : ∃ v,S.sumOf pk.data.toList=v:=⟨_,rfl⟩;rw [hsv] at HO hend hsl;have hwr:IntKind.i64.wrap (sv:Int)=(sv:Int):=by rw [IntKind.wrap_i64]; omega
 have HW3:=hDx hw3;clear hb2 hb3 hn3 hb13 hw3 hsv c0 c1 c2 c3 c4 c5 c6 c7 c8 c9
 go_wp2_with (first | (go_at_call 68; rw [HW3.out]; refine (HO.out _).mono ?_; rintro e w' ⟨rfl,rfl⟩) | fail)
 exact hend.out
end Go.Proofs.YtagolklnjhpbdaaDoor.K

namespace Go.Proofs.YtagolklnjhpbdaaDoor.K
open Go.RowKit Go.Shelf Go.Proofs.YtagolklnjhpbdaaDoor.I
open Go.Proofs.YtagolklnjhpbdaaDoor.W (OwnI IntsIn inV infoInt)
attribute [local go_sem] Oper.semAt_some
theorem OwnI.movedD {base:Nat} {v:Value} {zs:List Int} {w w':World} (h:OwnI base v zs w) (hv:∀ q,v.ownBlock=some q→w'.heap[q]?=w.heap[q]?):OwnI base v zs w':=by
 refine ⟨h.1,?_⟩;rcases h.2 with h0 | ⟨g',c',cur,he,hbase,hgb,hc,hmx,hsz,ht⟩
 · exact .inl h0
 · exact .inr ⟨g',c',cur,he,hbase,(hv g' (by rw [he]; rfl)).trans hgb,hc,hmx,hsz,ht⟩
theorem OwnI.cellsD {base:Nat} {v:Value} {zs:List Int} {w:World} (h:OwnI base v zs w) {q:Nat} (hq:v.ownBlock=some q):base≤q∧q<w.heap.size∧∃ cs,w.heap[q]?=some (.cells cs 3 (0,0)):=by
 rcases h.2 with ⟨rfl,-⟩ | ⟨g',c',cur,rfl,hbase,hgb,-⟩
 · cases hq
 · obtain rfl:g'=q:=by simpa [Value.ownBlock] using hq
   exact ⟨hbase,(gSx.1 hgb).1,cur,hgb⟩
theorem OwnI.lowD {base b2:Nat} {v:Value} {zs:List Int} {w:World} (h:OwnI base v zs w) (hb:b2≤base):OwnI b2 v zs w:=by
 refine ⟨h.1,?_⟩;rcases h.2 with h0 | ⟨g',c',cur,he,hbase,hr⟩
 · exact .inl h0
 · exact .inr ⟨g',c',cur,he,Nat.le_trans hb hbase,hr⟩
def DfPost (sa sb:Sn) (ra:Option Addr) (rn rc:Nat) (ga:Option Addr) (gn gc:Nat) (ta:Option Addr) (tn tc:Nat) (ha:Option Addr) (hn hc:Nat) (w:World) (e:Ending) (w':World):Prop :=
 e=.returned (.func (.func 64) #[] #[.pointer (some ⟨w.heap.size+1,0,none⟩),.pointer (some ⟨w.heap.size,0,none⟩)])∧Below w.heap.size w w'∧w'.heap.size=w.heap.size+2 ∧
 w'.heap[w.heap.size]?=some (.cells (snA sa ra rn rc ga gn gc) 25 (0,0))∧w'.heap[w.heap.size+1]?=some (.cells (snA sb ta tn tc ha hn hc) 25 (0,0))
set_option maxRecDepth 100000 in
set_option maxHeartbeats 4000000 in
theorem dif_any (sa sb:Sn) (ra:Option Addr) (rn rc:Nat) (ga:Option Addr) (gn gc:Nat) (ta:Option Addr) (tn tc:Nat) (ha:Option Addr) (hn hc:Nat) (w:World) :
    Calls Tryd.prog 29 #[.agg (snA sa ra rn rc ga gn gc),.agg (snA sb ta tn tc ha hn hc)] w (DfPost sa sb ra rn rc ga gn gc ta tn tc ha hn hc w):=by
 obtain ⟨P,hP⟩ : ∃ P,DfPost sa sb ra rn rc ga gn gc ta tn tc ha hn hc w=P:=⟨_,rfl⟩;rw [hP];obtain ⟨w2,hw2⟩ : ∃ w2,(w.alloc (.cells (snA sa ra rn rc ga gn gc) 25)).alloc (.cells (snA sb ta tn tc ha hn hc) 25)=w2:=⟨_,rfl⟩;have b1:Below w.heap.size w (w.alloc (.cells (snA sa ra rn rc ga gn gc) 25)):=(Below.refl _ _).alloc (Nat.le_refl _) _;have hb:Below w.heap.size w w2:=by rw [← hw2]; exact b1.alloc (by rw [World.size_alloc]; omega) _
 have hs:w2.heap.size=w.heap.size+2:=by rw [← hw2,World.size_alloc,World.size_alloc]
 have hz1:w2.heap[w.heap.size]?=some (.cells (snA sa ra rn rc ga gn gc) 25 (0,0)):=by
  rw [← hw2,Below.heap_alloc _ _ _ (by rw [World.size_alloc]; omega)];exact heap_alloc_new w _
 have hz2:w2.heap[w.heap.size+1]?=some (.cells (snA sb ta tn tc ha hn hc) 25 (0,0)):=by
  have h:=heap_alloc_new (w.alloc (.cells (snA sa ra rn rc ga gn gc) 25)) (.cells (snA sb ta tn tc ha hn hc) 25);rw [World.size_alloc,hw2] at h;exact h
 have hend:Hid (P (.returned (.func (.func 64) #[] #[.pointer (some ⟨w.heap.size+1,0,none⟩),.pointer (some ⟨w.heap.size,0,none⟩)])) w2):=hDx (by rw [← hP]; exact ⟨rfl,hb,hs,hz1,hz2⟩);have HW2:=hDx hw2;clear hP b1 hb hs hz1 hz2 hw2;unfold snA at HW2;unfold snA
 go_enter Tryd.func29,Tryd.ntmps29
 go_wp2_with fail
 rw [HW2.out];exact hend.out
theorem dif_stops {Pr:Ro→Prop} (n:Nat) (hn0:2≤n) (sa sb:Sn) (ra:Option Addr) (rn rc:Nat) (ga:Option Addr) (gn gc:Nat) (ta:Option Addr) (tn tc:Nat) (ha:Option Addr) (hn hc:Nat) (us:List Rv) (W:World) (p q:Nat)
    (hA:SnIn .i32 ra rn rc ga gn gc sa W) (hAB:SnB sa) (hU:RvsIn ta tn tc us W) (hV:RowsV .i32 us sb.R W) (hBB:SnB sb) (cs:List (ItD Pr W)) (hcs:cs.map Subtype.val=difZ sa 0 sb.R us) (w:World)
    (hL:DfAt sa sb ra rn rc ga gn gc ta tn tc ha hn hc W p q w) :
    SeqStopsK Fence.wide n Tryd.prog 64 #[.pointer (some ⟨q,0,none⟩),.pointer (some ⟨p,0,none⟩)] encD (KpD W.heap.size p q) (fun ys=>ys=cs) (fun pre=>∃ j,j≤cs.length∧pre=cs.take j) cs.length w:=fun l J Jx V hVb hJ _ hY h0 =>
 dif1_in n hn0 l sa sb ra rn rc ga gn gc ta tn tc ha hn hc us W p q hA hAB hU hV hBB cs hcs J Jx V hJ hY (hL.below hVb) h0
def ChI (W:World) (pb base:Nat) (zs:List Int) (V:World):Prop:=∃ v,Boxed V pb 37 v∧OwnI base v zs V∧Below W.heap.size W V∧base≤V.heap.size
theorem ChI.own {α:Type} {W:World} {pb base B:Nat} (f:α→List Int) (hW:W.heap.size≤B):OwnFrom B (fun s V=>ChI W pb base (f s) V):=fun s V V' row h hg hr=>by
 obtain ⟨v,h1,h2,h3,h4⟩ := h;have hne:∀ (q:Nat) (cs:Array Value) (T:TypeId),V.heap[q]?=some (.cells cs T (0,0))→V'.heap[q]?=V.heap[q]?:=fun q cs T hq=>hg.block q (gSx.1 hq).1 (fun e=>by
  obtain ⟨-,o,ho,hc⟩ := hr q e.symm;rw [hq] at ho;cases ho;cases hc)
 refine ⟨v,(hne pb _ _ h1).trans h1,OwnI.movedD h2 (fun q hq=>?_),h3.grown hg h3.size (fun r hr'=>Nat.le_trans hW (hr r hr').1),Nat.le_trans h4 hg.size⟩;obtain ⟨-,-,cs,hc⟩ := OwnI.cellsD h2 hq;exact hne q cs _ hc
def ChPost (sa sb:Sn) (w:World) (e:Ending) (w':World):Prop:=∃ v,e=.returned v∧OwnI w.heap.size v ((difL sa 0 sb.R).map fun x=>(x.1:Int)) w'∧Below w.heap.size w w'
set_option maxRecDepth 100000 in
theorem wpListIn_append_d {F:Fence} {nF:Nat} {ops:Array Oper} {rest:List Oper} {o:Oper} {z:Act} {w:World} {Q:Exit→Act→World→Prop} (hgd:o.guard=none) (s x:Operand)
    (ho:o.op=.call { callee:=.builtin .append,args:=#[s,x],argTypes:=#[37,37] }) (hty:o.type=37)
    (base:Nat) (v:Value) (xs:List Int) (a:Option Addr) (m c:Nat) (zs:List Int) (hs:z.eval s=v) (hxv:z.eval x=.slice a m c) (hown:OwnI base v xs w) (h:IntsIn a m zs w) (hnil:a=none→c=0) (hx:(xs.length:Int)≤1000000) (hz:(zs.length:Int)≤1000000) (hbase:base≤w.heap.size)
    (hK:∀ v' w',OwnI base v' (xs++zs) w'→w.grownBy w' v.ownBlock→wpListIn F nF Tryd.prog ops Q rest (z.put o.dst v') w'):wpListIn F nF Tryd.prog ops Q (o::rest) z w:=by
 refine wpListIn_plain hgd fun K hK'=>?_
 obtain ⟨v',w',hr,h1,h2⟩ := Go.Proofs.YtagolklnjhpbdaaDoor.W.append_ints_run base v xs a m c zs w hown h hnil hx hz hbase;unfold Oper.wpIn;refine ⟨by simp [Oper.about,ho,resolve,Target.leads,Sem.run_pure],?_⟩;rw [Oper.semAt_plain F _ _ (by rw [ho]; intro c hc'; cases hc')];simp only [execOp,ho,hty,resolve,invoke,builtin,Sem.run_bind,Sem.run_pure,Result.andThen_ok,List.map_toArray,List.map_cons,List.map_nil,hs,hxv,hr];exact hK' _ _ (hK v' w' h1 h2)
set_option maxRecDepth 100000 in
set_option maxHeartbeats 8000000 in
theorem changes_in (n:Nat) (hn6:6≤n) (sa sb:Sn) (ra:Option Addr) (rn rc:Nat) (ga:Option Addr) (gn gc:Nat) (ta:Option Addr) (tn tc:Nat) (ha:Option Addr) (hn hc:Nat) (w:World) (hA:SnIn .i32 ra rn rc ga gn gc sa w) (hAB:SnB sa) (hBi:SnIn .i32 ta tn tc ha hn hc sb w) (hBB:SnB sb) :
    CallsIn Fence.wide n Tryd.prog 13 #[.agg (snA sa ra rn rc ga gn gc),.agg (snA sb ta tn tc ha hn hc)] w (ChPost sa sb w):=by
 have h1n:1≤n:=by omega
 obtain ⟨P,hP⟩ : ∃ P,ChPost sa sb w=P:=⟨_,rfl⟩;rw [hP];have HP:=hDx hP;obtain ⟨us,hU,hV,-⟩ := hBi.rows.ex;obtain ⟨cs,hcs⟩ : ∃ cs:List (ItD (fun _=>True) w),cs.map Subtype.val=difZ sa 0 sb.R us:=dif_all hV hBB (fun _ _=>trivial);obtain ⟨w2,hw2⟩ : ∃ w2,(w.alloc (.cells (snA sa ra rn rc ga gn gc) 25)).alloc (.cells (snA sb ta tn tc ha hn hc) 25)=w2:=⟨_,rfl⟩;obtain ⟨w3,hw3⟩ : ∃ w3,w2.alloc (.cells #[.slice none 0 0] 37)=w3:=⟨_,rfl⟩;have b1:Below w.heap.size w (w.alloc (.cells (snA sa ra rn rc ga gn gc) 25)):=(Below.refl _ _).alloc (Nat.le_refl _) _;have hb2:Below w.heap.size w w2:=by rw [← hw2]; exact b1.alloc (by rw [World.size_alloc]; omega) _
 have hs2:w2.heap.size=w.heap.size+2:=by rw [← hw2,World.size_alloc,World.size_alloc]
 have hs3:w3.heap.size=w.heap.size+3:=by rw [← hw3,World.size_alloc,hs2]
 have hb23:Below w2.heap.size w2 w3:=by rw [← hw3]; exact (Below.refl _ _).alloc (Nat.le_refl _) _
 have hb3:Below w.heap.size w w3:=hb2.trans (hb23.mono (by omega));have hz1:w3.heap[w.heap.size]?=some (.cells (snA sa ra rn rc ga gn gc) 25 (0,0)):=(hb23.block _ (by omega)).trans (by
  rw [← hw2,Below.heap_alloc _ _ _ (by rw [World.size_alloc]; omega)];exact heap_alloc_new w _)
 have hz2:w3.heap[w.heap.size+1]?=some (.cells (snA sb ta tn tc ha hn hc) 25 (0,0)):=(hb23.block _ (by omega)).trans (by
  have h:=heap_alloc_new (w.alloc (.cells (snA sa ra rn rc ga gn gc) 25)) (.cells (snA sb ta tn tc ha hn hc) 25);rw [World.size_alloc,hw2] at h;exact h)
 have hbx:Boxed w3 (w.heap.size+2) 37 (.slice none 0 0):=by
  have h:=heap_alloc_new w2 (.cells #[.slice none 0 0] 37);rw [hs2,hw3] at h;exact h
 have HDf:=hDx (dif_any sa sb ra rn rc ga gn gc ta tn tc ha hn hc w3);have HW3:Hid ((((w.alloc (.cells (snA sa ra rn rc ga gn gc) 25)).alloc (.cells (snA sb ta tn tc ha hn hc) 25)).alloc (.cells #[.slice none 0 0] 37))=w3):=hDx (by rw [hw2,hw3]);have HA:=hDx hA;have HAB:=hDx hAB;have HU:=hDx hU;have HV:=hDx hV;have HBB:=hDx hBB;have HCs:=hDx hcs;have HB3:=hDx hb3;have HS3:=hDx hs3;have HBx:=hDx hbx;have HZ1:=hDx hz1;have HZ2:=hDx hz2;clear hP hA hAB hcs b1 hb2 hs2 hb23 hb3 hs3 hbx hw2 hw3 hz1 hz2;unfold snA at HW3 HDf;unfold snA;refine callsIn_of_wp_marks Tryd.func13 rfl trivial ?_ rfl;simp only [Tryd.ntmps13,List.size_toArray,List.length_cons,List.length_nil,Nat.reduceAdd,Nat.reduceSub,Array.replicate_succ,Array.replicate_zero,List.push_toArray,List.append_toArray,List.nil_append,List.cons_append]
 gi_wp2_with fail
 refine ⟨by first | trivial | omega,?_⟩;rw [HW3.out];refine (callsIn_wide.2 HDf.out).mono ?_;rintro e w4 ⟨rfl,hb4,hs4,hz4,hz5⟩;have hb04:Below w.heap.size w w4:=HB3.out.trans (hb4.mono HB3.out.size);have HL4:Hid (DfAt sa sb ra rn rc ga gn gc ta tn tc ha hn hc w w3.heap.size (w3.heap.size+1) w4):=hDx ⟨hb04,by unfold snA; exact hz4,by unfold snA; exact hz5⟩;have HS4:Hid (w4.heap.size=w.heap.size+5∧w3.heap.size=w.heap.size+3):=hDx ⟨by rw [hs4,HS3.out],HS3.out⟩;have hbx4:Boxed w4 (w.heap.size+2) 37 (.slice none 0 0):=(hb4.block _ (by have:=HS3.out; omega)).trans HBx.out;have HI0:Hid (ChI w (w.heap.size+2) (w.heap.size+5) [] w4):=hDx ⟨_,hbx4,Go.Proofs.YtagolklnjhpbdaaDoor.W.OwnI.nil _ _,hb04,by rw [hs4,HS3.out]; omega⟩;have hle:cs.length≤1000:=by
  have h1:=congrArg List.length HCs.out;rw [List.length_map] at h1;have h2:=difZ_len sa sb.R us 0;have h3:=HBB.out.rows;omega
 have HLe:=hDx hle;have HW04:=hDx hb04;clear hb4 hs4 hz4 hz5 hb04 hbx4 hle HDf HB3 HBx HZ1 HZ2 HS3
 gi_wp2_with fail
 refine wpIn_rangeFunc_ownF rfl h1n (gf:=64) (lb:=#[.pointer (some ⟨w3.heap.size+1,0,none⟩),.pointer (some ⟨w3.heap.size,0,none⟩)]) rfl trivial (enters_of Tryd.func64 (by kernel_rfl) rfl)
   (dif_stops (n - 1) (by omega) sa sb ra rn rc ga gn gc ta tn tc ha hn hc us w w3.heap.size (w3.heap.size+1) HA.out HAB.out HU.out HV.out HBB.out cs HCs.out w4 HL4.out) (fun h1 h2=>KpD.trans h1 h2) ?hKb (Below.refl _ _) (fun _=>rfl)
   (fun pre V=>ChI w (w.heap.size+2) (w.heap.size+5) (pre.map fun x=>(x.1.1:Int)) V)
   (fun _ _ _=>False)
   (ChI.own (fun pre:List (ItD (fun _=>True) w)=>pre.map fun x=>(x.1.1:Int)) (by have:=HS4.out; omega))
   (fun _ _ _ _ _ hs _ _=>hs)
   HI0.out
   (fun x=>{ tmps:=#[.agg #[.int .i64 sa.k,.int .i64 sa.w,.int .i64 sa.h,.int .i64 sa.x,.int .i64 sa.y,.string sa.t,.slice ra rn rc,.int .i64 sa.n,.int .i64 sa.c,.slice ga gn gc],.agg #[.int .i64 sb.k,.int .i64 sb.w,.int .i64 sb.h,.int .i64 sb.x,.int .i64 sb.y,.string sb.t,.slice ta tn tc,.int .i64 sb.n,.int .i64 sb.c,.slice ha hn hc],.pointer (some ⟨w.heap.size,0,none⟩),.pointer (some ⟨w.heap.size+1,0,none⟩),.slice none 0 0,.pointer (some ⟨w.heap.size+1+1,0,none⟩),.int .i64 (x.1.1:Int),.agg #[.int .i64 sa.k,.int .i64 sa.w,.int .i64 sa.h,.int .i64 sa.x,.int .i64 sa.y,.string sa.t,.slice ra rn rc,.int .i64 sa.n,.int .i64 sa.c,.slice ga gn gc],.agg #[.int .i64 sb.k,.int .i64 sb.w,.int .i64 sb.h,.int .i64 sb.x,.int .i64 sb.y,.string sb.t,.slice ta tn tc,.int .i64 sb.n,.int .i64 sb.c,.slice ha hn hc],.func (.func 64) #[] #[.pointer (some ⟨w3.heap.size+1,0,none⟩),.pointer (some ⟨w3.heap.size,0,none⟩)],.int .i64 (x.1.1:Int),x.1.2.1.val,undef,undef,undef,undef,undef],defers:=[] }) ?assign ?body ?done ?stop
 case hKb =>
  intro V l o o' hl ho hc1 hc2;have hsz:=HS4.out;exact ⟨belowK_b (w:=w4) (by omega) V l o o' hl ho hc1 hc2,by simp,World.putObj_heap_other (by omega),World.putObj_heap_other (by omega)⟩
 case assign =>
  intro l x V K hK
  gi_wp2
  simpa [encD] using hK
 case body =>
  rintro l pre x V ⟨v,hv,ho,hB,hbV⟩ hltp;have hsz:=HS4.out;have hle:=hB.size;have hvb:∀ q,v.ownBlock=some q→w.heap.size+5≤q∧q<V.heap.size:=fun q hq=>⟨(OwnI.cellsD ho hq).1,(OwnI.cellsD ho hq).2.1⟩
  have hpbl:w.heap.size+2<V.heap.size:=(gSx.1 (show V.heap[w.heap.size+2]?=_ from hv)).1;have hV5:w.heap.size+5≤V.heap.size:=hbV;obtain ⟨w6,hw6⟩ : ∃ w6,V.alloc (.cells #[.int .i64 (x.1.1:Int)] 3)=w6:=⟨_,rfl⟩;have hb6:Below V.heap.size V w6:=by rw [← hw6]; exact (Below.refl _ _).alloc (Nat.le_refl _) _
  have hi6:=Go.Proofs.YtagolklnjhpbdaaDoor.W.ints_one V (x.1.1:Int) 3;rw [hw6] at hi6;have hc:V.cell? ⟨w.heap.size+1+1,0,none⟩=some v:=hv.cell;have HK6:Hid (KeepsOthers V w6):=hDx (by rw [← hw6]; exact KeepsOthers.alloc _ _);have HO6:Hid (OwnI (w.heap.size+5) v (pre.map fun x=>(x.1.1:Int)) w6):=hDx (ho.belowAll hb6);have HI6:=hDx hi6;have HW6:=hDx hw6;have HB6:=hDx hb6;have HB:Hid (Below w.heap.size w V):=hDx hB;have HVb:=hDx hvb;have HV:=hDx hv;have HN6:Hid ((some (⟨V.heap.size,0,none⟩ : Addr))=none→1=0):=hDx (fun e=>by cases e);have HL6:Hid (((pre.map fun x=>(x.1.1:Int)).length:Int)≤1000000):=hDx (by rw [List.length_map]; have:=HLe.out; omega);have HS6:Hid (w.heap.size+5≤w6.heap.size):=hDx (by have:=hb6.size; omega);have HPl:=hDx hpbl;clear hv ho hB hvb hpbl hw6 hb6 hi6 hle hV5
  gi_wp2_with (gi_at_builtin; rw [HW6.out]; refine wpListIn_append_d rfl _ _ rfl rfl (w.heap.size+5) _ (pre.map fun x=>(x.1.1:Int)) (some ⟨V.heap.size,0,none⟩) 1 1 [(x.1.1:Int)] rfl rfl ?c1 ?c2 ?c3 ?c4 ?c5 ?c6 ?_)
  case c1=>exact HO6.out
  case c2=>exact HI6.out
  try case c3=>exact HN6.out
  case c4=>simpa using HL6.out
  try case c5=>simp
  case c6=>exact HS6.out
  intro v' w7 ho7 hg7;obtain ⟨a',c',rfl,-⟩ := Go.Proofs.YtagolklnjhpbdaaDoor.W.OwnI.shape ho7;have hne:∀ q,v.ownBlock=some q→q≠w.heap.size+2∧q≠w3.heap.size∧q≠w3.heap.size+1:=fun q hq=>by have:=(HVb.out q hq).1; have:=HS4.out; omega
  have hb6s:=HB6.out.size;have hkeep:∀ i,i<V.heap.size→i<w.heap.size+5→w7.heap[i]?=V.heap[i]?:=fun i h1 h2=>(hg7.block i (by omega) (fun e=>by have:=(HVb.out i e.symm).1; omega)).trans (HB6.out.block i h1)
  have b7:Boxed w7 (w.heap.size+2) 37 v:=(hkeep _ HPl.out (by omega)).trans HV.out;have hKO:KeepsOthers V w7:=HK6.out.trans (KeepsOthers.of_grownBy hg7 (fun q o hq ho9=>by
   obtain ⟨-,-,cs9,hc9⟩ := OwnI.cellsD HO6.out hq;rw [hc9] at ho9;cases ho9
   rfl))
  have hB7:Below w.heap.size V w7:=(HB6.out.mono HB.out.size).grown hg7 (by have:=HS6.out; omega) (fun q hq=>by have:=(HVb.out q hq).1; omega);have hV7:V.heap.size≤w7.heap.size:=Nat.le_trans hb6s hg7.size;have hc7:w7.cell? ⟨w.heap.size+1+1,0,none⟩=some v:=b7.cell;have hf7:w7.frozen? ⟨w.heap.size+1+1,0,none⟩=false:=b7.frozen;have HB7:=hDx b7;have HKO:=hDx hKO;have HBl:=hDx hB7;have e7:((pre.map fun x=>(x.1.1:Int))++[(x.1.1:Int)]).length=pre.length+1:=by simp
  rw [e7] at ho7;have HO7:Hid (OwnI (w.heap.size+5) (.slice a' (pre.length+1) c') ((pre++[x]).map fun x=>(x.1.1:Int)) w7):=hDx (by rw [List.map_append]; exact ho7);have HK7:Hid (w3.heap.size<V.heap.size→w3.heap.size+1<V.heap.size→w7.heap[w3.heap.size]?=V.heap[w3.heap.size]?∧w7.heap[w3.heap.size+1]?=V.heap[w3.heap.size+1]?):=hDx (fun h1 h2=>⟨hkeep _ h1 (by have:=HS4.out; omega),hkeep _ h2 (by have:=HS4.out; omega)⟩);have HV7:=hDx hV7;clear ho7 hg7 hne hkeep b7 hKO hB7 HO6 HI6 HN6 HL6 HS6 HW6 hc hV7 hb6s
  gi_wp2
  have hsz:=HS4.out;have hk7:=HK7.out (by omega) (by omega);rw [HS4.out.2] at hk7;have hls:=(KeepsWalks.setCell w7 ⟨w.heap.size+1+1,0,none⟩ (.slice a' (pre.length+1) c')).size;refine ⟨HKO.out.trans (KeepsOthers.setCell _ _ _),⟨HBl.out.setCell (p:=⟨w.heap.size+1+1,0,none⟩) (by show w.heap.size≤w.heap.size+1+1; omega) _,Nat.le_trans HV7.out hls,(Below.heap_setCell _ _ _ _ (by show w.heap.size+3≠w.heap.size+1+1; omega)).trans hk7.1,(Below.heap_setCell _ _ _ _ (by show w.heap.size+3+1≠w.heap.size+1+1; omega)).trans hk7.2⟩,⟨_,HB7.out.set _,?_,(HB.out.trans HBl.out).setCell (p:=⟨w.heap.size+1+1,0,none⟩) (by show w.heap.size≤w.heap.size+1+1; omega) _,Nat.le_trans hbV (Nat.le_trans HV7.out hls)⟩⟩;exact OwnI.movedD HO7.out (fun q hq=>Below.heap_setCell _ _ _ _ (by have:=(OwnI.cellsD HO7.out hq).1; show q≠w.heap.size+1+1; omega))
 case done =>
  rintro D ys V hD hS ⟨v,hv,ho,hB,hbV⟩ hK;have hc:V.cell? ⟨w.heap.size+1+1,0,none⟩=some v:=hv.cell;subst hS;have HB:=hDx hB;have HK:=hDx hK;have HD:=hDx hD;have HO:=hDx ho;clear hv ho hB hK hD
  gi_wp2
  have hsz:=HS4.out;refine ⟨by simp,.inl ⟨_,_,rfl,run_takeDeferred HK.out,?_⟩⟩;rw [← HP.out];have hlist:(ys.map fun x=>(x.1.1:Int))=(difL sa 0 sb.R).map fun x=>(x.1:Int):=by
   have h1:=difZ_L sa sb.R us 0 (by rw [HV.out.1]);rw [← h1,← HCs.out,List.map_map,List.map_map]
   rfl
  refine ⟨_,results_tmp rfl _ _ _,v,rfl,?_,HB.out.trans (belowK_b (w:=w4) (by omega) V D _ _ HD.out HK.out rfl rfl)⟩;rw [← hlist];refine OwnI.lowD (OwnI.movedD HO.out (fun q hq=>World.putObj_heap_other (fun e=>?_))) (by omega:w.heap.size≤w.heap.size+5);obtain ⟨-,-,cs9,hc9⟩ := OwnI.cellsD HO.out hq;have hk9:=HK.out;rw [e] at hc9;rw [hc9] at hk9;cases hk9
 case stop =>
  rintro D c pre V hD _ h;exact h.elim
theorem changes_any (sa sb:Sn) (ra:Option Addr) (rn rc:Nat) (ga:Option Addr) (gn gc:Nat) (ta:Option Addr) (tn tc:Nat) (ha:Option Addr) (hn hc:Nat) (w:World) (hA:SnIn .i32 ra rn rc ga gn gc sa w) (hAB:SnB sa) (hBi:SnIn .i32 ta tn tc ha hn hc sb w) (hBB:SnB sb) :
    Calls Tryd.prog 13 #[.agg (snA sa ra rn rc ga gn gc),.agg (snA sb ta tn tc ha hn hc)] w (ChPost sa sb w) :=
 (callsIn_wide (n:=6)).1 (changes_in 6 (Nat.le_refl _) sa sb ra rn rc ga gn gc ta tn tc ha hn hc w hA hAB hBi hBB)
end Go.Proofs.YtagolklnjhpbdaaDoor.K
