import Derived.Test.YtagolklnjhpbdaaDoorMerged0
import Derived.Test.YtagolklnjhpbdaaDoorMerged20
import Derived.RangeFuncBound
import Derived.RangeFuncBox
import Derived.RangeFuncCalls
import Derived.RangeFuncNested
import Derived.Maps.OwnIn
import Derived.Maps.OwnSet
import Derived.Maps.Views
import Derived.Carry
namespace Go.Proofs.YtagolklnjhpbdaaDoor.K
open Go.RowKit Go.Proofs.YtagolklnjhpbdaaDoor.I
attribute [local go_sem] Oper.semAt_some
def difL (a:Sn):Nat → List Ro → List (Nat × Ro)
  | _,[] => []
  | y,r :: R => if hasN a y r = true then difL a (y + 1) R else (y,r) :: difL a (y + 1) R
def difZ (a:Sn):Nat → List Ro → List Rv → List (Nat × Rv × Ro)
  | y,r :: R,u :: us => if hasN a y r = true then difZ a (y + 1) R us else (y,u,r) :: difZ a (y + 1) R us
  | _,_,_ => []
theorem difZ_cons (a:Sn) (y:Nat) (r:Ro) (R:List Ro) (u:Rv) (us:List Rv):difZ a y (r :: R) (u :: us) = if hasN a y r = true then difZ a (y + 1) R us else (y,u,r) :: difZ a (y + 1) R us:=rfl
theorem difZ_len (a:Sn):∀ (R:List Ro) (us:List Rv) (y:Nat),(difZ a y R us).length ≤ R.length
  | [],_,_ => by simp [difZ]
  | _ :: _,[],_ => by simp [difZ]
  | r :: R,u :: us,y => by
   have ih:=difZ_len a R us (y + 1)
   unfold difZ
   split
   · simp; omega
   · simp; omega
theorem difZ_L (a:Sn):∀ (R:List Ro) (us:List Rv) (y:Nat),us.length = R.length → (difZ a y R us).map (fun x => (x.1,x.2.2)) = difL a y R
  | [],[],_,_ => rfl
  | [],_ :: _,_,h => by simp at h
  | _ :: _,[],_,h => by simp at h
  | r :: R,u :: us,y,h => by
   have ih:=difZ_L a R us (y + 1) (by simpa using h)
   unfold difZ difL
   split
   · exact ih
   · simp [ih]
theorem difZ_mem (a:Sn):∀ (R:List Ro) (us:List Rv) (y:Nat) (x:Nat × Rv × Ro),x ∈ difZ a y R us → ∃ i,x.1 = y + i ∧ R[i]? = some x.2.2 ∧ us[i]? = some x.2.1
  | [],_,_,_,h => by simp [difZ] at h
  | _ :: _,[],_,_,h => by simp [difZ] at h
  | r :: R,u :: us,y,x,h => by
   unfold difZ at h
   have key:x ∈ difZ a (y + 1) R us → ∃ i,x.1 = y + i ∧ (r :: R)[i]? = some x.2.2 ∧ (u :: us)[i]? = some x.2.1:=fun h => by
    obtain ⟨i,h1,h2,h3⟩:=difZ_mem a R us (y + 1) x h
    exact ⟨i + 1,by omega,by simpa using h2,by simpa using h3⟩
   split at h
   · exact key h
   · rcases List.mem_cons.1 h with rfl | h
     · exact ⟨0,rfl,rfl,rfl⟩
     · exact key h
abbrev ItD (Pr:Ro → Prop) (W:World):={ p:Nat × Rv × Ro // RowV .i32 p.2.1.val p.2.2 W ∧ p.2.2.l.length ≤ 1000 ∧ AllC Rng p.2.2.l ∧ p.1 < 1000 ∧ Pr p.2.2 }
def encD {Pr:Ro → Prop} {W:World} (x:ItD Pr W):Array Value:=#[.int .i64 (x.1.1:Int),x.1.2.1.val]
theorem dif_all {Pr:Ro → Prop} {a b:Sn} {us:List Rv} {W:World} (hv:RowsV .i32 us b.R W) (hB:SnB b) (hP:∀ x ∈ difL a 0 b.R,Pr x.2):∃ cs:List (ItD Pr W),cs.map Subtype.val = difZ a 0 b.R us:=by
 have h:∀ p ∈ difZ a 0 b.R us,RowV .i32 p.2.1.val p.2.2 W ∧ p.2.2.l.length ≤ 1000 ∧ AllC Rng p.2.2.l ∧ p.1 < 1000 ∧ Pr p.2.2:=fun p hp => by
  obtain ⟨i,h1,h2,h3⟩:=difZ_mem a b.R us 0 p hp
  have hm:=List.mem_of_getElem? h2
  have hi:=(List.getElem?_eq_some_iff.1 h2).1
  have hq:(p.1,p.2.2) ∈ difL a 0 b.R:=by
   rw [← difZ_L a b.R us 0 hv.1]
   exact List.mem_map.2 ⟨p,hp,rfl⟩
  exact ⟨hv.2 i _ _ h3 h2,hB.cells _ hm,hB.rng _ hm,(by have:=hB.rows; omega),hP _ hq⟩
 refine ⟨(difZ a 0 b.R us).pmap Subtype.mk h,?_⟩
 rw [List.map_pmap]
 simp
def KpD (M0 p q:Nat) (A B:World):Prop:=Below M0 A B ∧ A.heap.size ≤ B.heap.size ∧ B.heap[p]? = A.heap[p]? ∧ B.heap[q]? = A.heap[q]?
theorem KpD.trans {M0 p q:Nat} {A B C:World} (h:KpD M0 p q A B) (k:KpD M0 p q B C):KpD M0 p q A C:=⟨h.1.trans k.1,Nat.le_trans h.2.1 k.2.1,k.2.2.1.trans h.2.2.1,k.2.2.2.trans h.2.2.2⟩
theorem KpD.of_below {M0 p q:Nat} {A B:World} (h:Below A.heap.size A B) (hm:M0 ≤ A.heap.size) (hp:p < A.heap.size) (hq:q < A.heap.size):KpD M0 p q A B:=⟨h.mono hm,h.size,h.block p hp,h.block q hq⟩
section
variable {sa sb:Sn} {ra:Option Addr} {rn rc:Nat} {ga:Option Addr} {gn gc:Nat} {ta:Option Addr} {tn tc:Nat} {ha:Option Addr} {hn hc:Nat} {us:List Rv} {W:World} {p q:Nat}
def DfAt (sa sb:Sn) (ra:Option Addr) (rn rc:Nat) (ga:Option Addr) (gn gc:Nat) (ta:Option Addr) (tn tc:Nat) (ha:Option Addr) (hn hc:Nat) (W:World) (p q:Nat) (V:World):Prop :=
 Below W.heap.size W V ∧ V.heap[p]? = some (.cells (snA sa ra rn rc ga gn gc) 25 (0,0)) ∧ V.heap[q]? = some (.cells (snA sb ta tn tc ha hn hc) 25 (0,0))
theorem DfAt.keep {A B:World} (h:DfAt sa sb ra rn rc ga gn gc ta tn tc ha hn hc W p q A) (k:KpD W.heap.size p q A B):DfAt sa sb ra rn rc ga gn gc ta tn tc ha hn hc W p q B:=⟨h.1.trans k.1,k.2.2.1.trans h.2.1,k.2.2.2.trans h.2.2⟩
theorem DfAt.below {A B:World} (h:DfAt sa sb ra rn rc ga gn gc ta tn tc ha hn hc W p q A) (k:Below A.heap.size A B):DfAt sa sb ra rn rc ga gn gc ta tn tc ha hn hc W p q B :=
 h.keep (KpD.of_below k h.1.size (gSx.1 h.2.1).1 (gSx.1 h.2.2).1)
end
theorem zeroRow (w:World):(zeroValue 57).run Tryd.prog w = .ok (.agg #[.slice none 0 0,.bool false]) w:=by kernel_rfl
set_option maxRecDepth 100000 in
set_option maxHeartbeats 8000000 in
theorem dif1_in {Pr:Ro → Prop} (n:Nat) (hn0:2 ≤ n) (l:Nat) (sa sb:Sn) (ra:Option Addr) (rn rc:Nat) (ga:Option Addr) (gn gc:Nat) (ta:Option Addr) (tn tc:Nat) (ha:Option Addr) (hn hc:Nat) (us:List Rv) (W:World) (p q:Nat)
    (hA:SnIn .i32 ra rn rc ga gn gc sa W) (hAB:SnB sa) (hU:RvsIn ta tn tc us W) (hV:RowsV .i32 us sb.R W) (hBB:SnB sb) (cs:List (ItD Pr W)) (hcs:cs.map Subtype.val = difZ sa 0 sb.R us)
    (J Jx:List (ItD Pr W) → World → Prop) (V:World) (hJ:AbidesFrom V.heap.size J)
    (hY:∀ pre x V1,J pre V1 → pre.length < cs.length → YieldAt Fence.wide (n - 1) Tryd.prog l (encD x) V1 fun e V' =>
     (e = .returned (.bool true) ∧ J (pre ++ [x]) V' ∧ KpD W.heap.size p q V1 V') ∨ (e = .returned (.bool false) ∧ Jx (pre ++ [x]) V'))
    (hL:DfAt sa sb ra rn rc ga gn gc ta tn tc ha hn hc W p q V) (h0:J [] V) :
    CallsIn Fence.wide n Tryd.prog 64 #[.func (.yield l) #[] #[],.pointer (some ⟨q,0,none⟩),.pointer (some ⟨p,0,none⟩)] V fun e V' => (∃ v,e = .returned v) ∧
      ((∃ ys,ys = cs ∧ J ys V') ∨ (∃ pre,(∃ j,j ≤ cs.length ∧ pre = cs.take j) ∧ Jx pre V')):=by
 obtain ⟨P,hP⟩:∃ P:Ending → World → Prop,(fun e V' => (∃ v,e = .returned v) ∧ ((∃ ys,ys = cs ∧ J ys V') ∨ (∃ pre,(∃ j,j ≤ cs.length ∧ pre = cs.take j) ∧ Jx pre V'))) = P:=⟨_,rfl⟩
 rw [hP]
 have HP:=hDx hP
 have HY:=hDx hY
 have HJ:=hDx hJ
 have HL:=hDx hL
 have H0:=hDx h0
 have HCs:=hDx hcs
 have HAi:=hDx hA
 have HAB:=hDx hAB
 have HU:=hDx hU
 have HV:=hDx hV
 have HBB:=hDx hBB
 have htn:=hU.len.trans hV.1
 have HTn:=hDx htn
 have htn2:(tn:Int) ≤ 1000:=by have:=hBB.rows; omega
 have hfit:=hU.fit
 have htop:=hU.top
 obtain ⟨base,hbase⟩:∃ base,V.heap.size = base:=⟨_,rfl⟩
 have hszb:base ≤ V.heap.size:=by omega
 rw [hbase] at HJ
 have hxq:=hL.2.2
 unfold snA at hxq
 have q6:V.cell? ⟨q,6,none⟩ = some (.slice ta tn tc):=by rw [cell_block hxq]; rfl
 have hzR:=zeroRow
 clear hP hY hJ hL h0 hcs hA hAB hU hV hBB hbase htn hxq
 refine callsIn_of_wp Tryd.func64 rfl trivial ?_ rfl
 simp only [Tryd.ntmps64,List.size_toArray,List.length_cons,List.length_nil,Nat.reduceAdd,Nat.reduceSub,Array.replicate_succ,Array.replicate_zero,List.push_toArray,List.append_toArray,List.nil_append,List.cons_append]
 gi_wp2_with fail
 clear q6
 gi_loopw [9] (fun i wr => ∃ x m:Nat,i = .int .i64 (x:Int) ∧ x ≤ tn ∧ base ≤ wr.heap.size ∧ Hid (DfAt sa sb ra rn rc ga gn gc ta tn tc ha hn hc W p q wr ∧ J (cs.take m) wr ∧ m ≤ cs.length ∧ (cs.drop m).map Subtype.val = difZ sa x (sb.R.drop x) (us.drop x))) (fun i _ => tn - (intOf i).toNat)
 case atStart => exact ⟨0,0,rfl,Nat.zero_le _,hszb,hDx ⟨HL.out,H0.out,Nat.zero_le _,by rw [List.drop_zero,List.drop_zero,List.drop_zero]; exact HCs.out⟩⟩
 case round =>
  obtain ⟨x,m,rfl,hx,hbw,HF⟩:=hrel
  obtain ⟨hLk,hJ0,hml,hdr⟩:=HF.out
  by_cases hlt:x < tn
  · have hd:decide (x < tn) = true:=decide_eq_true hlt
    have hxI:(x:Int) < tn:=by omega
    have hxR:x < sb.R.length:=by rw [← HTn.out]; exact hlt
    have hxU:x < us.length:=by rw [HV.out.1]; exact hxR
    obtain ⟨b,off,rfl,hb,hAt⟩:=HU.out.at_.resolve_left (by intro e; rw [e] at hxU; simp at hxU)
    have hat:=hAt x us[x] (List.getElem?_eq_getElem hxU)
    have hrv:=HV.out.2 x us[x] sb.R[x] (List.getElem?_eq_getElem hxU) (List.getElem?_eq_getElem hxR)
    have hrr:=HBB.out.rng sb.R[x] (List.getElem_mem hxR)
    have hrl:=HBB.out.cells sb.R[x] (List.getElem_mem hxR)
    rw [List.drop_eq_getElem_cons hxR,List.drop_eq_getElem_cons hxU] at hdr
    obtain ⟨⟨xa,xn,xc,xb⟩,hu⟩:∃ u,us[x] = u:=⟨_,rfl⟩
    obtain ⟨r,hre⟩:∃ r,sb.R[x] = r:=⟨_,rfl⟩
    rw [hu] at hat hrv hdr
    rw [hre] at hrv hrr hrl hdr
    unfold Rv.val at hrv
    simp only at hrv hat
    have k0:=(hLk.1.cell (p:=⟨b,off + x * 2,none⟩) hb).trans hat.1
    have k1:=(hLk.1.cell (p:=⟨b,off + x * 2 + 1,none⟩) hb).trans hat.2
    try simp only at k0 k1
    obtain ⟨s5,hs5⟩:∃ s5,s5 = wr.heap.size:=⟨_,rfl⟩
    obtain ⟨w5,hw5⟩:∃ w5,w5 = wr.alloc (.cells #[.slice xa xn xc,.bool xb] 57):=⟨_,rfl⟩
    have hx5:w5.heap[s5]? = some (.cells #[.slice xa xn xc,.bool xb] 57 (0,0)):=by rw [hw5,hs5]; exact heap_alloc_new _ _
    have hb5:Below wr.heap.size wr w5:=by rw [hw5]; exact (Below.refl _ _).alloc (Nat.le_refl _) _
    have hL5:=hLk.below hb5
    have hJ5:=HJ.out (cs.take m) wr w5 none hJ0 (grownBy_of_below hb5) (fun r e => by cases e)
    have hAp:=(HAi.out.belowAll hL5.1)
    have HHas:=hDx (dthas_any sa ra rn rc ga gn gc x (by omega) xa xn xc xb r w5 hAp HAB.out (hrv.belowAll hL5.1) hrr (by omega))
    have HX5:=hDx hx5
    have HL5:=hDx hL5
    have HJ5:=hDx hJ5
    have HDr:=hDx hdr
    have HMl:=hDx hml
    have HW5:=hDx hw5
    have HS5:=hDx hs5
    have hb05:base ≤ w5.heap.size:=Nat.le_trans hbw hb5.size
    have g0:w5.cell? ⟨s5,0,none⟩ = some (.slice xa xn xc):=by rw [cell_block hx5]; rfl
    have g1:w5.cell? ⟨s5,1,none⟩ = some (.bool xb):=by rw [cell_block hx5]; rfl
    clear hLk hJ0 hml hdr HF hxR hxU hb hAt hat hrv hrr hrl hu hre hs5 hw5 hx5 hb5 hL5 hJ5 hAp
    have hxp5:=HL5.out.2.1
    obtain ⟨c0,c1,c2,c3,c4,c5,c6,c7,c8,c9⟩:=ten_cells hxp5
    have HX5':=HX5
    unfold snA at HHas
    clear hxp5
    rw [HW5.out] at c0 c1 c2 c3 c4 c5 c6 c7 c8 c9
    clear g0 g1
    gi_wp2_with fail
    refine ⟨by first | trivial | omega,fun _ => by omega,?_⟩
    rw [← HW5.out,← HS5.out]
    clear c0 c1 c2 c3 c4 c5 c6 c7 c8 c9 k0 k1
    refine (callsIn_wide.2 HHas.out).mono ?_
    rintro e w6 ⟨rfl,hb6⟩
    have hx6:=(hb6.block s5 (gSx.1 HX5.out).1).trans HX5.out
    have g0:w6.cell? ⟨s5,0,none⟩ = some (.slice xa xn xc):=by rw [cell_block hx6]; rfl
    have g1:w6.cell? ⟨s5,1,none⟩ = some (.bool xb):=by rw [cell_block hx6]; rfl
    have hL6:=HL5.out.below hb6
    have hJ6:=HJ.out (cs.take m) w5 w6 none HJ5.out (grownBy_of_below hb6) (fun r e => by cases e)
    have hb06:base ≤ w6.heap.size:=Nat.le_trans hb05 hb6.size
    have HL6:=hDx hL6
    have HJ6:=hDx hJ6
    clear hx6 hb6 hL6 hJ6 HL5 HJ5 HX5 HX5' HHas HW5 HS5
    cases hD:hasN sa x r with
    | true =>
     have HE:Hid (DfAt sa sb ra rn rc ga gn gc (some ⟨b,off,none⟩) tn tc ha hn hc W p q w6 ∧ J (cs.take m) w6 ∧ m ≤ cs.length ∧ (cs.drop m).map Subtype.val = difZ sa (x + 1) (sb.R.drop (x + 1)) (us.drop (x + 1))):=hDx ⟨HL6.out,HJ6.out,HMl.out,by
      rw [HDr.out,difZ_cons,if_pos hD]⟩
     clear HDr HMl HL6 HJ6
     gi_wp2_with fail
     refine ⟨(fun _ h => by cases h),?_⟩
     gi_wp2_with fail
     go_roundw
     case rel => exact ⟨x + 1,m,by go_num,by omega,hb06,HE⟩
     case measure => simp [intOf]; omega
    | false =>
     have hdr:=HDr.out
     rw [difZ_cons,if_neg (by rw [hD]; decide)] at hdr
     obtain ⟨c,ct,hd9,hc1,hct⟩:∃ c ct,cs.drop m = c :: ct ∧ c.1 = (x,⟨xa,xn,xc,xb⟩,r) ∧ ct.map Subtype.val = difZ sa (x + 1) (sb.R.drop (x + 1)) (us.drop (x + 1)):=by
      cases hcd:cs.drop m with
      | nil => rw [hcd] at hdr; cases hdr
      | cons c ct =>
       rw [hcd,List.map_cons] at hdr
       injection hdr with h1 h2
       exact ⟨c,ct,rfl,h1,h2⟩
     have hjl:m < cs.length:=by
      rcases Nat.lt_or_ge m cs.length with h | h
      · exact h
      · rw [List.drop_eq_nil_of_le h] at hd9; cases hd9
     have hcj:cs[m]? = some c:=by
      have h:=congrArg List.head? hd9
      rw [List.head?_drop] at h
      exact h
     have hsn:cs.take (m + 1) = cs.take m ++ [c]:=by rw [List.take_add_one,hcj]; rfl
     have hdn:cs.drop (m + 1) = ct:=by
      have h:=congrArg List.tail hd9
      rw [List.tail_drop] at h
      exact h
     obtain ⟨fn,tmps,assign,body,hy,hR⟩:=HY.out (cs.take m) c w6 HJ6.out (by rw [List.length_take]; omega)
     rw [← hsn] at hR
     have hec:encD c = #[.int .i64 (x:Int),.agg #[.slice xa xn xc,.bool xb]]:=by unfold encD; rw [hc1]; rfl
     rw [hec] at hy
     have HR:=hDx hR
     have HNx:Hid (m + 1 ≤ cs.length ∧ (cs.drop (m + 1)).map Subtype.val = difZ sa (x + 1) (sb.R.drop (x + 1)) (us.drop (x + 1))):=hDx ⟨hjl,by rw [hdn]; exact hct⟩
     clear hR hec hdr hd9 hc1 hct hjl hcj hsn hdn HDr HMl HJ6
     gi_wp2_with fail
     refine ⟨fun _ => by omega,HR.out.mono ?_⟩
     rintro e V' (⟨rfl,hJ',hkp⟩ | ⟨rfl,hJx'⟩)
     · have HE:Hid (DfAt sa sb ra rn rc ga gn gc (some ⟨b,off,none⟩) tn tc ha hn hc W p q V' ∧ J (cs.take (m + 1)) V' ∧ m + 1 ≤ cs.length ∧ (cs.drop (m + 1)).map Subtype.val = difZ sa (x + 1) (sb.R.drop (x + 1)) (us.drop (x + 1))):=hDx ⟨HL6.out.keep hkp,hJ',HNx.out.1,HNx.out.2⟩
       have hb10:base ≤ V'.heap.size:=Nat.le_trans hb06 hkp.2.1
       clear hJ' hkp HNx HL6
       gi_wp2_with fail
       go_roundw
       case rel => exact ⟨x + 1,m + 1,by go_num,by omega,hb10,HE⟩
       case measure => simp [intOf]; omega
     · have hend:Hid (∀ v,P (.returned v) V'):=hDx (fun v => by
        rw [← HP.out]
        exact ⟨⟨_,rfl⟩,.inr ⟨_,⟨m + 1,HNx.out.1,rfl⟩,hJx'⟩⟩)
       clear hJx' HNx HL6
       gi_wp2_with fail
       exact bodyPost_ret (results_none rfl _ _ _) rfl (hend.out _)
  · have e9:tn = x:=by omega
    subst e9
    have hd:decide (tn < tn) = false:=by simp
    have hall:cs.take m = cs:=by
     have h1:(cs.drop m).map Subtype.val = []:=by
      rw [hdr,List.drop_eq_nil_of_le (by rw [HTn.out]; exact Nat.le_refl _)]
      simp [difZ]
     have h2:=List.map_eq_nil_iff.1 h1
     have h3:=List.take_append_drop m cs
     rw [h2,List.append_nil] at h3
     exact h3
    have hend:Hid (∀ v,P (.returned v) wr):=hDx (fun v => by
     rw [← HP.out]
     exact ⟨⟨_,rfl⟩,.inl ⟨_,hall,hJ0⟩⟩)
    clear hLk hJ0 hml hdr HF hall hlt
    gi_wp2_with fail
    exact bodyPost_end (results_none rfl _ _ _) rfl (hend.out _)
end Go.Proofs.YtagolklnjhpbdaaDoor.K

namespace Go.Proofs.YtagolklnjhpbdaaDoor.K
open Go.RowKit Go.Maps Go.Proofs.YtagolklnjhpbdaaDoor.I
def kq (i:Int):Lit:=.int .i64 i
theorem kq_ne {i j:Int} (h:i ≠ j):kq i ≠ kq j:=by intro e; unfold kq at e; injection e with _ e; exact h e
theorem kq_key (i:Int):WideAt.IsKeyLit (kq i):=by first | trivial | simp [WideAt.IsKeyLit,kq]
theorem kq_wf {i:Int} (h:-9223372036854775808 ≤ i ∧ i ≤ 9223372036854775807):(kq i).wf = true:=by
 have e1:IntKind.i64.min = -9223372036854775808:=by decide
 have e2:IntKind.i64.max = 9223372036854775807:=by decide
 simp only [kq,Lit.wf,e1,e2,Bool.and_eq_true,decide_eq_true_eq]
 omega
theorem kq_inj {n m:Nat} (h:kq (n:Int) = kq (m:Int)):n = m:=by unfold kq at h; injection h with _ h; omega
def PlainA (a:Option Addr):Prop:=∀ p,a = some p → p.spot = none
def slD (a:Option Addr) (n c:Nat):DataW Unit:=.agg [match a with
  | none => .nil
  | some p => .agg [.lit (kq p.block),.lit (kq p.off)],.lit (kq n),.lit (kq c)]
theorem slD_inj {a b:Option Addr} {n c m d:Nat} (ha:PlainA a) (hb:PlainA b) (h:slD a n c = slD b m d):a = b ∧ n = m ∧ c = d:=by
 unfold slD at h
 cases a with
 | none =>
  cases b with
  | none =>
   simp only [DataW.agg.injEq,List.cons.injEq,DataW.lit.injEq,and_true,true_and] at h
   exact ⟨rfl,kq_inj h.1,kq_inj h.2⟩
  | some q => simp at h
 | some p =>
  cases b with
  | none => simp at h
  | some q =>
   obtain ⟨pb,po,ps⟩:=p
   obtain ⟨qb,qo,qs⟩:=q
   have e1:ps = none:=ha _ rfl
   have e2:qs = none:=hb _ rfl
   subst e1 e2
   simp only [DataW.agg.injEq,List.cons.injEq,DataW.lit.injEq,and_true,true_and] at h
   obtain ⟨⟨h1,h2⟩,h3,h4⟩:=h
   rw [kq_inj h1,kq_inj h2]
   exact ⟨rfl,kq_inj h3,kq_inj h4⟩
def rvD (u:Rv):DataW Unit:=.agg [slD u.a u.n u.c,.lit (.bool u.b)]
def plainB:Option Addr → Bool
  | none => true
  | some ⟨_,_,none⟩ => true
  | some ⟨_,_,some _⟩ => false
theorem plainB_iff {a:Option Addr}:plainB a = true ↔ PlainA a:=by
 cases a with
 | none => exact ⟨fun _ p e => (by cases e),fun _ => rfl⟩
 | some p =>
  obtain ⟨b,o,s⟩:=p
  cases s with
  | none => exact ⟨fun _ p e => (by cases e; rfl),fun _ => rfl⟩
  | some s => exact ⟨fun h => (by cases h),fun h => (by have:=h _ rfl; cases this)⟩
def rvL:List Value → Option (DataW Unit × List MemPlace)
  | [.slice a n c,.bool b] => if plainB a = true then some (rvD ⟨a,n,c,b⟩,[]) else none
  | _ => none
def rvR:Value → Option (DataW Unit × List MemPlace)
  | .agg cs => rvL cs.toList
  | _ => none
theorem rvR_mk {u:Rv} (h:PlainA u.a):rvR u.val = some (rvD u,[]):=by
 obtain ⟨a,n,c,b⟩:=u
 show (if plainB a = true then some (rvD ⟨a,n,c,b⟩,[]) else none) = _
 rw [if_pos (plainB_iff.2 h)]
theorem rvR_inv {v:Value} {u:Rv} {ps:List MemPlace} (hp:PlainA u.a) (h:rvR v = some (rvD u,ps)):v = u.val:=by
 have key:∀ (q:Rv),PlainA q.a → rvD q = rvD u → q = u:=fun q hq e => by
  obtain ⟨a,n,c,b⟩:=q
  obtain ⟨a2,n2,c2,b2⟩:=u
  unfold rvD at e
  simp only [DataW.agg.injEq,List.cons.injEq,DataW.lit.injEq,Lit.bool.injEq,and_true] at e
  obtain ⟨h1,h2,h3⟩:=slD_inj hq hp e.1
  simp only at h1 h2 h3
  rw [h1,h2,h3,e.2]
 unfold rvR at h
 split at h
 · rename_i cs
   obtain ⟨l⟩:=cs
   simp only at h
   unfold rvL at h
   split at h
   · rename_i a n c b
     split at h
     · rename_i hb
       injection h with h
       have h:=congrArg Prod.fst h
       rw [← key ⟨a,n,c,b⟩ (plainB_iff.1 hb) h]
       rfl
     · cases h
   · cases h
 · cases h
structure RmIs (D:DataW Unit) (es:List (Nat × Rv)):Prop where
 has:∀ i:Int,has D (kq i) = es.any (fun x => (x.1:Int) == i)
 at_:∀ x ∈ es,D.atKey (kq (x.1:Int)) (rvD Rv.nil) = rvD x.2
 pl:∀ x ∈ es,PlainA x.2.a
theorem rmIs_none:RmIs (.map []) []:=⟨fun _ => rfl,(fun _ h => by cases h),(fun _ h => by cases h)⟩
theorem rmIs_put {D:DataW Unit} {es:List (Nat × Rv)} (hT:Tidy D) (hM:RmIs D es) {i:Nat} (hi:∀ x ∈ es,x.1 ≠ i) {u:Rv} (hu:PlainA u.a):RmIs (D.put (kq (i:Int)) (rvD u)) (es ++ [(i,u)]):=by
 refine ⟨fun j => ?_,fun x hx => ?_,fun x hx => ?_⟩
 · by_cases e:j = (i:Int)
   · subst e
     rw [has_put_same hT.isMap (kq_key _),List.any_append]
     simp
   · rw [has_put_other (kq_ne e),hM.has,List.any_append]
     simp [Ne.symm e]
 · rcases List.mem_append.1 hx with hx | hx
   · rw [atKey_put_other (kq_ne (by have:=hi x hx; omega))]
     exact hM.at_ x hx
   · obtain rfl:x = (i,u):=by simpa using hx
     exact atKey_put_same hT.isMap (kq_key _) _ _
 · rcases List.mem_append.1 hx with hx | hx
   · exact hM.pl x hx
   · obtain rfl:x = (i,u):=by simpa using hx
     exact hu
theorem keyedR:Keyed Tryd.prog 3:=int_keyed Tryd.underlying3
def RmAny (m N:Nat) (w:World):Prop:=∃ D:DataW Unit,w.ownsMap Tryd.prog 3 rvR m N D
def RmAt (m:Nat) (es:List (Nat × Rv)) (w:World):Prop:=∃ D:DataW Unit,w.ownsMap Tryd.prog 3 rvR m es.length D ∧ RmIs D es
theorem RmAt.any {m:Nat} {es:List (Nat × Rv)} {w:World} (h:RmAt m es w):RmAny m es.length w:=by
 obtain ⟨D,h,-⟩:=h
 exact ⟨D,h⟩
theorem RmAny.lt {m N:Nat} {w:World} (h:RmAny m N w):m < w.heap.size:=by
 obtain ⟨D,h⟩:=h
 exact h.lt
theorem RmAny.of_block {m N:Nat} {w w':World} (h:RmAny m N w) (hb:w'.heap[m]? = w.heap[m]?):RmAny m N w':=by
 obtain ⟨D,e9,clock,h1,h2⟩:=h
 exact ⟨D,e9,clock,hb.trans h1,h2⟩
theorem RmAt.of_block {m:Nat} {es:List (Nat × Rv)} {w w':World} (h:RmAt m es w) (hb:w'.heap[m]? = w.heap[m]?):RmAt m es w':=by
 obtain ⟨D,⟨e9,clock,h1,h2⟩,hM⟩:=h
 exact ⟨D,⟨e9,clock,hb.trans h1,h2⟩,hM⟩
theorem RmAt.made (w:World):RmAt w.heap.size [] (w.alloc (.map #[] 0)):=⟨.map [],World.ownsMap_made _ _ _ _,rmIs_none⟩
def FindsR (es:List (Nat × Rv)) (i:Int) (v:Value) (ok:Bool):Prop:=(ok = false ∧ (∀ x ∈ es,(x.1:Int) ≠ i) ∧ v = Rv.nil.val) ∨ ∃ x ∈ es,ok = true ∧ (x.1:Int) = i ∧ v = x.2.val
set_option maxRecDepth 100000 in
theorem RmAt.look {m:Nat} {es:List (Nat × Rv)} {w:World} (h:RmAt m es w) {i:Int} (hi:-9223372036854775808 ≤ i ∧ i ≤ 9223372036854775807) :
    ∃ v ok,(Instr.lookup 90 (.map (some m)) (.int .i64 i) true).run Tryd.prog w = .ok (.tuple #[v,.bool ok]) w ∧ FindsR es i v ok:=by
 obtain ⟨D,hown,hM⟩:=h
 obtain ⟨v,ps,hrun,hv⟩:=hown.look_ok (t:=90) (e:=57) keyedR Tryd.underlying90 (zeroRow w) (zd:=rvD Rv.nil) (zp:=[]) rfl (key:=.int .i64 i) (kl:=kq i) (keyOf_int_mk Tryd.underlying3 (kq_wf hi))
 refine ⟨v,_,hrun,?_⟩
 cases hh:Maps.has D (kq i) with
 | false =>
  refine .inl ⟨rfl,fun x hx e => ?_,?_⟩
  · rw [hM.has,List.any_eq_false] at hh
    exact hh x hx (by simpa using e)
  · rw [atKey_of_not_has hh] at hv
    exact rvR_inv (fun p e => by cases e) hv
 | true =>
  rw [hM.has,List.any_eq_true] at hh
  obtain ⟨x,hx,he⟩:=hh
  have hxi:(x.1:Int) = i:=by simpa using he
  rw [← hxi,hM.at_ x hx] at hv
  exact .inr ⟨x,hx,rfl,hxi,rvR_inv (hM.pl x hx) hv⟩
theorem RmAny.put {m N:Nat} {w:World} (h:RmAny m N w) {i:Int} (hi:-9223372036854775808 ≤ i ∧ i ≤ 9223372036854775807) (hl:N ≤ 1000000) {u:Rv} (hu:PlainA u.a) :
    ∃ w',(Instr.mapUpdate 90 (.map (some m)) (.int .i64 i) u.val).run Tryd.prog w = .ok () w' ∧ RmAny m (N + 1) w' ∧ w.grownBy w' (some m) ∧ ∀ (es:List (Nat × Rv)) (k:Nat),(k:Int) = i → es.length = N → RmAt m es w → (∀ x ∈ es,x.1 ≠ k) → RmAt m (es ++ [(k,u)]) w':=by
 obtain ⟨D,hown⟩:=h
 obtain ⟨w',hrun,hown',hg⟩:=hown.update (t:=90) (e:=57) keyedR Tryd.underlying90 (by unfold maxLen; omega) (key:=.int .i64 i) (val:=u.val) (kl:=kq i) (d:=rvD u) (ps:=[]) (keyOf_int_mk Tryd.underlying3 (kq_wf hi)) (rvR_mk hu)
 refine ⟨w',hrun,⟨_,hown'⟩,hg,fun es k hk hN hR hne => ?_⟩
 subst hk
 obtain ⟨D2,hown2,hM⟩:=hR
 obtain ⟨w2,hrun2,hown2',-⟩:=hown2.update (t:=90) (e:=57) keyedR Tryd.underlying90 (by unfold maxLen; omega) (key:=.int .i64 (k:Int)) (val:=u.val) (kl:=kq (k:Int)) (d:=rvD u) (ps:=[]) (keyOf_int_mk Tryd.underlying3 (kq_wf hi)) (rvR_mk hu)
 rw [hrun] at hrun2
 cases hrun2
 exact ⟨_,by simpa using hown2',rmIs_put (hown2.tidy keyedR) hM hne hu⟩
end Go.Proofs.YtagolklnjhpbdaaDoor.K

namespace Go.Proofs.YtagolklnjhpbdaaDoor.K
open Go.RowKit Go.Proofs.YtagolklnjhpbdaaDoor.I
abbrev Itm:=Nat × Rv × Ro
def imE (x:Itm):Nat × Rv:=(x.1,x.2.1)
def imR (x:Itm):Nat × Ro:=(x.1,x.2.2)
structure ItsAt (mb:Nat) (it:List Itm) (w:World):Prop where
 m:RmAt mb (it.map imE) w
 v:∀ x ∈ it,RowV .i32 x.2.1.val x.2.2 w
 b:∀ x ∈ it,∀ b o,x.2.1.a = some ⟨b,o,none⟩ → mb < b ∧ b < w.heap.size
theorem ItsAt.moved {mb:Nat} {it:List Itm} {w w':World} (h:ItsAt mb it w) (hs:w.heap.size ≤ w'.heap.size) (hk:∀ q,mb ≤ q → q < w.heap.size → w'.heap[q]? = w.heap[q]?):ItsAt mb it w' :=
 ⟨h.m.of_block (hk mb (Nat.le_refl _) h.m.any.lt),fun x hx => (h.v x hx).moved hs (fun b o e _ => hk b (Nat.le_of_lt (h.b x hx b o e).1) (h.b x hx b o e).2),fun x hx b o e => ⟨(h.b x hx b o e).1,Nat.lt_of_lt_of_le (h.b x hx b o e).2 hs⟩⟩
theorem ItsAt.grown {mb p:Nat} {it:List Itm} {w w':World} (h:ItsAt mb it w) (hg:w.grownBy w' (some p)) (hp:p < mb):ItsAt mb it w' :=
 h.moved hg.size (fun q hq hl => hg.block q hl (fun e => by have:=Option.some.inj e; omega))
theorem ItsAt.below {mb:Nat} {it:List Itm} {w w':World} (h:ItsAt mb it w) (hb:Below w.heap.size w w'):ItsAt mb it w':=h.moved hb.size (fun q _ hl => hb.block q hl)
structure RrI (p mb:Nat) (w:World) (m:Ms) (u:World):Prop where
 i:InSt p m.st.1 m.st.2 u
 g:w.grownBy u (some p)
 a:RmAny mb m.l.length u
 ok:m.st.2 = 0 → ∃ it,m.l = it.map imR ∧ ItsAt mb it u
theorem RrI.took {p mb:Nat} {w:World} {m:Ms} {st:Sta} {u u':World} (h:RrI p mb w m u) (hi:InSt p st.1 st.2 u') (hg:u.grownBy u' (some p)) (hp:p < mb) (hz:st.2 = 0 → m.st.2 = 0) (least:Nat):RrI p mb w ⟨st,least,m.l⟩ u' :=
 ⟨hi,grown_trans h.g hg,h.a.of_block (hg.block mb h.a.lt (fun e => by have:=Option.some.inj e; omega)),fun h0 => by
  obtain ⟨it,h1,h2⟩:=h.ok (hz h0)
  exact ⟨it,h1,h2.grown hg hp⟩⟩
def RrPost (p:Nat) (m:Ms) (w:World) (e:Ending) (w':World):Prop:=e = .returned (.map (some w.heap.size)) ∧ RrI p w.heap.size w m w'
set_option maxRecDepth 100000 in
set_option maxHeartbeats 8000000 in
theorem readRows_any (p:Nat) (st:Sta) (W H:Nat) (hW:W ≤ 1000) (hH:H ≤ 1000) (w:World) (h:InSt p st.1 st.2 w) (hok:InOk st):Calls Tryd.prog 74 #[.pointer (some ⟨p,0,none⟩),.int .i64 (W:Int),.int .i64 (H:Int)] w (RrPost p (readM W H st) w):=by
 obtain ⟨mb,hmb⟩:∃ mb,w.heap.size = mb:=⟨_,rfl⟩
 obtain ⟨P,hP⟩:∃ P,RrPost p (readM W H st) w = P:=⟨_,rfl⟩
 rw [hP]
 have HP:=hDx hP
 have hpl:p < mb:=by obtain ⟨s,hb,-⟩:=h; rw [← hmb]; exact hb.lt
 obtain ⟨w1,hw1⟩:∃ w1,w.alloc (.map #[] 0) = w1:=⟨_,rfl⟩
 have hi1:InSt p st.1 st.2 w1:=by rw [← hw1]; exact h.alloc _
 have hm1:RmAt mb [] w1:=by rw [← hw1,← hmb]; exact RmAt.made w
 have hg1:w.grownBy w1 (some p):=by rw [← hw1]; exact World.grownBy_alloc w _ _
 have HN:=hDx (innum_any p st.1 st.2 w1 hi1)
 obtain ⟨n,hn⟩:∃ n,(numS st.1 st.2).2 = n:=⟨_,rfl⟩
 have hnt:(n:Int) ≤ 4611686018427387904:=by have h1:=numS_top st.1 st.2; unfold top at h1; omega
 obtain ⟨m0,hm0⟩:∃ m0,ms0 st = m0:=⟨_,rfl⟩
 have hm0s:(numS st.1 st.2).1 = m0.st:=by rw [← hm0]; rfl
 have hm0l:m0.l = []:=by rw [← hm0]; rfl
 have hrm:readM W H st = roundsM W H n m0:=by unfold readM; rw [hn,hm0]
 have hm0k:InOk m0.st:=by rw [← hm0]; exact numS_ok hok
 have hm0g:MsGood H m0:=by rw [← hm0]; exact ms0_good H st
 have hl0:m0.least = 0:=by rw [← hm0]; rfl
 rw [hn,hm0s] at HN
 have HEnd:Hid (∀ u,RrI p mb w (roundsM W H n m0) u → P (.returned (.map (some mb))) u):=hDx (fun u hu => by
  rw [← hP,hrm]
  exact ⟨by rw [hmb],by rw [hmb]; exact hu⟩)
 have HMl:=hDx hm0l
 have HMk:=hDx hm0k
 have HMg:=hDx hm0g
 have HPl:=hDx hpl
 have HM1:=hDx hm1
 have HG1:=hDx hg1
 have HW1:=hDx hw1
 have HMb:=hDx hmb
 have HL0:=hDx hl0
 have HWl:=hDx hW
 have hmm:=@run_makeMap Tryd.prog
 clear hP h hmb hi1 hm1 hg1 hm0 hm0s hm0l hrm hok hm0k hm0g hpl hn hw1 hl0
 go_enter Tryd.func74,Tryd.ntmps74
 go_upto_region 3 with fail
 rw [HW1.out,HMb.out]
 clear hmm
 go_wp2_with fail
 refine HN.out.mono ?_
 rintro e w2 ⟨rfl,hi2,hg2⟩
 have hI0:RrI p mb w (roundsM W H 0 m0) w2:=⟨hi2,grown_trans HG1.out hg2,by
  show RmAny mb m0.l.length w2
  rw [HMl.out]
  exact (HM1.out.any (es:=[])).of_block (hg2.block mb HM1.out.any.lt (fun e => by have:=Option.some.inj e; have:=HPl.out; omega)),fun _ => ⟨[],HMl.out,⟨HM1.out.of_block (hg2.block mb HM1.out.any.lt (fun e => by have:=Option.some.inj e; have:=HPl.out; omega)),(fun x hx => by cases hx),(fun x hx => by cases hx)⟩⟩⟩
 have HI0:=hDx hI0
 clear hi2 hg2 hI0 HN HM1 HG1 HW1
 go_wp2_with fail
 go_loopw [8,9] (fun a b wr => ∃ j:Nat,j ≤ n ∧ a = .int .i64 ((roundsM W H j m0).least:Int) ∧ b = .int .i64 ((n - j:Nat):Int) ∧ Hid (RrI p mb w (roundsM W H j m0) wr)) (fun _ b _ => (intOf b).toNat)
 case atStart => exact ⟨0,Nat.zero_le _,by rw [show roundsM W H 0 m0 = m0 from rfl,HL0.out]; rfl,by simp,HI0⟩
 case round =>
  obtain ⟨j,hj,rfl,rfl,HF⟩:=hrel
  obtain ⟨m,hm⟩:∃ m,roundsM W H j m0 = m:=⟨_,rfl⟩
  rw [hm] at HF
  have HMj:=hDx hm
  obtain ⟨k,hk⟩:∃ k,n - j = k:=⟨_,rfl⟩
  rw [hk]
  have hkt:(k:Int) ≤ 4611686018427387904:=by omega
  have hmk:InOk m.st:=by rw [← hm]; exact roundsM_ok j HMk.out
  have HMk2:=hDx hmk
  rw [hm]
  by_cases hk0:k = 0
  · subst hk0
    have hjn:j = n:=by omega
    have hend:=HEnd.out wr (by rw [← hjn,hm]; exact HF.out)
    have HE:=hDx hend
    clear hend hm HF HMj hk hmk
    go_wp2_with fail
    exact HE.out
  have d0:decide ((k:Int) > 0) = true:=decide_eq_true (by omega)
  have d1:decide (0 < k) = true:=decide_eq_true (by omega)
  have d2:decide ((0:Int) < k) = true:=decide_eq_true (by omega)
  have HEr:=hDx (err_any p m.st.1 m.st.2 wr HF.out.i)
  by_cases he:m.st.2 = 0
  rotate_left
  · have hend:=HEnd.out wr (by rw [roundsM_stuck hj (by rw [hm]; exact he),hm]; exact HF.out)
    have HE:=hDx hend
    obtain ⟨q,hq⟩:∃ q,m.st.2 = q:=⟨_,rfl⟩
    rw [hq] at HEr he
    have d3:decide (q = 0) = false:=decide_eq_false he
    have d4:((q:Int) == 0) = false:=by rw [beq_eq_false_iff_ne]; omega
    clear hend hm HF HMj hk hmk hq
    go_wp2_with fail
    refine HEr.out.mono ?_
    rintro e wq ⟨rfl,rfl⟩
    go_wp2_with fail
    exact HE.out
  have hrd:roundsM W H (j + 1) m0 = msNext W H m:=by
   show roundM W H (roundsM W H j m0) = _
   rw [hm]
   unfold roundM
   rw [if_neg (by omega)]
  have hgd:MsGood H m:=by rw [← hm]; exact roundsM_good HMg.out j (by rw [hm]; exact he)
  have HRd:=hDx hrd
  have HGd:=hDx hgd
  have HE0:=hDx he
  have HN2:=hDx (innum_any p m.st.1 m.st.2 wr HF.out.i)
  obtain ⟨⟨s1,y⟩,hy⟩:∃ q,msNum m = q:=⟨_,rfl⟩
  have hy2:numS m.st.1 m.st.2 = (s1,y):=hy
  rw [hy2] at HN2
  have hyt:(y:Int) ≤ 4611686018427387904:=by have h1:=numS_top m.st.1 m.st.2; rw [hy2] at h1; unfold top at h1; simp only at h1; omega
  have HY:=hDx hy
  obtain ⟨q,hq⟩:∃ q,m.st.2 = q:=⟨_,rfl⟩
  rw [hq] at HEr he
  subst he
  obtain ⟨ls,hls⟩:∃ ls,m.least = ls:=⟨_,rfl⟩
  have HLs:=hDx hls
  have hlt:(ls:Int) ≤ 1000:=by have h1:=hgd.le; omega
  rw [hls]
  have HKj:=hDx hk
  clear hm hk hmk hrd hgd hy hy2 hq hls HMj
  go_wp2_with fail
  refine HEr.out.mono ?_
  rintro e wq ⟨rfl,rfl⟩
  clear HEr
  go_wp2_with fail
  refine HN2.out.mono ?_
  rintro e w3 ⟨rfl,hi3,hg3⟩
  have hI3:=HF.out.took (st:=s1) hi3 hg3 HPl.out (fun _ => HE0.out) 0
  have HI3:=hDx hI3
  clear hi3 hg3 hI3 HN2 HF
  by_cases hmo:ls ≤ y ∧ y < H
  · have t1:decide ((y:Int) < ls) = false:=decide_eq_false (by omega)
    have t2:decide (y < ls) = false:=decide_eq_false (by omega)
    have t3:decide ((y:Int) ≥ H) = false:=decide_eq_false (by omega)
    have t4:decide (H ≤ y) = false:=decide_eq_false (by omega)
    have t5:decide ((H:Int) ≤ y) = false:=decide_eq_false (by omega)
    obtain ⟨sS,hsS⟩:∃ sS,s1 = sS:=⟨_,rfl⟩
    have hmq:msOk H m:=by unfold msOk; rw [HY.out,HLs.out]; exact hmo
    have hSs:msSt H m = sS:=by unfold msSt; rw [if_pos hmq,HY.out]; exact hsS
    rw [hsS] at HI3
    have HI4:=HI3
    clear HI3 hsS hmo hmq
    go_upto_region 9 with fail
    have HRr:=hDx (readRow_any p sS (W:Int) (by have:=HWl.out; omega) (by omega) w3 HI4.out.i)
    rw [Int.toNat_natCast] at HRr
    have HSs:=hDx hSs
    clear hSs
    go_wp2_with fail
    refine HRr.out.mono ?_
    rintro e w5 ⟨v5,rfl,hO5,hi5,hg5⟩
    have hI5:=HI4.out.took (st:=(readR sS W).1) hi5 hg5 HPl.out (fun h0 => (readR_zero h0).1) 0
    obtain ⟨a5,c5',rfl,hc5,hb5,hn5,hf5,hx5⟩:=hO5.shape
    have hpa:PlainA a5:=fun q e => by
     subst e
     rcases hO5.2 with ⟨e2,-⟩ | ⟨g,cap,cur,e2,-⟩
     · cases e2
     · injection e2 with e2
       injection e2 with e2
       rw [e2]
    have hrv5:RowV .i32 (Rv.val ⟨a5,(readR sS W).2.l.length,c5',(readR sS W).2.wrapped⟩) (readR sS W).2 w5:=⟨a5,c5',rfl,hc5,hn5,hf5,hx5⟩
    have hfew:=roundsM_few HMg.out j (w:=W)
    obtain ⟨rr,hrr⟩:∃ rr,(readR sS W).2 = rr:=⟨_,rfl⟩
    obtain ⟨w6,hrun,ha6,hg6,hput⟩:=hI5.a.put (i:=(y:Int)) (by omega) (by have:=HGd.out.few; have:=HGd.out.le; show m.l.length ≤ 1000000; omega) (u:=⟨a5,rr.l.length,c5',rr.wrapped⟩) hpa
    rw [hrr] at hrv5
    have hI6:RrI p mb w (msNext W H m) w6:=by
     have hmn:msNext W H m = ⟨(readR sS W).1,y + 1,m.l ++ [(y,rr)]⟩:=by unfold msNext; rw [HSs.out,HY.out,hrr]
     rw [hmn]
     have hpm:=HPl.out
     have hlen:m.l.length + 1 = (m.l ++ [(y,rr)]).length:=by simp
     refine ⟨?_,⟨hg6.os.trans hI5.g.os,hg6.tape.trans hI5.g.tape,hg6.output.trans hI5.g.output,Nat.le_trans hI5.g.size hg6.size,fun k hk hkp => (hg6.block k (Nat.lt_of_lt_of_le hk hI5.g.size) (fun e => by have:=Option.some.inj e; have:=HMb.out; omega)).trans (hI5.g.block k hk hkp)⟩,by show RmAny mb (m.l ++ [(y,rr)]).length w6; rw [← hlen]; exact ha6,fun h0 => ?_⟩
     · obtain ⟨s,i1,i2,i3⟩:=hI5.i
       exact ⟨s,(hg6.block p i1.lt (fun e => by have:=Option.some.inj e; omega)).trans i1,i2,i3⟩
     · obtain ⟨it,h1,h2⟩:=hI5.ok h0
       have hz:msOk H m:=(msNext_zero (w:=W) (h:=H) (m:=m) (by rw [hmn]; exact h0)).1
       have hne:∀ x ∈ it.map imE,x.1 ≠ y:=fun x hx e => by
        obtain ⟨z,hz2,rfl⟩:=List.mem_map.1 hx
        have h3:=HGd.out.lt (imR z) (by show imR z ∈ m.l; rw [show m.l = it.map imR from h1]; exact List.mem_map_of_mem hz2)
        have h4:=hz.1
        rw [HY.out] at h4
        have h5:z.1 = y:=e
        have h6:z.1 < m.least:=h3
        simp only at h4
        omega
       have hlt6:mb < w3.heap.size:=HI4.out.a.lt
       have hk6:∀ q,q ≠ mb → q < w5.heap.size → w6.heap[q]? = w5.heap[q]?:=fun q hq hl => hg6.block q hl (fun e => hq (Option.some.inj e))
       refine ⟨it ++ [(y,⟨a5,rr.l.length,c5',rr.wrapped⟩,rr)],by rw [List.map_append,← (show m.l = it.map imR from h1)]; rfl,⟨?_,fun x hx => ?_,fun x hx b o e => ?_⟩⟩
       · rw [List.map_append]
         exact hput (it.map imE) y rfl (by rw [List.length_map]; have h8:m.l = it.map imR:=h1; show it.length = m.l.length; rw [h8,List.length_map]) h2.m hne
       · rcases List.mem_append.1 hx with hx | hx
         · exact (h2.v x hx).moved hg6.size (fun b o e _ => hk6 b (by have:=(h2.b x hx b o e).1; omega) (h2.b x hx b o e).2)
         · have e9:x = (y,⟨a5,rr.l.length,c5',rr.wrapped⟩,rr):=by simpa using hx
           rw [e9]
           exact hrv5.moved hg6.size (fun b o e _ => hk6 b (by have:=(hb5 b o e).1; omega) (hb5 b o e).2.1)
       · rcases List.mem_append.1 hx with hx | hx
         · exact ⟨(h2.b x hx b o e).1,Nat.lt_of_lt_of_le (h2.b x hx b o e).2 hg6.size⟩
         · have e9:x = (y,⟨a5,rr.l.length,c5',rr.wrapped⟩,rr):=by simpa using hx
           rw [e9] at e
           exact ⟨Nat.lt_of_lt_of_le hlt6 (hb5 b o e).1,Nat.lt_of_lt_of_le (hb5 b o e).2.1 hg6.size⟩
    have hrun':(Instr.mapUpdate 90 (.map (some mb)) (.int .i64 (y:Int)) (.agg #[.slice a5 rr.l.length c5',.bool rr.wrapped])).run Tryd.prog w5 = .ok () w6:=hrun
    rw [hrr]
    have HI6:Hid (RrI p mb w (roundsM W H (j + 1) m0) w6):=hDx (by rw [HRd.out]; exact hI6)
    have HLe:Hid ((roundsM W H (j + 1) m0).least = y + 1):=hDx (by rw [HRd.out]; unfold msNext; rw [HY.out])
    clear hO5 hi5 hg5 hI5 hc5 hb5 hn5 hf5 hx5 hpa hrv5 hfew hrun ha6 hg6 hput hI6 HRr hrr HI4 HSs
    go_wp2_with fail
    go_roundw
    case rel => exact ⟨j + 1,by have:=HKj.out; omega,by rw [HLe.out]; go_num,by have:=HKj.out; go_num,HI6⟩
    case measure => simp [intOf]; omega
  obtain ⟨sS,hsS⟩:∃ sS,failS s1.1 s1.2 1 = sS:=⟨_,rfl⟩
  have hmq:¬ msOk H m:=by unfold msOk; rw [HY.out,HLs.out]; exact hmo
  have hSs:msSt H m = sS:=by unfold msSt; rw [if_neg hmq,HY.out]; exact hsS
  clear hmq
  by_cases hlo:y < ls
  · have t1:decide ((y:Int) < ls) = true:=decide_eq_true (by omega)
    have t2:decide (y < ls) = true:=decide_eq_true hlo
    clear hmo
    have HFl:=hDx (fail_any p s1.1 s1.2 1 w3 HI3.out.i)
    rw [show failS s1.1 s1.2 1 = sS from hsS] at HFl
    go_wp2_with fail
    refine HFl.out.mono ?_
    rintro e w4 ⟨rfl,hi4,hg4⟩
    have hI4:=HI3.out.took (st:=sS) hi4 hg4 HPl.out (fun h0 => absurd h0 (by rw [← hsS]; exact failS_bad _ _)) 0
    have HI4:=hDx hI4
    clear hi4 hg4 hI4 HI3 HFl hsS
    go_upto_region 9 with fail
    have HRr:=hDx (readRow_any p sS (W:Int) (by have:=HWl.out; omega) (by omega) w4 HI4.out.i)
    rw [Int.toNat_natCast] at HRr
    have HSs:=hDx hSs
    clear hSs
    go_wp2_with fail
    refine HRr.out.mono ?_
    rintro e w5 ⟨v5,rfl,hO5,hi5,hg5⟩
    have hI5:=HI4.out.took (st:=(readR sS W).1) hi5 hg5 HPl.out (fun h0 => (readR_zero h0).1) 0
    obtain ⟨a5,c5',rfl,hc5,hb5,hn5,hf5,hx5⟩:=hO5.shape
    have hpa:PlainA a5:=fun q e => by
     subst e
     rcases hO5.2 with ⟨e2,-⟩ | ⟨g,cap,cur,e2,-⟩
     · cases e2
     · injection e2 with e2
       injection e2 with e2
       rw [e2]
    have hrv5:RowV .i32 (Rv.val ⟨a5,(readR sS W).2.l.length,c5',(readR sS W).2.wrapped⟩) (readR sS W).2 w5:=⟨a5,c5',rfl,hc5,hn5,hf5,hx5⟩
    have hfew:=roundsM_few HMg.out j (w:=W)
    obtain ⟨rr,hrr⟩:∃ rr,(readR sS W).2 = rr:=⟨_,rfl⟩
    obtain ⟨w6,hrun,ha6,hg6,hput⟩:=hI5.a.put (i:=(y:Int)) (by omega) (by have:=HGd.out.few; have:=HGd.out.le; show m.l.length ≤ 1000000; omega) (u:=⟨a5,rr.l.length,c5',rr.wrapped⟩) hpa
    rw [hrr] at hrv5
    have hI6:RrI p mb w (msNext W H m) w6:=by
     have hmn:msNext W H m = ⟨(readR sS W).1,y + 1,m.l ++ [(y,rr)]⟩:=by unfold msNext; rw [HSs.out,HY.out,hrr]
     rw [hmn]
     have hpm:=HPl.out
     have hlen:m.l.length + 1 = (m.l ++ [(y,rr)]).length:=by simp
     refine ⟨?_,⟨hg6.os.trans hI5.g.os,hg6.tape.trans hI5.g.tape,hg6.output.trans hI5.g.output,Nat.le_trans hI5.g.size hg6.size,fun k hk hkp => (hg6.block k (Nat.lt_of_lt_of_le hk hI5.g.size) (fun e => by have:=Option.some.inj e; have:=HMb.out; omega)).trans (hI5.g.block k hk hkp)⟩,by show RmAny mb (m.l ++ [(y,rr)]).length w6; rw [← hlen]; exact ha6,fun h0 => ?_⟩
     · obtain ⟨s,i1,i2,i3⟩:=hI5.i
       exact ⟨s,(hg6.block p i1.lt (fun e => by have:=Option.some.inj e; omega)).trans i1,i2,i3⟩
     · obtain ⟨it,h1,h2⟩:=hI5.ok h0
       have hz:msOk H m:=(msNext_zero (w:=W) (h:=H) (m:=m) (by rw [hmn]; exact h0)).1
       have hne:∀ x ∈ it.map imE,x.1 ≠ y:=fun x hx e => by
        obtain ⟨z,hz2,rfl⟩:=List.mem_map.1 hx
        have h3:=HGd.out.lt (imR z) (by show imR z ∈ m.l; rw [show m.l = it.map imR from h1]; exact List.mem_map_of_mem hz2)
        have h4:=hz.1
        rw [HY.out] at h4
        have h5:z.1 = y:=e
        have h6:z.1 < m.least:=h3
        simp only at h4
        omega
       have hlt6:mb < w4.heap.size:=HI4.out.a.lt
       have hk6:∀ q,q ≠ mb → q < w5.heap.size → w6.heap[q]? = w5.heap[q]?:=fun q hq hl => hg6.block q hl (fun e => hq (Option.some.inj e))
       refine ⟨it ++ [(y,⟨a5,rr.l.length,c5',rr.wrapped⟩,rr)],by rw [List.map_append,← (show m.l = it.map imR from h1)]; rfl,⟨?_,fun x hx => ?_,fun x hx b o e => ?_⟩⟩
       · rw [List.map_append]
         exact hput (it.map imE) y rfl (by rw [List.length_map]; have h8:m.l = it.map imR:=h1; show it.length = m.l.length; rw [h8,List.length_map]) h2.m hne
       · rcases List.mem_append.1 hx with hx | hx
         · exact (h2.v x hx).moved hg6.size (fun b o e _ => hk6 b (by have:=(h2.b x hx b o e).1; omega) (h2.b x hx b o e).2)
         · have e9:x = (y,⟨a5,rr.l.length,c5',rr.wrapped⟩,rr):=by simpa using hx
           rw [e9]
           exact hrv5.moved hg6.size (fun b o e _ => hk6 b (by have:=(hb5 b o e).1; omega) (hb5 b o e).2.1)
       · rcases List.mem_append.1 hx with hx | hx
         · exact ⟨(h2.b x hx b o e).1,Nat.lt_of_lt_of_le (h2.b x hx b o e).2 hg6.size⟩
         · have e9:x = (y,⟨a5,rr.l.length,c5',rr.wrapped⟩,rr):=by simpa using hx
           rw [e9] at e
           exact ⟨Nat.lt_of_lt_of_le hlt6 (hb5 b o e).1,Nat.lt_of_lt_of_le (hb5 b o e).2.1 hg6.size⟩
    have hrun':(Instr.mapUpdate 90 (.map (some mb)) (.int .i64 (y:Int)) (.agg #[.slice a5 rr.l.length c5',.bool rr.wrapped])).run Tryd.prog w5 = .ok () w6:=hrun
    rw [hrr]
    have HI6:Hid (RrI p mb w (roundsM W H (j + 1) m0) w6):=hDx (by rw [HRd.out]; exact hI6)
    have HLe:Hid ((roundsM W H (j + 1) m0).least = y + 1):=hDx (by rw [HRd.out]; unfold msNext; rw [HY.out])
    clear hO5 hi5 hg5 hI5 hc5 hb5 hn5 hf5 hx5 hpa hrv5 hfew hrun ha6 hg6 hput hI6 HRr hrr HI4 HSs
    go_wp2_with fail
    go_roundw
    case rel => exact ⟨j + 1,by have:=HKj.out; omega,by rw [HLe.out]; go_num,by have:=HKj.out; go_num,HI6⟩
    case measure => simp [intOf]; omega
  · have t1:decide ((y:Int) < ls) = false:=decide_eq_false (by omega)
    have t2:decide (y < ls) = false:=decide_eq_false hlo
    have t3:decide ((y:Int) ≥ H) = true:=decide_eq_true (by omega)
    have t4:decide (H ≤ y) = true:=decide_eq_true (by omega)
    have t5:decide ((H:Int) ≤ y) = true:=decide_eq_true (by omega)
    clear hmo
    have HFl:=hDx (fail_any p s1.1 s1.2 1 w3 HI3.out.i)
    rw [show failS s1.1 s1.2 1 = sS from hsS] at HFl
    go_wp2_with fail
    refine HFl.out.mono ?_
    rintro e w4 ⟨rfl,hi4,hg4⟩
    have hI4:=HI3.out.took (st:=sS) hi4 hg4 HPl.out (fun h0 => absurd h0 (by rw [← hsS]; exact failS_bad _ _)) 0
    have HI4:=hDx hI4
    clear hi4 hg4 hI4 HI3 HFl hsS
    go_upto_region 9 with fail
    have HRr:=hDx (readRow_any p sS (W:Int) (by have:=HWl.out; omega) (by omega) w4 HI4.out.i)
    rw [Int.toNat_natCast] at HRr
    have HSs:=hDx hSs
    clear hSs
    go_wp2_with fail
    refine HRr.out.mono ?_
    rintro e w5 ⟨v5,rfl,hO5,hi5,hg5⟩
    have hI5:=HI4.out.took (st:=(readR sS W).1) hi5 hg5 HPl.out (fun h0 => (readR_zero h0).1) 0
    obtain ⟨a5,c5',rfl,hc5,hb5,hn5,hf5,hx5⟩:=hO5.shape
    have hpa:PlainA a5:=fun q e => by
     subst e
     rcases hO5.2 with ⟨e2,-⟩ | ⟨g,cap,cur,e2,-⟩
     · cases e2
     · injection e2 with e2
       injection e2 with e2
       rw [e2]
    have hrv5:RowV .i32 (Rv.val ⟨a5,(readR sS W).2.l.length,c5',(readR sS W).2.wrapped⟩) (readR sS W).2 w5:=⟨a5,c5',rfl,hc5,hn5,hf5,hx5⟩
    have hfew:=roundsM_few HMg.out j (w:=W)
    obtain ⟨rr,hrr⟩:∃ rr,(readR sS W).2 = rr:=⟨_,rfl⟩
    obtain ⟨w6,hrun,ha6,hg6,hput⟩:=hI5.a.put (i:=(y:Int)) (by omega) (by have:=HGd.out.few; have:=HGd.out.le; show m.l.length ≤ 1000000; omega) (u:=⟨a5,rr.l.length,c5',rr.wrapped⟩) hpa
    rw [hrr] at hrv5
    have hI6:RrI p mb w (msNext W H m) w6:=by
     have hmn:msNext W H m = ⟨(readR sS W).1,y + 1,m.l ++ [(y,rr)]⟩:=by unfold msNext; rw [HSs.out,HY.out,hrr]
     rw [hmn]
     have hpm:=HPl.out
     have hlen:m.l.length + 1 = (m.l ++ [(y,rr)]).length:=by simp
     refine ⟨?_,⟨hg6.os.trans hI5.g.os,hg6.tape.trans hI5.g.tape,hg6.output.trans hI5.g.output,Nat.le_trans hI5.g.size hg6.size,fun k hk hkp => (hg6.block k (Nat.lt_of_lt_of_le hk hI5.g.size) (fun e => by have:=Option.some.inj e; have:=HMb.out; omega)).trans (hI5.g.block k hk hkp)⟩,by show RmAny mb (m.l ++ [(y,rr)]).length w6; rw [← hlen]; exact ha6,fun h0 => ?_⟩
     · obtain ⟨s,i1,i2,i3⟩:=hI5.i
       exact ⟨s,(hg6.block p i1.lt (fun e => by have:=Option.some.inj e; omega)).trans i1,i2,i3⟩
     · obtain ⟨it,h1,h2⟩:=hI5.ok h0
       have hz:msOk H m:=(msNext_zero (w:=W) (h:=H) (m:=m) (by rw [hmn]; exact h0)).1
       have hne:∀ x ∈ it.map imE,x.1 ≠ y:=fun x hx e => by
        obtain ⟨z,hz2,rfl⟩:=List.mem_map.1 hx
        have h3:=HGd.out.lt (imR z) (by show imR z ∈ m.l; rw [show m.l = it.map imR from h1]; exact List.mem_map_of_mem hz2)
        have h4:=hz.1
        rw [HY.out] at h4
        have h5:z.1 = y:=e
        have h6:z.1 < m.least:=h3
        simp only at h4
        omega
       have hlt6:mb < w4.heap.size:=HI4.out.a.lt
       have hk6:∀ q,q ≠ mb → q < w5.heap.size → w6.heap[q]? = w5.heap[q]?:=fun q hq hl => hg6.block q hl (fun e => hq (Option.some.inj e))
       refine ⟨it ++ [(y,⟨a5,rr.l.length,c5',rr.wrapped⟩,rr)],by rw [List.map_append,← (show m.l = it.map imR from h1)]; rfl,⟨?_,fun x hx => ?_,fun x hx b o e => ?_⟩⟩
       · rw [List.map_append]
         exact hput (it.map imE) y rfl (by rw [List.length_map]; have h8:m.l = it.map imR:=h1; show it.length = m.l.length; rw [h8,List.length_map]) h2.m hne
       · rcases List.mem_append.1 hx with hx | hx
         · exact (h2.v x hx).moved hg6.size (fun b o e _ => hk6 b (by have:=(h2.b x hx b o e).1; omega) (h2.b x hx b o e).2)
         · have e9:x = (y,⟨a5,rr.l.length,c5',rr.wrapped⟩,rr):=by simpa using hx
           rw [e9]
           exact hrv5.moved hg6.size (fun b o e _ => hk6 b (by have:=(hb5 b o e).1; omega) (hb5 b o e).2.1)
       · rcases List.mem_append.1 hx with hx | hx
         · exact ⟨(h2.b x hx b o e).1,Nat.lt_of_lt_of_le (h2.b x hx b o e).2 hg6.size⟩
         · have e9:x = (y,⟨a5,rr.l.length,c5',rr.wrapped⟩,rr):=by simpa using hx
           rw [e9] at e
           exact ⟨Nat.lt_of_lt_of_le hlt6 (hb5 b o e).1,Nat.lt_of_lt_of_le (hb5 b o e).2.1 hg6.size⟩
    have hrun':(Instr.mapUpdate 90 (.map (some mb)) (.int .i64 (y:Int)) (.agg #[.slice a5 rr.l.length c5',.bool rr.wrapped])).run Tryd.prog w5 = .ok () w6:=hrun
    rw [hrr]
    have HI6:Hid (RrI p mb w (roundsM W H (j + 1) m0) w6):=hDx (by rw [HRd.out]; exact hI6)
    have HLe:Hid ((roundsM W H (j + 1) m0).least = y + 1):=hDx (by rw [HRd.out]; unfold msNext; rw [HY.out])
    clear hO5 hi5 hg5 hI5 hc5 hb5 hn5 hf5 hx5 hpa hrv5 hfew hrun ha6 hg6 hput hI6 HRr hrr HI4 HSs
    go_wp2_with fail
    go_roundw
    case rel => exact ⟨j + 1,by have:=HKj.out; omega,by rw [HLe.out]; go_num,by have:=HKj.out; go_num,HI6⟩
    case measure => simp [intOf]; omega
end Go.Proofs.YtagolklnjhpbdaaDoor.K
