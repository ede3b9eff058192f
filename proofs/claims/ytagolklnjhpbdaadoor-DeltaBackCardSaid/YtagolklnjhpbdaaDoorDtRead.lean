import Derived.Test.YtagolklnjhpbdaaDoorMerged0
import Derived.Test.YtagolklnjhpbdaaDoorMerged21
namespace Go.Proofs.YtagolklnjhpbdaaDoor.K
open Go.RowKit Go.Proofs.YtagolklnjhpbdaaDoor.I
def pU (st:Sta):Sta × Nat:=numS st.1 st.2
theorem pU_def (st:Sta):pU st = numS st.1 st.2:=by rw [pU]
def readD (st:Sta):Ms × Nat × Sn :=
 (readM (pW (pU st).1).2 (pH (pU st).1).2 (pB (pU st).1).1,(pU st).2,⟨((pK (pU st).1).2:Int),((pW (pU st).1).2:Int),((pH (pU st).1).2:Int),((pX (pU st).1).2:Int),((pY (pU st).1).2:Int),⟨(pT (pU st).1).2.toArray⟩,[],((pN (pU st).1).2:Int),((pC (pU st).1).2:Int),(pB (pU st).1).2⟩)
theorem twelve_cells {v0 v1 v2 v3 v4 v5 v6 v7 v8 v9 v10 v11:Value} {b:Nat} {T:TypeId} {w:World} (h:w.heap[b]? = some (.cells #[v0,v1,v2,v3,v4,v5,v6,v7,v8,v9,v10,v11] T (0,0))):w.cell? ⟨b,0,none⟩ = some v0 ∧ w.cell? ⟨b,1,none⟩ = some v1 ∧ w.cell? ⟨b,2,none⟩ = some v2 ∧ w.cell? ⟨b,3,none⟩ = some v3 ∧ w.cell? ⟨b,4,none⟩ = some v4 ∧ w.cell? ⟨b,5,none⟩ = some v5 ∧ w.cell? ⟨b,6,none⟩ = some v6 ∧ w.cell? ⟨b,7,none⟩ = some v7 ∧ w.cell? ⟨b,8,none⟩ = some v8 ∧ w.cell? ⟨b,9,none⟩ = some v9 ∧ w.cell? ⟨b,10,none⟩ = some v10 ∧ w.cell? ⟨b,11,none⟩ = some v11:=by
 refine ⟨?_,?_,?_,?_,?_,?_,?_,?_,?_,?_,?_,?_⟩ <;> (rw [cell_block h]; rfl)
def chA (u:Nat) (s:Sn) (ya:Option Addr) (yn yc mb:Nat):Array Value:=#[.int .i64 (u:Int),.int .i64 s.k,.int .i64 s.w,.int .i64 s.h,.int .i64 s.x,.int .i64 s.y,.string s.t,.slice none 0 0,.int .i64 s.n,.int .i64 s.c,.slice ya yn yc,.map (some mb)]
def RdDPost (p:Nat) (q:Ms × Nat × Sn) (w:World) (e:Ending) (w':World):Prop:=∃ mb ya yn yc,e = .returned (.agg (chA q.2.1 q.2.2 ya yn yc mb)) ∧ InSt p q.1.st.1 q.1.st.2 w' ∧ w.grownBy w' (some p) ∧ (q.1.st.2 = 0 → ∃ it,q.1.l = it.map imR ∧ ItsAt mb it w') ∧ OwnP .i32 111 w.heap.size (.slice ya yn yc) q.2.2.B w' ∧ w.heap.size ≤ mb
set_option maxRecDepth 100000 in
set_option maxHeartbeats 16000000 in
theorem dread_any (p:Nat) (st:Sta) (w:World) (h:InSt p st.1 st.2 w) (hok:InOk st):Calls Tryd.prog 44 #[.pointer (some ⟨p,0,none⟩)] w (RdDPost p (readD st) w):=by
 obtain ⟨rb,hrb⟩:∃ rb,w.heap.size = rb:=⟨_,rfl⟩
 obtain ⟨P,hP⟩:∃ P,RdDPost p (readD st) w = P:=⟨_,rfl⟩
 rw [hP]
 have HP:=hDx hP
 have HOk:=hDx hok
 have hpl:p < rb:=by obtain ⟨s,hb,-⟩:=h; rw [← hrb]; exact hb.lt
 obtain ⟨w1,hw1⟩:∃ w1,w.alloc (.cells #[.int .i64 0,.int .i64 0,.int .i64 0,.int .i64 0,.int .i64 0,.int .i64 0,.string ⟨#[]⟩,.slice none 0 0,.int .i64 0,.int .i64 0,.slice none 0 0,.map none] 92) = w1:=⟨_,rfl⟩
 obtain ⟨w2,hw2⟩:∃ w2,w1.alloc (.cells #[.int .i64 0,.int .i64 0,.int .i64 0,.int .i64 0,.int .i64 0,.int .i64 0,.string ⟨#[]⟩,.slice none 0 0,.int .i64 0,.int .i64 0,.slice none 0 0,.map none] 92) = w2:=⟨_,rfl⟩
 have hs1:w1.heap.size = rb + 1:=by rw [← hw1,World.size_alloc,hrb]
 obtain ⟨sb,hsb⟩:∃ sb,rb + 1 = sb:=⟨_,rfl⟩
 have hZ1:w1.heap[rb]? = some (.cells #[.int .i64 0,.int .i64 0,.int .i64 0,.int .i64 0,.int .i64 0,.int .i64 0,.string ⟨#[]⟩,.slice none 0 0,.int .i64 0,.int .i64 0,.slice none 0 0,.map none] 92 (0,0)):=by rw [← hw1,← hrb]; exact heap_alloc_new w _
 have hz2:w2.heap[rb]? = some (.cells #[.int .i64 0,.int .i64 0,.int .i64 0,.int .i64 0,.int .i64 0,.int .i64 0,.string ⟨#[]⟩,.slice none 0 0,.int .i64 0,.int .i64 0,.slice none 0 0,.map none] 92 (0,0)):=by rw [← hw2,Below.heap_alloc _ _ _ (by omega)]; exact hZ1
 have hs2:w2.heap[sb]? = some (.cells #[.int .i64 0,.int .i64 0,.int .i64 0,.int .i64 0,.int .i64 0,.int .i64 0,.string ⟨#[]⟩,.slice none 0 0,.int .i64 0,.int .i64 0,.slice none 0 0,.map none] 92 (0,0)):=by rw [← hw2,← hsb,← hs1]; exact heap_alloc_new w1 _
 have hi2:InSt p st.1 st.2 w2:=by rw [← hw2,← hw1]; exact (h.alloc _).alloc _
 have hg2:w.grownBy w2 (some p):=by rw [← hw2,← hw1]; exact grown_trans (World.grownBy_alloc w _ _) (World.grownBy_alloc _ _ _)
 have HNs:Hid (sb ≠ p):=hDx (by omega)
 have HNr:Hid (rb ≠ p):=hDx (by omega)
 have HNp:Hid (p ≠ sb):=hDx (by omega)
 have HSr:Hid (rb + 1 = sb):=hDx hsb
 have HLs:Hid (w.heap.size ≤ sb):=hDx (by omega)
 have HPl:Hid (p < rb):=hDx hpl
 have HRb:=hDx hrb
 have HW1:=hDx hw1
 have HW2:=hDx hw2
 have HS1:=hDx hs1
 clear hP hrb h hok hpl hw1 hw2 hs1 hsb hZ1
 go_enter Tryd.func44,Tryd.ntmps44
 go_upto_region 2 with fail
 rw [HW1.out,HW2.out,HRb.out,HSr.out]
 have hCu:=innum_any p st.1 st.2 w2 hi2
 obtain ⟨⟨s_u,v_u⟩,e_u⟩:∃ q,pU st = q:=⟨_,rfl⟩
 have d_u:numS st.1 st.2 = (s_u,v_u):=by rw [← e_u,pU_def]
 rw [d_u] at hCu
 have HCu:=hDx hCu
 have E_u:=hDx e_u
 have HI2:=hDx (⟨hs2,hz2,hg2⟩:w2.heap[sb]? = some (.cells #[.int .i64 0,.int .i64 0,.int .i64 0,.int .i64 0,.int .i64 0,.int .i64 0,.string ⟨#[]⟩,.slice none 0 0,.int .i64 0,.int .i64 0,.slice none 0 0,.map none] 92 (0,0)) ∧ w2.heap[rb]? = some (.cells #[.int .i64 0,.int .i64 0,.int .i64 0,.int .i64 0,.int .i64 0,.int .i64 0,.string ⟨#[]⟩,.slice none 0 0,.int .i64 0,.int .i64 0,.slice none 0 0,.map none] 92 (0,0)) ∧ w.grownBy w2 (some p))
 clear hs2 hz2 hg2 hi2 hCu d_u
 go_wp2_with fail
 refine HCu.out.mono ?_
 rintro e w3 ⟨rfl,hi3,hgg⟩
 have hs3:=(hgg.block sb (gSx.1 HI2.out.1).1 (fun e => HNs.out (Option.some.inj e))).trans HI2.out.1
 have hz3:=(hgg.block rb (gSx.1 HI2.out.2.1).1 (fun e => HNr.out (Option.some.inj e))).trans HI2.out.2.1
 have hg3:=grown_trans HI2.out.2.2 hgg
 clear hgg
 have cs0:w3.cell? ⟨sb,0,none⟩ = some (.int .i64 0):=by rw [cell_block hs3]; rfl
 have fs0:=frozen_block hs3 0
 obtain ⟨w4,hw4⟩:∃ w4,(w3.setCell ⟨sb,0,none⟩ (.int .i64 (v_u:Int))) = w4:=⟨_,rfl⟩
 have hs4:w4.heap[sb]? = some (.cells #[.int .i64 (v_u:Int),.int .i64 0,.int .i64 0,.int .i64 0,.int .i64 0,.int .i64 0,.string ⟨#[]⟩,.slice none 0 0,.int .i64 0,.int .i64 0,.slice none 0 0,.map none] 92 (0,0)):=by rw [← hw4]; simp [World.setCell,Array.getElem?_modify,hs3]
 have hz4:w4.heap[rb]? = some (.cells #[.int .i64 0,.int .i64 0,.int .i64 0,.int .i64 0,.int .i64 0,.int .i64 0,.string ⟨#[]⟩,.slice none 0 0,.int .i64 0,.int .i64 0,.slice none 0 0,.map none] 92 (0,0)):=by rw [← hw4]; rw [Below.heap_setCell _ _ _ rb (by show rb ≠ sb; have:=HSr.out; omega)]; exact hz3
 have hg4:w.grownBy w4 (some p):=by rw [← hw4]; exact (grown_setNew hg3 HLs.out 0 _)
 have hi4:InSt p s_u.1 s_u.2 w4:=by rw [← hw4]; exact (inst_setOther hi3 HNp.out 0 _)
 have HWs:=hDx hw4
 clear hs3 hz3 hg3 hi3 hw4
 go_upto_region 3 with fail
 rw [HWs.out]
 clear HWs cs0 fs0
 have hCk:=innum_any p s_u.1 s_u.2 w4 hi4
 obtain ⟨⟨s_k,v_k⟩,e_k⟩:∃ q,pK s_u = q:=⟨_,rfl⟩
 have d_k:numS s_u.1 s_u.2 = (s_k,v_k):=by rw [← e_k,pK_def]
 rw [d_k] at hCk
 have HCk:=hDx hCk
 have E_k:=hDx e_k
 have HI4:=hDx (⟨hs4,hz4,hg4⟩:w4.heap[sb]? = some (.cells #[.int .i64 (v_u:Int),.int .i64 0,.int .i64 0,.int .i64 0,.int .i64 0,.int .i64 0,.string ⟨#[]⟩,.slice none 0 0,.int .i64 0,.int .i64 0,.slice none 0 0,.map none] 92 (0,0)) ∧ w4.heap[rb]? = some (.cells #[.int .i64 0,.int .i64 0,.int .i64 0,.int .i64 0,.int .i64 0,.int .i64 0,.string ⟨#[]⟩,.slice none 0 0,.int .i64 0,.int .i64 0,.slice none 0 0,.map none] 92 (0,0)) ∧ w.grownBy w4 (some p))
 clear hs4 hz4 hg4 hi4 hCk d_k
 go_wp2_with fail
 refine HCk.out.mono ?_
 rintro e w5 ⟨rfl,hi5,hgg⟩
 have hs5:=(hgg.block sb (gSx.1 HI4.out.1).1 (fun e => HNs.out (Option.some.inj e))).trans HI4.out.1
 have hz5:=(hgg.block rb (gSx.1 HI4.out.2.1).1 (fun e => HNr.out (Option.some.inj e))).trans HI4.out.2.1
 have hg5:=grown_trans HI4.out.2.2 hgg
 clear hgg
 have cs1:w5.cell? ⟨sb,1,none⟩ = some (.int .i64 0):=by rw [cell_block hs5]; rfl
 have fs1:=frozen_block hs5 1
 obtain ⟨w6,hw6⟩:∃ w6,(w5.setCell ⟨sb,1,none⟩ (.int .i64 (v_k:Int))) = w6:=⟨_,rfl⟩
 have hs6:w6.heap[sb]? = some (.cells #[.int .i64 (v_u:Int),.int .i64 (v_k:Int),.int .i64 0,.int .i64 0,.int .i64 0,.int .i64 0,.string ⟨#[]⟩,.slice none 0 0,.int .i64 0,.int .i64 0,.slice none 0 0,.map none] 92 (0,0)):=by rw [← hw6]; simp [World.setCell,Array.getElem?_modify,hs5]
 have hz6:w6.heap[rb]? = some (.cells #[.int .i64 0,.int .i64 0,.int .i64 0,.int .i64 0,.int .i64 0,.int .i64 0,.string ⟨#[]⟩,.slice none 0 0,.int .i64 0,.int .i64 0,.slice none 0 0,.map none] 92 (0,0)):=by rw [← hw6]; rw [Below.heap_setCell _ _ _ rb (by show rb ≠ sb; have:=HSr.out; omega)]; exact hz5
 have hg6:w.grownBy w6 (some p):=by rw [← hw6]; exact (grown_setNew hg5 HLs.out 1 _)
 have hi6:InSt p s_k.1 s_k.2 w6:=by rw [← hw6]; exact (inst_setOther hi5 HNp.out 1 _)
 have HWs:=hDx hw6
 clear hs5 hz5 hg5 hi5 hw6
 go_upto_region 4 with fail
 rw [HWs.out]
 clear HWs cs1 fs1
 have hCw:=dtsize_any p s_k w6 hi6
 obtain ⟨⟨s_w,v_w⟩,e_w⟩:∃ q,pW s_u = q:=⟨_,rfl⟩
 have d_w:atS s_k 1000 = (s_w,v_w):=by rw [← e_w,pW_def,e_k]
 rw [d_w] at hCw
 have HCw:=hDx hCw
 have E_w:=hDx e_w
 have HI6:=hDx (⟨hs6,hz6,hg6⟩:w6.heap[sb]? = some (.cells #[.int .i64 (v_u:Int),.int .i64 (v_k:Int),.int .i64 0,.int .i64 0,.int .i64 0,.int .i64 0,.string ⟨#[]⟩,.slice none 0 0,.int .i64 0,.int .i64 0,.slice none 0 0,.map none] 92 (0,0)) ∧ w6.heap[rb]? = some (.cells #[.int .i64 0,.int .i64 0,.int .i64 0,.int .i64 0,.int .i64 0,.int .i64 0,.string ⟨#[]⟩,.slice none 0 0,.int .i64 0,.int .i64 0,.slice none 0 0,.map none] 92 (0,0)) ∧ w.grownBy w6 (some p))
 clear hs6 hz6 hg6 hi6 hCw d_w e_k
 go_wp2_with fail
 refine HCw.out.mono ?_
 rintro e w7 ⟨rfl,hi7,hgg⟩
 have hs7:=(hgg.block sb (gSx.1 HI6.out.1).1 (fun e => HNs.out (Option.some.inj e))).trans HI6.out.1
 have hz7:=(hgg.block rb (gSx.1 HI6.out.2.1).1 (fun e => HNr.out (Option.some.inj e))).trans HI6.out.2.1
 have hg7:=grown_trans HI6.out.2.2 hgg
 clear hgg
 have cs2:w7.cell? ⟨sb,2,none⟩ = some (.int .i64 0):=by rw [cell_block hs7]; rfl
 have fs2:=frozen_block hs7 2
 obtain ⟨w8,hw8⟩:∃ w8,(w7.setCell ⟨sb,2,none⟩ (.int .i64 (v_w:Int))) = w8:=⟨_,rfl⟩
 have hs8:w8.heap[sb]? = some (.cells #[.int .i64 (v_u:Int),.int .i64 (v_k:Int),.int .i64 (v_w:Int),.int .i64 0,.int .i64 0,.int .i64 0,.string ⟨#[]⟩,.slice none 0 0,.int .i64 0,.int .i64 0,.slice none 0 0,.map none] 92 (0,0)):=by rw [← hw8]; simp [World.setCell,Array.getElem?_modify,hs7]
 have hz8:w8.heap[rb]? = some (.cells #[.int .i64 0,.int .i64 0,.int .i64 0,.int .i64 0,.int .i64 0,.int .i64 0,.string ⟨#[]⟩,.slice none 0 0,.int .i64 0,.int .i64 0,.slice none 0 0,.map none] 92 (0,0)):=by rw [← hw8]; rw [Below.heap_setCell _ _ _ rb (by show rb ≠ sb; have:=HSr.out; omega)]; exact hz7
 have hg8:w.grownBy w8 (some p):=by rw [← hw8]; exact (grown_setNew hg7 HLs.out 2 _)
 have hi8:InSt p s_w.1 s_w.2 w8:=by rw [← hw8]; exact (inst_setOther hi7 HNp.out 2 _)
 have HWs:=hDx hw8
 clear hs7 hz7 hg7 hi7 hw8
 go_upto_region 5 with fail
 rw [HWs.out]
 clear HWs cs2 fs2
 have hCh:=dtsize_any p s_w w8 hi8
 obtain ⟨⟨s_h,v_h⟩,e_h⟩:∃ q,pH s_u = q:=⟨_,rfl⟩
 have d_h:atS s_w 1000 = (s_h,v_h):=by rw [← e_h,pH_def,e_w]
 rw [d_h] at hCh
 have HCh:=hDx hCh
 have E_h:=hDx e_h
 have HI8:=hDx (⟨hs8,hz8,hg8⟩:w8.heap[sb]? = some (.cells #[.int .i64 (v_u:Int),.int .i64 (v_k:Int),.int .i64 (v_w:Int),.int .i64 0,.int .i64 0,.int .i64 0,.string ⟨#[]⟩,.slice none 0 0,.int .i64 0,.int .i64 0,.slice none 0 0,.map none] 92 (0,0)) ∧ w8.heap[rb]? = some (.cells #[.int .i64 0,.int .i64 0,.int .i64 0,.int .i64 0,.int .i64 0,.int .i64 0,.string ⟨#[]⟩,.slice none 0 0,.int .i64 0,.int .i64 0,.slice none 0 0,.map none] 92 (0,0)) ∧ w.grownBy w8 (some p))
 clear hs8 hz8 hg8 hi8 hCh d_h e_w
 go_wp2_with fail
 refine HCh.out.mono ?_
 rintro e w9 ⟨rfl,hi9,hgg⟩
 have hs9:=(hgg.block sb (gSx.1 HI8.out.1).1 (fun e => HNs.out (Option.some.inj e))).trans HI8.out.1
 have hz9:=(hgg.block rb (gSx.1 HI8.out.2.1).1 (fun e => HNr.out (Option.some.inj e))).trans HI8.out.2.1
 have hg9:=grown_trans HI8.out.2.2 hgg
 clear hgg
 have cs3:w9.cell? ⟨sb,3,none⟩ = some (.int .i64 0):=by rw [cell_block hs9]; rfl
 have fs3:=frozen_block hs9 3
 obtain ⟨w10,hw10⟩:∃ w10,(w9.setCell ⟨sb,3,none⟩ (.int .i64 (v_h:Int))) = w10:=⟨_,rfl⟩
 have hs10:w10.heap[sb]? = some (.cells #[.int .i64 (v_u:Int),.int .i64 (v_k:Int),.int .i64 (v_w:Int),.int .i64 (v_h:Int),.int .i64 0,.int .i64 0,.string ⟨#[]⟩,.slice none 0 0,.int .i64 0,.int .i64 0,.slice none 0 0,.map none] 92 (0,0)):=by rw [← hw10]; simp [World.setCell,Array.getElem?_modify,hs9]
 have hz10:w10.heap[rb]? = some (.cells #[.int .i64 0,.int .i64 0,.int .i64 0,.int .i64 0,.int .i64 0,.int .i64 0,.string ⟨#[]⟩,.slice none 0 0,.int .i64 0,.int .i64 0,.slice none 0 0,.map none] 92 (0,0)):=by rw [← hw10]; rw [Below.heap_setCell _ _ _ rb (by show rb ≠ sb; have:=HSr.out; omega)]; exact hz9
 have hg10:w.grownBy w10 (some p):=by rw [← hw10]; exact (grown_setNew hg9 HLs.out 3 _)
 have hi10:InSt p s_h.1 s_h.2 w10:=by rw [← hw10]; exact (inst_setOther hi9 HNp.out 3 _)
 have HWs:=hDx hw10
 clear hs9 hz9 hg9 hi9 hw10
 go_upto_region 6 with fail
 rw [HWs.out]
 clear HWs cs3 fs3
 have hCx:=innum_any p s_h.1 s_h.2 w10 hi10
 obtain ⟨⟨s_x,v_x⟩,e_x⟩:∃ q,pX s_u = q:=⟨_,rfl⟩
 have d_x:numS s_h.1 s_h.2 = (s_x,v_x):=by rw [← e_x,pX_def,e_h]
 rw [d_x] at hCx
 have HCx:=hDx hCx
 have E_x:=hDx e_x
 have HI10:=hDx (⟨hs10,hz10,hg10⟩:w10.heap[sb]? = some (.cells #[.int .i64 (v_u:Int),.int .i64 (v_k:Int),.int .i64 (v_w:Int),.int .i64 (v_h:Int),.int .i64 0,.int .i64 0,.string ⟨#[]⟩,.slice none 0 0,.int .i64 0,.int .i64 0,.slice none 0 0,.map none] 92 (0,0)) ∧ w10.heap[rb]? = some (.cells #[.int .i64 0,.int .i64 0,.int .i64 0,.int .i64 0,.int .i64 0,.int .i64 0,.string ⟨#[]⟩,.slice none 0 0,.int .i64 0,.int .i64 0,.slice none 0 0,.map none] 92 (0,0)) ∧ w.grownBy w10 (some p))
 clear hs10 hz10 hg10 hi10 hCx d_x e_h
 go_wp2_with fail
 refine HCx.out.mono ?_
 rintro e w11 ⟨rfl,hi11,hgg⟩
 have hs11:=(hgg.block sb (gSx.1 HI10.out.1).1 (fun e => HNs.out (Option.some.inj e))).trans HI10.out.1
 have hz11:=(hgg.block rb (gSx.1 HI10.out.2.1).1 (fun e => HNr.out (Option.some.inj e))).trans HI10.out.2.1
 have hg11:=grown_trans HI10.out.2.2 hgg
 clear hgg
 have hCy:=innum_any p s_x.1 s_x.2 w11 hi11
 obtain ⟨⟨s_y,v_y⟩,e_y⟩:∃ q,pY s_u = q:=⟨_,rfl⟩
 have d_y:numS s_x.1 s_x.2 = (s_y,v_y):=by rw [← e_y,pY_def,e_x]
 rw [d_y] at hCy
 have HCy:=hDx hCy
 have E_y:=hDx e_y
 have HI11:=hDx (⟨hs11,hz11,hg11⟩:w11.heap[sb]? = some (.cells #[.int .i64 (v_u:Int),.int .i64 (v_k:Int),.int .i64 (v_w:Int),.int .i64 (v_h:Int),.int .i64 0,.int .i64 0,.string ⟨#[]⟩,.slice none 0 0,.int .i64 0,.int .i64 0,.slice none 0 0,.map none] 92 (0,0)) ∧ w11.heap[rb]? = some (.cells #[.int .i64 0,.int .i64 0,.int .i64 0,.int .i64 0,.int .i64 0,.int .i64 0,.string ⟨#[]⟩,.slice none 0 0,.int .i64 0,.int .i64 0,.slice none 0 0,.map none] 92 (0,0)) ∧ w.grownBy w11 (some p))
 clear hs11 hz11 hg11 hi11 hCy d_y e_x
 go_wp2_with fail
 refine HCy.out.mono ?_
 rintro e w12 ⟨rfl,hi12,hgg⟩
 have hs12:=(hgg.block sb (gSx.1 HI11.out.1).1 (fun e => HNs.out (Option.some.inj e))).trans HI11.out.1
 have hz12:=(hgg.block rb (gSx.1 HI11.out.2.1).1 (fun e => HNr.out (Option.some.inj e))).trans HI11.out.2.1
 have hg12:=grown_trans HI11.out.2.2 hgg
 clear hgg
 have cs4:w12.cell? ⟨sb,4,none⟩ = some (.int .i64 0):=by rw [cell_block hs12]; rfl
 have fs4:=frozen_block hs12 4
 have cs5:w12.cell? ⟨sb,5,none⟩ = some (.int .i64 0):=by rw [cell_block hs12]; rfl
 have fs5:=frozen_block hs12 5
 obtain ⟨w13,hw13⟩:∃ w13,((w12.setCell ⟨sb,4,none⟩ (.int .i64 (v_x:Int))).setCell ⟨sb,5,none⟩ (.int .i64 (v_y:Int))) = w13:=⟨_,rfl⟩
 have hs13:w13.heap[sb]? = some (.cells #[.int .i64 (v_u:Int),.int .i64 (v_k:Int),.int .i64 (v_w:Int),.int .i64 (v_h:Int),.int .i64 (v_x:Int),.int .i64 (v_y:Int),.string ⟨#[]⟩,.slice none 0 0,.int .i64 0,.int .i64 0,.slice none 0 0,.map none] 92 (0,0)):=by rw [← hw13]; simp [World.setCell,Array.getElem?_modify,hs12]
 have hz13:w13.heap[rb]? = some (.cells #[.int .i64 0,.int .i64 0,.int .i64 0,.int .i64 0,.int .i64 0,.int .i64 0,.string ⟨#[]⟩,.slice none 0 0,.int .i64 0,.int .i64 0,.slice none 0 0,.map none] 92 (0,0)):=by rw [← hw13]; rw [Below.heap_setCell _ _ _ rb (by show rb ≠ sb; have:=HSr.out; omega)]; rw [Below.heap_setCell _ _ _ rb (by show rb ≠ sb; have:=HSr.out; omega)]; exact hz12
 have hg13:w.grownBy w13 (some p):=by rw [← hw13]; exact (grown_setNew (grown_setNew hg12 HLs.out 4 _) HLs.out 5 _)
 have hi13:InSt p s_y.1 s_y.2 w13:=by rw [← hw13]; exact (inst_setOther (inst_setOther hi12 HNp.out 4 _) HNp.out 5 _)
 have HWs:=hDx hw13
 clear hs12 hz12 hg12 hi12 hw13
 go_upto_region 7 with fail
 rw [HWs.out]
 clear HWs cs4 fs4 cs5 fs5
 have hCt:=intext_any p s_y.1 s_y.2 w13 hi13
 obtain ⟨⟨s_t,v_t⟩,e_t⟩:∃ q,pT s_u = q:=⟨_,rfl⟩
 have d_t:textS s_y.1 s_y.2 = (s_t,v_t):=by rw [← e_t,pT_def,e_y]
 rw [d_t] at hCt
 have HCt:=hDx hCt
 have E_t:=hDx e_t
 have HI13:=hDx (⟨hs13,hz13,hg13⟩:w13.heap[sb]? = some (.cells #[.int .i64 (v_u:Int),.int .i64 (v_k:Int),.int .i64 (v_w:Int),.int .i64 (v_h:Int),.int .i64 (v_x:Int),.int .i64 (v_y:Int),.string ⟨#[]⟩,.slice none 0 0,.int .i64 0,.int .i64 0,.slice none 0 0,.map none] 92 (0,0)) ∧ w13.heap[rb]? = some (.cells #[.int .i64 0,.int .i64 0,.int .i64 0,.int .i64 0,.int .i64 0,.int .i64 0,.string ⟨#[]⟩,.slice none 0 0,.int .i64 0,.int .i64 0,.slice none 0 0,.map none] 92 (0,0)) ∧ w.grownBy w13 (some p))
 clear hs13 hz13 hg13 hi13 hCt d_t e_y
 go_wp2_with fail
 refine HCt.out.mono ?_
 rintro e w14 ⟨tt,rfl,htt,hi14,hgg⟩
 obtain rfl:tt = ⟨v_t.toArray⟩:=bytes_eqN (by rw [htt])
 clear htt
 have hs14:=(hgg.block sb (gSx.1 HI13.out.1).1 (fun e => HNs.out (Option.some.inj e))).trans HI13.out.1
 have hz14:=(hgg.block rb (gSx.1 HI13.out.2.1).1 (fun e => HNr.out (Option.some.inj e))).trans HI13.out.2.1
 have hg14:=grown_trans HI13.out.2.2 hgg
 clear hgg
 have cs6:w14.cell? ⟨sb,6,none⟩ = some (.string ⟨#[]⟩):=by rw [cell_block hs14]; rfl
 have fs6:=frozen_block hs14 6
 obtain ⟨w15,hw15⟩:∃ w15,(w14.setCell ⟨sb,6,none⟩ (.string ⟨v_t.toArray⟩)) = w15:=⟨_,rfl⟩
 have hs15:w15.heap[sb]? = some (.cells #[.int .i64 (v_u:Int),.int .i64 (v_k:Int),.int .i64 (v_w:Int),.int .i64 (v_h:Int),.int .i64 (v_x:Int),.int .i64 (v_y:Int),.string ⟨v_t.toArray⟩,.slice none 0 0,.int .i64 0,.int .i64 0,.slice none 0 0,.map none] 92 (0,0)):=by rw [← hw15]; simp [World.setCell,Array.getElem?_modify,hs14]
 have hz15:w15.heap[rb]? = some (.cells #[.int .i64 0,.int .i64 0,.int .i64 0,.int .i64 0,.int .i64 0,.int .i64 0,.string ⟨#[]⟩,.slice none 0 0,.int .i64 0,.int .i64 0,.slice none 0 0,.map none] 92 (0,0)):=by rw [← hw15]; rw [Below.heap_setCell _ _ _ rb (by show rb ≠ sb; have:=HSr.out; omega)]; exact hz14
 have hg15:w.grownBy w15 (some p):=by rw [← hw15]; exact (grown_setNew hg14 HLs.out 6 _)
 have hi15:InSt p s_t.1 s_t.2 w15:=by rw [← hw15]; exact (inst_setOther hi14 HNp.out 6 _)
 have HWs:=hDx hw15
 clear hs14 hz14 hg14 hi14 hw15
 go_upto_region 8 with fail
 rw [HWs.out]
 clear HWs cs6 fs6
 have hCn:=innum_any p s_t.1 s_t.2 w15 hi15
 obtain ⟨⟨s_n,v_n⟩,e_n⟩:∃ q,pN s_u = q:=⟨_,rfl⟩
 have d_n:numS s_t.1 s_t.2 = (s_n,v_n):=by rw [← e_n,pN_def,e_t]
 rw [d_n] at hCn
 have HCn:=hDx hCn
 have E_n:=hDx e_n
 have HI15:=hDx (⟨hs15,hz15,hg15⟩:w15.heap[sb]? = some (.cells #[.int .i64 (v_u:Int),.int .i64 (v_k:Int),.int .i64 (v_w:Int),.int .i64 (v_h:Int),.int .i64 (v_x:Int),.int .i64 (v_y:Int),.string ⟨v_t.toArray⟩,.slice none 0 0,.int .i64 0,.int .i64 0,.slice none 0 0,.map none] 92 (0,0)) ∧ w15.heap[rb]? = some (.cells #[.int .i64 0,.int .i64 0,.int .i64 0,.int .i64 0,.int .i64 0,.int .i64 0,.string ⟨#[]⟩,.slice none 0 0,.int .i64 0,.int .i64 0,.slice none 0 0,.map none] 92 (0,0)) ∧ w.grownBy w15 (some p))
 clear hs15 hz15 hg15 hi15 hCn d_n e_t
 go_wp2_with fail
 refine HCn.out.mono ?_
 rintro e w16 ⟨rfl,hi16,hgg⟩
 have hs16:=(hgg.block sb (gSx.1 HI15.out.1).1 (fun e => HNs.out (Option.some.inj e))).trans HI15.out.1
 have hz16:=(hgg.block rb (gSx.1 HI15.out.2.1).1 (fun e => HNr.out (Option.some.inj e))).trans HI15.out.2.1
 have hg16:=grown_trans HI15.out.2.2 hgg
 clear hgg
 have hCc:=innum_any p s_n.1 s_n.2 w16 hi16
 obtain ⟨⟨s_c,v_c⟩,e_c⟩:∃ q,pC s_u = q:=⟨_,rfl⟩
 have d_c:numS s_n.1 s_n.2 = (s_c,v_c):=by rw [← e_c,pC_def,e_n]
 rw [d_c] at hCc
 have HCc:=hDx hCc
 have E_c:=hDx e_c
 have HI16:=hDx (⟨hs16,hz16,hg16⟩:w16.heap[sb]? = some (.cells #[.int .i64 (v_u:Int),.int .i64 (v_k:Int),.int .i64 (v_w:Int),.int .i64 (v_h:Int),.int .i64 (v_x:Int),.int .i64 (v_y:Int),.string ⟨v_t.toArray⟩,.slice none 0 0,.int .i64 0,.int .i64 0,.slice none 0 0,.map none] 92 (0,0)) ∧ w16.heap[rb]? = some (.cells #[.int .i64 0,.int .i64 0,.int .i64 0,.int .i64 0,.int .i64 0,.int .i64 0,.string ⟨#[]⟩,.slice none 0 0,.int .i64 0,.int .i64 0,.slice none 0 0,.map none] 92 (0,0)) ∧ w.grownBy w16 (some p))
 clear hs16 hz16 hg16 hi16 hCc d_c e_n
 go_wp2_with fail
 refine HCc.out.mono ?_
 rintro e w17 ⟨rfl,hi17,hgg⟩
 have hs17:=(hgg.block sb (gSx.1 HI16.out.1).1 (fun e => HNs.out (Option.some.inj e))).trans HI16.out.1
 have hz17:=(hgg.block rb (gSx.1 HI16.out.2.1).1 (fun e => HNr.out (Option.some.inj e))).trans HI16.out.2.1
 have hg17:=grown_trans HI16.out.2.2 hgg
 clear hgg
 have cs8:w17.cell? ⟨sb,8,none⟩ = some (.int .i64 0):=by rw [cell_block hs17]; rfl
 have fs8:=frozen_block hs17 8
 have cs9:w17.cell? ⟨sb,9,none⟩ = some (.int .i64 0):=by rw [cell_block hs17]; rfl
 have fs9:=frozen_block hs17 9
 obtain ⟨w18,hw18⟩:∃ w18,((w17.setCell ⟨sb,8,none⟩ (.int .i64 (v_n:Int))).setCell ⟨sb,9,none⟩ (.int .i64 (v_c:Int))) = w18:=⟨_,rfl⟩
 have hs18:w18.heap[sb]? = some (.cells #[.int .i64 (v_u:Int),.int .i64 (v_k:Int),.int .i64 (v_w:Int),.int .i64 (v_h:Int),.int .i64 (v_x:Int),.int .i64 (v_y:Int),.string ⟨v_t.toArray⟩,.slice none 0 0,.int .i64 (v_n:Int),.int .i64 (v_c:Int),.slice none 0 0,.map none] 92 (0,0)):=by rw [← hw18]; simp [World.setCell,Array.getElem?_modify,hs17]
 have hz18:w18.heap[rb]? = some (.cells #[.int .i64 0,.int .i64 0,.int .i64 0,.int .i64 0,.int .i64 0,.int .i64 0,.string ⟨#[]⟩,.slice none 0 0,.int .i64 0,.int .i64 0,.slice none 0 0,.map none] 92 (0,0)):=by rw [← hw18]; rw [Below.heap_setCell _ _ _ rb (by show rb ≠ sb; have:=HSr.out; omega)]; rw [Below.heap_setCell _ _ _ rb (by show rb ≠ sb; have:=HSr.out; omega)]; exact hz17
 have hg18:w.grownBy w18 (some p):=by rw [← hw18]; exact (grown_setNew (grown_setNew hg17 HLs.out 8 _) HLs.out 9 _)
 have hi18:InSt p s_c.1 s_c.2 w18:=by rw [← hw18]; exact (inst_setOther (inst_setOther hi17 HNp.out 8 _) HNp.out 9 _)
 have HWs:=hDx hw18
 clear hs17 hz17 hg17 hi17 hw18
 go_upto_region 9 with fail
 rw [HWs.out]
 clear HWs cs8 fs8 cs9 fs9
 have hCB:=bread_any p s_c w18 hi18
 obtain ⟨⟨s_B,v_B⟩,e_B⟩:∃ q,pB s_u = q:=⟨_,rfl⟩
 have d_B:readS s_c = (s_B,v_B):=by rw [← e_B,pB_def,e_c]
 unfold RdPost at hCB
 rw [d_B] at hCB
 have HCB:=hDx hCB
 have E_B:=hDx e_B
 have HI18:=hDx (⟨hs18,hz18,hg18⟩:w18.heap[sb]? = some (.cells #[.int .i64 (v_u:Int),.int .i64 (v_k:Int),.int .i64 (v_w:Int),.int .i64 (v_h:Int),.int .i64 (v_x:Int),.int .i64 (v_y:Int),.string ⟨v_t.toArray⟩,.slice none 0 0,.int .i64 (v_n:Int),.int .i64 (v_c:Int),.slice none 0 0,.map none] 92 (0,0)) ∧ w18.heap[rb]? = some (.cells #[.int .i64 0,.int .i64 0,.int .i64 0,.int .i64 0,.int .i64 0,.int .i64 0,.string ⟨#[]⟩,.slice none 0 0,.int .i64 0,.int .i64 0,.slice none 0 0,.map none] 92 (0,0)) ∧ w.grownBy w18 (some p))
 clear hs18 hz18 hg18 hi18 hCB d_B e_c
 go_wp2_with fail
 refine HCB.out.mono ?_
 rintro e w19 ⟨vb,rfl,hown,hi19,hgg⟩
 obtain ⟨ya,yc,hvb,-⟩:=hown.shape
 obtain ⟨yn,hyn⟩:∃ n,v_B.length = n:=⟨_,rfl⟩
 rw [hyn] at hvb
 subst hvb
 have hs19:=(hgg.block sb (gSx.1 HI18.out.1).1 (fun e => HNs.out (Option.some.inj e))).trans HI18.out.1
 have hz19:=(hgg.block rb (gSx.1 HI18.out.2.1).1 (fun e => HNr.out (Option.some.inj e))).trans HI18.out.2.1
 have hg19:=grown_trans HI18.out.2.2 hgg
 clear hgg
 have cs10:w19.cell? ⟨sb,10,none⟩ = some (.slice none 0 0):=by rw [cell_block hs19]; rfl
 have fs10:=frozen_block hs19 10
 obtain ⟨w20,hw20⟩:∃ w20,(w19.setCell ⟨sb,10,none⟩ (.slice ya yn yc)) = w20:=⟨_,rfl⟩
 have hs20:w20.heap[sb]? = some (.cells #[.int .i64 (v_u:Int),.int .i64 (v_k:Int),.int .i64 (v_w:Int),.int .i64 (v_h:Int),.int .i64 (v_x:Int),.int .i64 (v_y:Int),.string ⟨v_t.toArray⟩,.slice none 0 0,.int .i64 (v_n:Int),.int .i64 (v_c:Int),.slice ya yn yc,.map none] 92 (0,0)):=by rw [← hw20]; simp [World.setCell,Array.getElem?_modify,hs19]
 have hz20:w20.heap[rb]? = some (.cells #[.int .i64 0,.int .i64 0,.int .i64 0,.int .i64 0,.int .i64 0,.int .i64 0,.string ⟨#[]⟩,.slice none 0 0,.int .i64 0,.int .i64 0,.slice none 0 0,.map none] 92 (0,0)):=by rw [← hw20]; rw [Below.heap_setCell _ _ _ rb (by show rb ≠ sb; have:=HSr.out; omega)]; exact hz19
 have hg20:w.grownBy w20 (some p):=by rw [← hw20]; exact (grown_setNew hg19 HLs.out 10 _)
 have hi20:InSt p s_B.1 s_B.2 w20:=by rw [← hw20]; exact (inst_setOther hi19 HNp.out 10 _)
 have ho20:OwnP .i32 111 (sb + 1) (.slice ya yn yc) v_B w20:=by rw [← hw20]; exact (hown.weaken (by have:=HI18.out.1; have:=(gSx.1 this).1; omega)).kept (grown_set w19 sb 10 _) (fun q hq e => by have:=((hown.weaken (base':=sb + 1) (by have:=HI18.out.1; have:=(gSx.1 this).1; omega)).ownBlock q hq).1; have:=Option.some.inj e; omega)
 have HWs:=hDx hw20
 clear hs19 hz19 hg19 hi19 hw20
 go_upto_region 10 with fail
 rw [HWs.out]
 clear HWs cs10 fs10
 have hvw:v_w ≤ 1000:=by have h:=atS_le (pK s_u).1 1000; rw [← pW_def,E_w.out] at h; exact h
 have hvh:v_h ≤ 1000:=by have h:=atS_le (pW s_u).1 1000; rw [← pH_def,E_h.out] at h; exact h
 have hoB:InOk s_B:=by have h1:=pB_ok (st:=s_u) (by have h2:=numS_ok HOk.out; rw [← pU_def,E_u.out] at h2; exact h2); rw [E_B.out] at h1; exact h1
 have HRr:=hDx (readRows_any p s_B v_w v_h hvw hvh w20 hi20 hoB)
 obtain ⟨m,hm⟩:∃ m,readM v_w v_h s_B = m:=⟨_,rfl⟩
 rw [hm] at HRr
 have HRdD:Hid (readD st = (m,v_u,⟨v_k,v_w,v_h,v_x,v_y,⟨v_t.toArray⟩,[],v_n,v_c,v_B⟩)):=hDx (by
  unfold readD
  rw [E_u.out]
  simp only
  rw [E_k.out,E_w.out,E_h.out,E_x.out,E_y.out,E_t.out,E_n.out,E_c.out,E_B.out]
  simp only
  rw [hm])
 have l2:w20.cell? ⟨sb,2,none⟩ = some (.int .i64 (v_w:Int)):=by rw [cell_block hs20]; rfl
 have l3:w20.cell? ⟨sb,3,none⟩ = some (.int .i64 (v_h:Int)):=by rw [cell_block hs20]; rfl
 have HIN:=hDx (⟨hs20,hz20,hg20,ho20⟩:w20.heap[sb]? = some (.cells #[.int .i64 (v_u:Int),.int .i64 (v_k:Int),.int .i64 (v_w:Int),.int .i64 (v_h:Int),.int .i64 (v_x:Int),.int .i64 (v_y:Int),.string ⟨v_t.toArray⟩,.slice none 0 0,.int .i64 (v_n:Int),.int .i64 (v_c:Int),.slice ya yn yc,.map none] 92 (0,0)) ∧ w20.heap[rb]? = some (.cells #[.int .i64 0,.int .i64 0,.int .i64 0,.int .i64 0,.int .i64 0,.int .i64 0,.string ⟨#[]⟩,.slice none 0 0,.int .i64 0,.int .i64 0,.slice none 0 0,.map none] 92 (0,0)) ∧ w.grownBy w20 (some p) ∧ OwnP .i32 111 (sb + 1) (.slice ya yn yc) v_B w20)
 clear hs20 hz20 hg20 ho20 hi20 hvw hvh hoB hm
 go_wp2_with fail
 clear l2 l3
 refine HRr.out.mono ?_
 rintro e wB ⟨rfl,hR⟩
 obtain ⟨mb,hmb⟩:∃ mb,w20.heap.size = mb:=⟨_,rfl⟩
 rw [hmb] at hR ⊢
 have hsm:sb < mb:=by rw [← hmb]; exact (gSx.1 HIN.out.1).1
 have hsB:=(hR.g.block sb (by rw [hmb]; exact hsm) (fun e => HNs.out (Option.some.inj e))).trans HIN.out.1
 have hzB:=(hR.g.block rb (by rw [hmb]; have:=HSr.out; omega) (fun e => HNr.out (Option.some.inj e))).trans HIN.out.2.1
 have hgB:=grown_trans HIN.out.2.2.1 hR.g
 have hoB:=ownP_of HIN.out.2.2.2 hR.g (fun q e => .inl (by have:=Option.some.inj e; have:=HPl.out; have:=HSr.out; omega))
 have cs11:wB.cell? ⟨sb,11,none⟩ = some (.map none):=by rw [cell_block hsB]; rfl
 have fs11:=frozen_block hsB 11
 obtain ⟨wD,hwD⟩:∃ wD,(wB.setCell ⟨sb,11,none⟩ (.map (some mb))) = wD:=⟨_,rfl⟩
 have hsD:wD.heap[sb]? = some (.cells #[.int .i64 (v_u:Int),.int .i64 (v_k:Int),.int .i64 (v_w:Int),.int .i64 (v_h:Int),.int .i64 (v_x:Int),.int .i64 (v_y:Int),.string ⟨v_t.toArray⟩,.slice none 0 0,.int .i64 (v_n:Int),.int .i64 (v_c:Int),.slice ya yn yc,.map (some mb)] 92 (0,0)):=by rw [← hwD]; simp [World.setCell,Array.getElem?_modify,hsB]
 have hzD:wD.heap[rb]? = some (.cells #[.int .i64 0,.int .i64 0,.int .i64 0,.int .i64 0,.int .i64 0,.int .i64 0,.string ⟨#[]⟩,.slice none 0 0,.int .i64 0,.int .i64 0,.slice none 0 0,.map none] 92 (0,0)):=by rw [← hwD]; rw [Below.heap_setCell _ _ _ rb (by show rb ≠ sb; have:=HSr.out; omega)]; exact hzB
 have hgD:w.grownBy wD (some p):=by rw [← hwD]; exact grown_setNew hgB HLs.out 11 _
 have hiD:InSt p m.st.1 m.st.2 wD:=by rw [← hwD]; exact inst_setOther hR.i HNp.out 11 _
 have hoD:OwnP .i32 111 (sb + 1) (.slice ya yn yc) v_B wD:=by rw [← hwD]; exact ownP_of hoB (grown_set wB sb 11 _) (fun q e => .inl (by have:=Option.some.inj e; omega))
 have hmD:m.st.2 = 0 → ∃ it,m.l = it.map imR ∧ ItsAt mb it wD:=fun h0 => by
  obtain ⟨it,h1,h2⟩:=hR.ok h0
  exact ⟨it,h1,by rw [← hwD]; exact h2.grown (grown_set wB sb 11 _) hsm⟩
 have HWs:=hDx hwD
 have HZD:=hDx hzD
 obtain ⟨wE,hwE⟩:∃ wE,((((((((((((wD.setCell ⟨rb,0,none⟩ (.int .i64 (v_u:Int))).setCell ⟨rb,1,none⟩ (.int .i64 (v_k:Int))).setCell ⟨rb,2,none⟩ (.int .i64 (v_w:Int))).setCell ⟨rb,3,none⟩ (.int .i64 (v_h:Int))).setCell ⟨rb,4,none⟩ (.int .i64 (v_x:Int))).setCell ⟨rb,5,none⟩ (.int .i64 (v_y:Int))).setCell ⟨rb,6,none⟩ (.string ⟨v_t.toArray⟩)).setCell ⟨rb,7,none⟩ (.slice none 0 0)).setCell ⟨rb,8,none⟩ (.int .i64 (v_n:Int))).setCell ⟨rb,9,none⟩ (.int .i64 (v_c:Int))).setCell ⟨rb,10,none⟩ (.slice ya yn yc)).setCell ⟨rb,11,none⟩ (.map (some mb))) = wE:=⟨_,rfl⟩
 have hzE:wE.heap[rb]? = some (.cells #[.int .i64 (v_u:Int),.int .i64 (v_k:Int),.int .i64 (v_w:Int),.int .i64 (v_h:Int),.int .i64 (v_x:Int),.int .i64 (v_y:Int),.string ⟨v_t.toArray⟩,.slice none 0 0,.int .i64 (v_n:Int),.int .i64 (v_c:Int),.slice ya yn yc,.map (some mb)] 92 (0,0)):=by rw [← hwE]; simp [World.setCell,Array.getElem?_modify,hzD]
 have HZE:=hDx hzE
 have HWE:=hDx hwE
 have hend:Hid (P (.returned (.agg #[.int .i64 (v_u:Int),.int .i64 (v_k:Int),.int .i64 (v_w:Int),.int .i64 (v_h:Int),.int .i64 (v_x:Int),.int .i64 (v_y:Int),.string ⟨v_t.toArray⟩,.slice none 0 0,.int .i64 (v_n:Int),.int .i64 (v_c:Int),.slice ya yn yc,.map (some mb)])) wE):=hDx (by
  rw [← HP.out,HRdD.out,← hwE]
  have hg:∀ (u:World) (o:Nat) (x:Value),u.grownBy (u.setCell ⟨rb,o,none⟩ x) (some rb):=fun u o x => grown_set u rb o x
  have g10:wD.grownBy ((((((((((((wD.setCell ⟨rb,0,none⟩ (.int .i64 (v_u:Int))).setCell ⟨rb,1,none⟩ (.int .i64 (v_k:Int))).setCell ⟨rb,2,none⟩ (.int .i64 (v_w:Int))).setCell ⟨rb,3,none⟩ (.int .i64 (v_h:Int))).setCell ⟨rb,4,none⟩ (.int .i64 (v_x:Int))).setCell ⟨rb,5,none⟩ (.int .i64 (v_y:Int))).setCell ⟨rb,6,none⟩ (.string ⟨v_t.toArray⟩)).setCell ⟨rb,7,none⟩ (.slice none 0 0)).setCell ⟨rb,8,none⟩ (.int .i64 (v_n:Int))).setCell ⟨rb,9,none⟩ (.int .i64 (v_c:Int))).setCell ⟨rb,10,none⟩ (.slice ya yn yc)).setCell ⟨rb,11,none⟩ (.map (some mb))) (some rb):=(grown_trans (grown_trans (grown_trans (grown_trans (grown_trans (grown_trans (grown_trans (grown_trans (grown_trans (grown_trans (grown_trans (hg wD 0 _) (hg _ 1 _)) (hg _ 2 _)) (hg _ 3 _)) (hg _ 4 _)) (hg _ 5 _)) (hg _ 6 _)) (hg _ 7 _)) (hg _ 8 _)) (hg _ 9 _)) (hg _ 10 _)) (hg _ 11 _))
  have gw:w.grownBy ((((((((((((wD.setCell ⟨rb,0,none⟩ (.int .i64 (v_u:Int))).setCell ⟨rb,1,none⟩ (.int .i64 (v_k:Int))).setCell ⟨rb,2,none⟩ (.int .i64 (v_w:Int))).setCell ⟨rb,3,none⟩ (.int .i64 (v_h:Int))).setCell ⟨rb,4,none⟩ (.int .i64 (v_x:Int))).setCell ⟨rb,5,none⟩ (.int .i64 (v_y:Int))).setCell ⟨rb,6,none⟩ (.string ⟨v_t.toArray⟩)).setCell ⟨rb,7,none⟩ (.slice none 0 0)).setCell ⟨rb,8,none⟩ (.int .i64 (v_n:Int))).setCell ⟨rb,9,none⟩ (.int .i64 (v_c:Int))).setCell ⟨rb,10,none⟩ (.slice ya yn yc)).setCell ⟨rb,11,none⟩ (.map (some mb))) (some p):=(grown_setNew (grown_setNew (grown_setNew (grown_setNew (grown_setNew (grown_setNew (grown_setNew (grown_setNew (grown_setNew (grown_setNew (grown_setNew (grown_setNew (hgD) (by have:=HSr.out; have:=HRb.out; omega) 0 _) (by have:=HSr.out; have:=HRb.out; omega) 1 _) (by have:=HSr.out; have:=HRb.out; omega) 2 _) (by have:=HSr.out; have:=HRb.out; omega) 3 _) (by have:=HSr.out; have:=HRb.out; omega) 4 _) (by have:=HSr.out; have:=HRb.out; omega) 5 _) (by have:=HSr.out; have:=HRb.out; omega) 6 _) (by have:=HSr.out; have:=HRb.out; omega) 7 _) (by have:=HSr.out; have:=HRb.out; omega) 8 _) (by have:=HSr.out; have:=HRb.out; omega) 9 _) (by have:=HSr.out; have:=HRb.out; omega) 10 _) (by have:=HSr.out; have:=HRb.out; omega) 11 _)
  have hi:InSt p m.st.1 m.st.2 ((((((((((((wD.setCell ⟨rb,0,none⟩ (.int .i64 (v_u:Int))).setCell ⟨rb,1,none⟩ (.int .i64 (v_k:Int))).setCell ⟨rb,2,none⟩ (.int .i64 (v_w:Int))).setCell ⟨rb,3,none⟩ (.int .i64 (v_h:Int))).setCell ⟨rb,4,none⟩ (.int .i64 (v_x:Int))).setCell ⟨rb,5,none⟩ (.int .i64 (v_y:Int))).setCell ⟨rb,6,none⟩ (.string ⟨v_t.toArray⟩)).setCell ⟨rb,7,none⟩ (.slice none 0 0)).setCell ⟨rb,8,none⟩ (.int .i64 (v_n:Int))).setCell ⟨rb,9,none⟩ (.int .i64 (v_c:Int))).setCell ⟨rb,10,none⟩ (.slice ya yn yc)).setCell ⟨rb,11,none⟩ (.map (some mb))):=(inst_setOther (inst_setOther (inst_setOther (inst_setOther (inst_setOther (inst_setOther (inst_setOther (inst_setOther (inst_setOther (inst_setOther (inst_setOther (inst_setOther (hiD) (by have:=HPl.out; omega) 0 _) (by have:=HPl.out; omega) 1 _) (by have:=HPl.out; omega) 2 _) (by have:=HPl.out; omega) 3 _) (by have:=HPl.out; omega) 4 _) (by have:=HPl.out; omega) 5 _) (by have:=HPl.out; omega) 6 _) (by have:=HPl.out; omega) 7 _) (by have:=HPl.out; omega) 8 _) (by have:=HPl.out; omega) 9 _) (by have:=HPl.out; omega) 10 _) (by have:=HPl.out; omega) 11 _)
  refine ⟨mb,ya,yn,yc,rfl,hi,gw,fun h0 => ?_,(ownP_of hoD g10 (fun q e => .inl (by have:=Option.some.inj e; have:=HSr.out; omega))).weaken (by have:=HSr.out; have:=HRb.out; omega),by have:=HSr.out; have:=HRb.out; omega⟩
  obtain ⟨it,h1,h2⟩:=hmD h0
  exact ⟨it,h1,h2.grown g10 (by have:=HSr.out; omega)⟩)
 obtain ⟨x0,x1,x2,x3,x4,x5,x6,x7,x8,x9,x10,x11⟩:=twelve_cells hsD
 obtain ⟨y0,y1,y2,y3,y4,y5,y6,y7,y8,y9,y10,y11⟩:=twelve_cells hzD
 have f0:=frozen_block hzD 0
 have f1:=frozen_block hzD 1
 have f2:=frozen_block hzD 2
 have f3:=frozen_block hzD 3
 have f4:=frozen_block hzD 4
 have f5:=frozen_block hzD 5
 have f6:=frozen_block hzD 6
 have f7:=frozen_block hzD 7
 have f8:=frozen_block hzD 8
 have f9:=frozen_block hzD 9
 have f10:=frozen_block hzD 10
 have f11:=frozen_block hzD 11
 clear hzE hwE hsB hzB hgB hoB hsD hzD hgD hiD hoD hmD hwD hR hsm hmb HRr
 go_upto_region 11 with fail
 rw [HWs.out]
 clear cs11 fs11 HWs
 go_wp2_with fail
 rw [HWE.out]
 exact bodyPost_ret (results_cell_row rfl _ _ rb 92 #[.int .i64 (v_u:Int),.int .i64 (v_k:Int),.int .i64 (v_w:Int),.int .i64 (v_h:Int),.int .i64 (v_x:Int),.int .i64 (v_y:Int),.string ⟨v_t.toArray⟩,.slice none 0 0,.int .i64 (v_n:Int),.int .i64 (v_c:Int),.slice ya yn yc,.map (some mb)] (0,0) _ rfl HZE.out Tryd.underlying92 rfl (by kernel_rfl)) rfl hend.out
end Go.Proofs.YtagolklnjhpbdaaDoor.K
