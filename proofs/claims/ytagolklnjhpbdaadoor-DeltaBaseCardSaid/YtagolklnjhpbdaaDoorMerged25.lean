import Derived.Test.YtagolklnjhpbdaaDoorMerged0
import Derived.Test.YtagolklnjhpbdaaDoorMerged19
import Derived.Test.YtagolklnjhpbdaaDoorMerged24
import Derived.Test.YtagolklnjhpbdaaDoorNPack
import Derived.Test.YtagolklnjhpbdaaDoorMerged21
import Derived.Test.YtagolklnjhpbdaaDoorMerged14
import Derived.RangeFuncRecord
import Derived.RangeFuncLeaves
import Derived.RangeFuncKeeps
import Derived.RangeFuncFrom
namespace Go.Proofs.YtagolklnjhpbdaaDoor.S
open Go.RowKit
theorem bits_xor_i64 (a b:Nat) (ha:a < 4294967296) (hb:b < 4294967296):bits .xor .i64 (a:Int) (b:Int) = ((a ^^^ b:Nat):Int):=by
 have hx:a ^^^ b < 4294967296:=Nat.xor_lt_two_pow (n:=32) ha hb
 simp only [bits,BitVec.ofInt_natCast,BitVec.toNat_xor,BitVec.toNat_ofNat,show IntKind.bits .i64 = 64 from rfl]
 rw [Nat.mod_eq_of_lt (by omega:a < 2 ^ 64),Nat.mod_eq_of_lt (by omega:b < 2 ^ 64)]
 generalize a ^^^ b = n at hx
 simp [IntKind.wrap,IntKind.bits,IntKind.signed]
 omega
theorem not_nat (C:Nat) (h:C < 4294967296):C ^^^ 4294967295 = 4294967295 - C:=by
 apply Nat.eq_of_testBit_eq
 intro i
 have h2:(4294967295:Nat) - C = 2 ^ 32 - (C + 1):=by omega
 rw [h2,Nat.testBit_two_pow_sub_succ (by omega),Nat.testBit_xor,show (4294967295:Nat) = 2 ^ 32 - 1 from rfl,Nat.testBit_two_pow_sub_one]
 by_cases hi:i < 32
 · simp [hi]
 · simp [hi,Nat.testBit_lt_two_pow (show C < 2 ^ i from Nat.lt_of_lt_of_le (show C < 2 ^ 32 from h) (Nat.pow_le_pow_right (by decide) (by omega)))]
theorem rn_succ (n x:Nat):rn (n + 1) x = rn n (r1 x):=rfl
set_option maxRecDepth 100000 in
set_option maxHeartbeats 1000000 in
theorem refof_any (s:ByteArray) (hz:(s.size:Int) ≤ 9223372036854775807) (w:World) :
    Calls Tryd.prog 53 #[.string s] w fun e w' => e = .returned (.int .i64 (sumOf s.data.toList:Nat)) ∧ w = w':=by
 go_enter Tryd.func53,Tryd.ntmps53
 go_wp2
 go_loop [3,4] (fun c i => ∃ m D:Nat,m ≤ s.size ∧ i = .int .i64 m ∧ c = .int .i64 D ∧ D < 4294967296 ∧ Hid (D = crc 4294967295 (s.data.toList.take m))) (fun _ i => s.size - (intOf i).toNat)
 case atStart => exact ⟨0,4294967295,by omega,rfl,rfl,by omega,hDx (by simp [crc])⟩
 case round =>
  obtain ⟨m,D,hm,rfl,rfl,hD,HDm⟩:=hrel
  by_cases hlt:m < s.size
  · have hb:(s[m].toNat:Int) < 256:=by have:=s[m].toNat_lt; omega
    obtain ⟨X,e1,hX,xX⟩:∃ X:Nat,bits .xor .i64 (D:Int) (s[m].toNat:Int) = (X:Int) ∧ X < 4294967296 ∧ X = D ^^^ s[m].toNat :=
     ⟨D ^^^ s[m].toNat,bits_xor_i64 _ _ hD (by omega),Nat.xor_lt_two_pow (n:=32) hD (by omega),rfl⟩
    have HX:=hDx xX
    clear xX
    go_wp2
    go_loop [3,5] (fun c i => ∃ k Y:Nat,k ≤ 8 ∧ i = .int .i64 k ∧ c = .int .i64 Y ∧ Y < 4294967296 ∧ Hid (rn 8 X = rn (8 - k) Y)) (fun _ i => 8 - (intOf i).toNat)
    case atStart => exact ⟨0,X,by omega,rfl,rfl,hX,hDx rfl⟩
    case round =>
     obtain ⟨k,Y,hk,rfl,rfl,hY,HYk⟩:=hrel
     by_cases hk8:k < 8
     · have hstep:rn 8 X = rn (8 - (k + 1)) (r1 Y):=by
        rw [HYk.out,show 8 - k = (8 - (k + 1)) + 1 from by omega,rn_succ]
       have HS:=hDx hstep
       have hlt1:=r1_lt hY
       clear hstep
       by_cases h2:Y % 2 = 1
       · have ht:((Y:Int) % 2 == 1) = true:=by rw [beq_iff_eq]; omega
         obtain ⟨Z,e2,hZ⟩:∃ Z:Nat,bits .xor .i64 ((Y:Int) / 2) 3988292384 = (Z:Int) ∧ Hid (Z = r1 Y):=by
          refine ⟨r1 Y,?_,hDx rfl⟩
          rw [show ((Y:Int) / 2) = ((Y / 2:Nat):Int) from by omega,show (3988292384:Int) = ((3988292384:Nat):Int) from rfl,bits_xor_i64 _ _ (by omega) (by decide)]
          unfold r1
          rw [if_pos h2]
         rw [← hZ.out] at hlt1
         have HZ:=hZ
         clear hZ h2
         go_wp2
         go_round
         case rel => exact ⟨k + 1,Z,by omega,by go_num,rfl,hlt1,hDx (by rw [HZ.out]; exact HS.out)⟩
         case measure => simp [intOf]; omega
       · have ht:((Y:Int) % 2 == 1) = false:=by rw [beq_eq_false_iff_ne]; omega
         have hZ:Hid (Y / 2 = r1 Y):=hDx (by unfold r1; rw [if_neg h2])
         clear h2
         go_wp2
         go_round
         case rel => exact ⟨k + 1,Y / 2,by omega,by go_num,by go_num,by omega,hDx (by rw [hZ.out]; exact HS.out)⟩
         case measure => simp [intOf]; omega
     · go_wp2
       go_round
       case rel =>
        obtain rfl:k = 8:=by omega
        exact ⟨m + 1,Y,by omega,by go_num,rfl,hY,hDx (by rw [str_snoc s m hlt,crc_snoc,← HDm.out,bstep_eq,← HX.out,HYk.out]; rfl)⟩
       case measure => simp [intOf]; omega
  · go_wp2
    go_ret
    obtain rfl:m = s.size:=by omega
    have h:=HDm.out
    rw [take_all] at h
    exact ⟨congrArg (fun x => Ending.returned (.int .i64 x)) (by rw [sumOf,← h]; have:=not_nat D hD; omega),rfl⟩
end Go.Proofs.YtagolklnjhpbdaaDoor.S

namespace Go.Proofs.YtagolklnjhpbdaaDoor.K
open Go.RowKit Go.Proofs.YtagolklnjhpbdaaDoor.I
theorem packN_len (s:Sn):(packN s).length ≤ 40000000:=by
 unfold packN
 by_cases h:s ≠ emptyN ∧ MayN s
 · rw [if_pos h]
   obtain ⟨h1,h2,h3,h4⟩:=h.2.resolve_left h.1
   have a1:=headB_len h2.2.2.2 h4.2
   have a2:=rows_len s.R 1000 (fun r hr => by have h5:=(h3.2 r hr).1; have h6:=h1.1.2; omega)
   have a3:s.R.length ≤ 1000:=by have h5:=h3.1; have h6:=h1.2.1.2; omega
   unfold rawN
   rw [List.length_append]
   omega
 · rw [if_neg h]
   exact Nat.zero_le _
set_option maxRecDepth 100000 in
set_option maxHeartbeats 4000000 in
theorem nsum_any (s:Sn) (ra:Option Addr) (rn rc:Nat) (ga:Option Addr) (gn gc:Nat) (w:World) (h:SnIn .i32 ra rn rc ga gn gc s w) (hB:SnB s) (hT:S.Tab w) :
    Calls Tryd.prog 33 #[.agg (snA s ra rn rc ga gn gc)] w fun e w' => e = .returned (.int .i64 ((S.sumOf (packN s):Nat):Int)) ∧ Below w.heap.size w w':=by
 obtain ⟨rb,hrb⟩:∃ rb,w.heap.size = rb:=⟨_,rfl⟩
 obtain ⟨P,hP⟩:∃ P:Ending → World → Prop,(fun e w' => e = .returned (.int .i64 ((S.sumOf (packN s):Nat):Int)) ∧ Below w.heap.size w w') = P:=⟨_,rfl⟩
 rw [hP]
 obtain ⟨w1,hw1⟩:∃ w1,w.alloc (.cells (snA s ra rn rc ga gn gc) 25) = w1:=⟨_,rfl⟩
 have hb1:Below rb w w1:=by rw [← hw1,← hrb]; exact (Below.refl _ _).alloc (Nat.le_refl _) _
 have hz1:w1.heap[rb]? = some (.cells (snA s ra rn rc ga gn gc) 25 (0,0)):=by rw [← hw1,← hrb]; exact heap_alloc_new w _
 have HPk:=hDx (npack_any s ra rn rc ga gn gc w1 (h.belowAll (by rw [hrb]; exact hb1)) hB)
 obtain ⟨pk,hpk⟩:∃ t:ByteArray,(⟨(packN s).toArray⟩:ByteArray) = t:=⟨_,rfl⟩
 have hpl:pk.data.toList = packN s:=by rw [← hpk]
 have hps:(pk.size:Int) ≤ 40000000:=by
  have h1:=packN_len s
  rw [← hpl] at h1
  have h2:pk.data.toList.length = pk.size:=rfl
  omega
 rw [hpk] at HPk
 have HEnd:Hid (∀ v,Below rb w v → P (.returned (.int .i64 ((S.sumOf pk.data.toList:Nat):Int))) v):=hDx (fun v hv => by rw [← hP,hpl]; exact ⟨rfl,by rw [hrb]; exact hv⟩)
 have HT:=hDx hT
 have HW1:=hDx hw1
 have HRb:=hDx hrb
 have HB1:=hDx hb1
 obtain ⟨c0,c1,c2,c3,c4,c5,c6,c7,c8,c9⟩:=ten_cells hz1
 have HSz:=hDx hps
 clear hP hrb hw1 hb1 hz1 hpk hpl hps h hB hT
 unfold snA at HW1 HPk
 unfold snA
 go_enter Tryd.func33,Tryd.ntmps33
 go_upto_region 1 with fail
 rw [HW1.out,HRb.out]
 go_wp2_with fail
 refine HPk.out.mono ?_
 rintro e w2 ⟨rfl,hb2⟩
 obtain ⟨w3,hw3⟩:∃ w3,w2.alloc (.cells #[.string pk] 9) = w3:=⟨_,rfl⟩
 have hb3:Below w2.heap.size w2 w3:=by rw [← hw3]; exact (Below.refl _ _).alloc (Nat.le_refl _) _
 have hn3:w3.heap[w2.heap.size]? = some (.cells #[.string pk] 9 (0,0)):=by rw [← hw3]; exact heap_alloc_new w2 _
 have hb13:Below rb w w3:=(HB1.out.trans (hb2.mono HB1.out.size |>.mono (by have:=HB1.out.size; have:=HRb.out; omega))).trans (hb3.mono (by have:=hb2.size; have:=HB1.out.size; have:=HRb.out; omega))
 have HO:=hDx (fun c => S.of_one pk w2.heap.size c w3 (by rw [cell_block hn3]; rfl) (by have:=HSz.out; omega) (S.tab_of HT.out (show Below w.heap.size w w3 from by rw [HRb.out]; exact hb13)))
 have hend:=hDx (HEnd.out w3 hb13)
 have hsl:S.sumOf pk.data.toList < 4294967296:=S.sumOf_lt _
 obtain ⟨sv,hsv⟩:∃ v,S.sumOf pk.data.toList = v:=⟨_,rfl⟩
 rw [hsv] at HO hend hsl
 have hwr:IntKind.i64.wrap (sv:Int) = (sv:Int):=by rw [IntKind.wrap_i64]; omega
 have HW3:=hDx hw3
 clear hb2 hb3 hn3 hb13 hw3 hsv c0 c1 c2 c3 c4 c5 c6 c7 c8 c9
 go_wp2_with (first | (go_at_call 68; rw [HW3.out]; refine (HO.out _).mono ?_; rintro e w' ⟨rfl,rfl⟩) | fail)
 exact hend.out
set_option maxRecDepth 100000 in
set_option maxHeartbeats 4000000 in
theorem nrfsum_any (s:Sn) (ra:Option Addr) (rn rc:Nat) (ga:Option Addr) (gn gc:Nat) (w:World) (h:SnIn .i64 ra rn rc ga gn gc s w) (hB:SnB s) :
    Calls Tryd.prog 21 #[.agg (snA s ra rn rc ga gn gc)] w fun e w' => e = .returned (.int .i64 ((S.sumOf (packN s):Nat):Int)) ∧ Below w.heap.size w w':=by
 obtain ⟨rb,hrb⟩:∃ rb,w.heap.size = rb:=⟨_,rfl⟩
 obtain ⟨P,hP⟩:∃ P:Ending → World → Prop,(fun e w' => e = .returned (.int .i64 ((S.sumOf (packN s):Nat):Int)) ∧ Below w.heap.size w w') = P:=⟨_,rfl⟩
 rw [hP]
 obtain ⟨w1,hw1⟩:∃ w1,w.alloc (.cells (snA s ra rn rc ga gn gc) 32) = w1:=⟨_,rfl⟩
 have hb1:Below rb w w1:=by rw [← hw1,← hrb]; exact (Below.refl _ _).alloc (Nat.le_refl _) _
 have hz1:w1.heap[rb]? = some (.cells (snA s ra rn rc ga gn gc) 32 (0,0)):=by rw [← hw1,← hrb]; exact heap_alloc_new w _
 have HPk:=hDx (nrfpack_any s ra rn rc ga gn gc w1 (h.belowAll (by rw [hrb]; exact hb1)) hB)
 have HEnd:Hid (∀ (t:ByteArray) v,t.data.toList = packN s → Below rb w v → P (.returned (.int .i64 ((S.sumOf t.data.toList:Nat):Int))) v):=hDx (fun t v ht hv => by rw [← hP,ht]; exact ⟨rfl,by rw [hrb]; exact hv⟩)
 have HLn:=hDx (packN_len s)
 have HW1:=hDx hw1
 have HRb:=hDx hrb
 have HB1:=hDx hb1
 obtain ⟨c0,c1,c2,c3,c4,c5,c6,c7,c8,c9⟩:=ten_cells hz1
 clear hP hrb hw1 hb1 hz1 h hB
 unfold snA at HW1 HPk
 unfold snA
 go_enter Tryd.func21,Tryd.ntmps21
 go_upto_region 1 with fail
 rw [HW1.out,HRb.out]
 go_wp2_with fail
 refine HPk.out.mono ?_
 rintro e w2 ⟨t,rfl,ht,hb2⟩
 have hts:(t.size:Int) ≤ 40000000:=by
  have h1:=HLn.out
  rw [← ht] at h1
  have h2:t.data.toList.length = t.size:=rfl
  omega
 have HO:=hDx (S.refof_any t (by omega) w2)
 have hend:=hDx (HEnd.out t w2 ht (HB1.out.trans (hb2.mono (by have:=HB1.out.size; have:=HRb.out; omega))))
 clear ht hb2 hts c0 c1 c2 c3 c4 c5 c6 c7 c8 c9
 go_wp2_with fail
 refine HO.out.mono ?_
 rintro e w3 ⟨rfl,rfl⟩
 go_wp2_with fail
 exact hend.out
end Go.Proofs.YtagolklnjhpbdaaDoor.K

namespace Go.Proofs.YtagolklnjhpbdaaDoor.K
open Go.RowKit Go.Shelf Go.Proofs.YtagolklnjhpbdaaDoor.I
open Go.Proofs.YtagolklnjhpbdaaDoor.W (OwnI IntsIn inV infoInt)
attribute [local go_sem] Oper.semAt_some
theorem OwnI.movedD {base:Nat} {v:Value} {zs:List Int} {w w':World} (h:OwnI base v zs w) (hv:∀ q,v.ownBlock = some q → w'.heap[q]? = w.heap[q]?):OwnI base v zs w':=by
 refine ⟨h.1,?_⟩
 rcases h.2 with h0 | ⟨g',c',cur,he,hbase,hgb,hc,hmx,hsz,ht⟩
 · exact .inl h0
 · exact .inr ⟨g',c',cur,he,hbase,(hv g' (by rw [he]; rfl)).trans hgb,hc,hmx,hsz,ht⟩
theorem OwnI.cellsD {base:Nat} {v:Value} {zs:List Int} {w:World} (h:OwnI base v zs w) {q:Nat} (hq:v.ownBlock = some q):base ≤ q ∧ q < w.heap.size ∧ ∃ cs,w.heap[q]? = some (.cells cs 3 (0,0)):=by
 rcases h.2 with ⟨rfl,-⟩ | ⟨g',c',cur,rfl,hbase,hgb,-⟩
 · cases hq
 · obtain rfl:g' = q:=by simpa [Value.ownBlock] using hq
   exact ⟨hbase,(gSx.1 hgb).1,cur,hgb⟩
def DfPost (sa sb:Sn) (ra:Option Addr) (rn rc:Nat) (ga:Option Addr) (gn gc:Nat) (ta:Option Addr) (tn tc:Nat) (ha:Option Addr) (hn hc:Nat) (w:World) (e:Ending) (w':World):Prop :=
 e = .returned (.func (.func 64) #[] #[.pointer (some ⟨w.heap.size + 1,0,none⟩),.pointer (some ⟨w.heap.size,0,none⟩)]) ∧ Below w.heap.size w w' ∧ w'.heap.size = w.heap.size + 2 ∧
 w'.heap[w.heap.size]? = some (.cells (snA sa ra rn rc ga gn gc) 25 (0,0)) ∧ w'.heap[w.heap.size + 1]? = some (.cells (snA sb ta tn tc ha hn hc) 25 (0,0))
set_option maxRecDepth 100000 in
set_option maxHeartbeats 4000000 in
theorem dif_any (sa sb:Sn) (ra:Option Addr) (rn rc:Nat) (ga:Option Addr) (gn gc:Nat) (ta:Option Addr) (tn tc:Nat) (ha:Option Addr) (hn hc:Nat) (w:World) :
    Calls Tryd.prog 29 #[.agg (snA sa ra rn rc ga gn gc),.agg (snA sb ta tn tc ha hn hc)] w (DfPost sa sb ra rn rc ga gn gc ta tn tc ha hn hc w):=by
 obtain ⟨P,hP⟩:∃ P,DfPost sa sb ra rn rc ga gn gc ta tn tc ha hn hc w = P:=⟨_,rfl⟩
 rw [hP]
 obtain ⟨w2,hw2⟩:∃ w2,(w.alloc (.cells (snA sa ra rn rc ga gn gc) 25)).alloc (.cells (snA sb ta tn tc ha hn hc) 25) = w2:=⟨_,rfl⟩
 have b1:Below w.heap.size w (w.alloc (.cells (snA sa ra rn rc ga gn gc) 25)):=(Below.refl _ _).alloc (Nat.le_refl _) _
 have hb:Below w.heap.size w w2:=by rw [← hw2]; exact b1.alloc (by rw [World.size_alloc]; omega) _
 have hs:w2.heap.size = w.heap.size + 2:=by rw [← hw2,World.size_alloc,World.size_alloc]
 have hz1:w2.heap[w.heap.size]? = some (.cells (snA sa ra rn rc ga gn gc) 25 (0,0)):=by
  rw [← hw2,Below.heap_alloc _ _ _ (by rw [World.size_alloc]; omega)]
  exact heap_alloc_new w _
 have hz2:w2.heap[w.heap.size + 1]? = some (.cells (snA sb ta tn tc ha hn hc) 25 (0,0)):=by
  have h:=heap_alloc_new (w.alloc (.cells (snA sa ra rn rc ga gn gc) 25)) (.cells (snA sb ta tn tc ha hn hc) 25)
  rw [World.size_alloc,hw2] at h
  exact h
 have hend:Hid (P (.returned (.func (.func 64) #[] #[.pointer (some ⟨w.heap.size + 1,0,none⟩),.pointer (some ⟨w.heap.size,0,none⟩)])) w2):=hDx (by rw [← hP]; exact ⟨rfl,hb,hs,hz1,hz2⟩)
 have HW2:=hDx hw2
 clear hP b1 hb hs hz1 hz2 hw2
 unfold snA at HW2
 unfold snA
 go_enter Tryd.func29,Tryd.ntmps29
 go_wp2_with fail
 rw [HW2.out]
 exact hend.out
theorem dif_stops {Pr:Ro → Prop} (n:Nat) (hn0:2 ≤ n) (sa sb:Sn) (ra:Option Addr) (rn rc:Nat) (ga:Option Addr) (gn gc:Nat) (ta:Option Addr) (tn tc:Nat) (ha:Option Addr) (hn hc:Nat) (us:List Rv) (W:World) (p q:Nat)
    (hA:SnIn .i32 ra rn rc ga gn gc sa W) (hAB:SnB sa) (hU:RvsIn ta tn tc us W) (hV:RowsV .i32 us sb.R W) (hBB:SnB sb) (cs:List (ItD Pr W)) (hcs:cs.map Subtype.val = difZ sa 0 sb.R us) (w:World)
    (hL:DfAt sa sb ra rn rc ga gn gc ta tn tc ha hn hc W p q w) :
    SeqStopsK Fence.wide n Tryd.prog 64 #[.pointer (some ⟨q,0,none⟩),.pointer (some ⟨p,0,none⟩)] encD (KpD W.heap.size p q) (fun ys => ys = cs) (fun pre => ∃ j,j ≤ cs.length ∧ pre = cs.take j) cs.length w:=fun l J Jx V hVb hJ _ hY h0 =>
 dif1_in n hn0 l sa sb ra rn rc ga gn gc ta tn tc ha hn hc us W p q hA hAB hU hV hBB cs hcs J Jx V hJ hY (hL.below hVb) h0
def ChI (W:World) (pb base:Nat) (zs:List Int) (V:World):Prop:=∃ v,Boxed V pb 37 v ∧ OwnI base v zs V ∧ Below W.heap.size W V ∧ base ≤ V.heap.size
theorem ChI.own {α:Type} {W:World} {pb base B:Nat} (f:α → List Int) (hW:W.heap.size ≤ B):OwnFrom B (fun s V => ChI W pb base (f s) V):=fun s V V' row h hg hr => by
 obtain ⟨v,h1,h2,h3,h4⟩:=h
 have hne:∀ (q:Nat) (cs:Array Value) (T:TypeId),V.heap[q]? = some (.cells cs T (0,0)) → V'.heap[q]? = V.heap[q]?:=fun q cs T hq => hg.block q (gSx.1 hq).1 (fun e => by
  obtain ⟨-,o,ho,hc⟩:=hr q e.symm
  rw [hq] at ho
  cases ho
  cases hc)
 refine ⟨v,(hne pb _ _ h1).trans h1,OwnI.movedD h2 (fun q hq => ?_),h3.grown hg h3.size (fun r hr' => Nat.le_trans hW (hr r hr').1),Nat.le_trans h4 hg.size⟩
 obtain ⟨-,-,cs,hc⟩:=OwnI.cellsD h2 hq
 exact hne q cs _ hc
end Go.Proofs.YtagolklnjhpbdaaDoor.K
