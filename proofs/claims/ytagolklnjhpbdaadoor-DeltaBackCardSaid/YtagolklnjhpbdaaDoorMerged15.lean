import Derived.Test.YtagolklnjhpbdaaDoorMerged0
import Derived.Test.YtagolklnjhpbdaaDoorMerged3
import Derived.Lib.QuietBelow
import Derived.BigQuiet
import Derived.Deep.AppendLies
import Derived.Laws.ResultCell
import Derived.Test.YtagolklnjhpbdaaDoorMerged11
import Derived.Test.YtagolklnjhpbdaaDoorNRuns
import Derived.Test.YtagolklnjhpbdaaDoorMerged4
namespace Go.Proofs.YtagolklnjhpbdaaDoor.I
open Go.RowKit
set_option maxRecDepth 100000 in
set_option maxHeartbeats 1000000 in
theorem refnum_any (n:Int) (w:World):Calls Tryd.prog 37 #[.int .i64 n] w fun e w' => ∃ t:ByteArray,e = .returned (.string t) ∧ t.data.toList = digs (clipN n) ∧ Below w.heap.size w w':=by
 obtain ⟨m,hm⟩:∃ m,clipN n = m:=⟨_,rfl⟩
 have hm62:(m:Int) ≤ 4611686018427387904:=by rw [← hm]; have:=clipN_le n; unfold top at this; omega
 obtain ⟨i0,hi,hz0,hz1,hz2⟩:=info_parts info5
 rcases Int.lt_or_le 0 n with hn | hn
 · rcases Int.lt_or_le 4611686018427387904 n with hn2 | hn2
   · have hmm:(4611686018427387904:Int) = (m:Int):=by rw [← hm]; unfold clipN top; omega
     have HMM:=hDx hmm
     rw [hm]
     clear hm hmm
     go_enter Tryd.func37,Tryd.ntmps37
     go_wp2_with fail
     go_loopw [0,3] (fun x v wr => ∃ j:Nat,∃ pre:List UInt8,x = .int .i64 j ∧ (j:Int) ≤ 4611686018427387904 ∧ (pre.length:Int) ≤ 9 ∧ Hid (pre ++ digs j = digs m ∧ wr.ownsRow w.heap.size 5 1 v pre.length (pre.map c5) ∧ Below w.heap.size w wr)) (fun x _ _ => (intOf x).toNat)
     case atStart => exact ⟨m,[],by first | (rw [← HMM.out]; done) | exact congrArg (Value.int .i64) (by have:=HMM.out; omega),hm62,by decide,hDx ⟨rfl,by simpa using World.ownsRow_lit (base:=w.heap.size) (e:=5) (size:=1) w #[] 0 (Nat.le_refl _) (by decide) rfl,(Below.refl _ _).alloc (Nat.le_refl _) _⟩⟩
     case round =>
      obtain ⟨j,pre,rfl,hj,hpl,hF⟩:=hrel
      obtain ⟨hpre,hrow,hB⟩:=hF.out
      obtain ⟨q,hq⟩:∃ q,pre.length = q:=⟨_,rfl⟩
      obtain ⟨X,hX⟩:∃ X,pre.map c5 = X:=⟨_,rfl⟩
      rw [hq,hX] at hrow
      have hle:=hB.size
      have hq9:(q:Int) ≤ 9:=by omega
      have HB:=hDx hB
      have HQ:=hDx hq
      have HX:=hDx hX
      have HP:=hDx hpre
      clear hF hB hq hX hpre
      by_cases h128:128 ≤ (j:Int)
      · obtain ⟨x,hx⟩:∃ x:Nat,j % 128 = x:=⟨_,rfl⟩
        have hx128:(x:Int) < 128:=by omega
        have e1:((j:Int)).tmod 128 = (x:Int):=by rw [← hx]; rfl
        obtain ⟨j2,hj2⟩:∃ j2:Nat,j / 128 = j2:=⟨_,rfl⟩
        have e2:((j:Int)).tdiv 128 = (j2:Int):=by rw [← hj2]; rfl
        have HB':Hid (digs j = UInt8.ofNat (j % 128 + 128) :: digs j2):=hDx (by rw [← hj2]; exact digs_big (by omega))
        have hlen:(pre.length:Int) + 1 ≤ 9:=by
         have h1:=congrArg List.length HP.out
         have h2:=digs_nine m (by unfold top; omega)
         have h3:=digs_pos j
         rw [List.length_append] at h1
         omega
        obtain ⟨V,hV⟩:∃ V:UInt8,UInt8.ofNat (j % 128 + 128) = V:=⟨_,rfl⟩
        have eV:(128:Int) + (x:Int) = (V.toNat:Int):=by rw [← hV]; simp; omega
        rw [hV] at HB'
        have hj2l:(j2:Int) ≤ 4611686018427387904:=by omega
        have hj2d:(j2:Int) < j:=by omega
        clear hx hj2 hV
        go_wp2_with (at_builtin; refine wpList_append_own _ rfl _ _ 66 rfl w.heap.size 5 i0 (.int .u8 0) 1 1 Tryd.underlying66 hi hz0 hz1 hz2 rfl (by decide) _ _ _ rfl (hrow.alloc _) ⟨wr.heap.size,0,none⟩ 1 1 [.int .u8 (V.toNat:Int)] rfl rfl (cell_one_new _ _ _) (by simp [Value.oneCell']) (by unfold maxLen; omega) (by omega) (by first | omega | (simp; omega)) ?_)
        intro v' w1 hown' hgrow _
        have hB1:Below w.heap.size w w1:=(HB.out.alloc hle _).grown hgrow (by simp; omega) (fun j hj => (hrow.lt j hj).1)
        have HR:=hDx hown'
        have HB1:=hDx hB1
        clear hown' hgrow hB1 hrow
        go_wp2
        go_roundw
        case rel => exact ⟨j2,pre ++ [V],by go_num,hj2l,by simp; omega,hDx ⟨by rw [← HP.out,HB'.out]; simp,by have h:=HR.out; rw [← HX.out,← HQ.out] at h; simpa [c5] using h,HB1.out⟩⟩
        case measure => simp [intOf]; omega
      · have HB':Hid (digs j = [UInt8.ofNat j]):=hDx (digs_small (by omega))
        obtain ⟨V,hV⟩:∃ V:UInt8,UInt8.ofNat j = V:=⟨_,rfl⟩
        have eV:(j:Int) = (V.toNat:Int):=by rw [← hV]; simp; omega
        rw [hV] at HB'
        clear hV
        go_wp2_with (at_builtin; refine wpList_append_own _ rfl _ _ 66 rfl w.heap.size 5 i0 (.int .u8 0) 1 1 Tryd.underlying66 hi hz0 hz1 hz2 rfl (by decide) _ _ _ rfl (hrow.alloc _) ⟨wr.heap.size,0,none⟩ 1 1 [.int .u8 (V.toNat:Int)] rfl rfl (cell_one_new _ _ _) (by simp [Value.oneCell']) (by unfold maxLen; omega) (by omega) (by first | omega | (simp; omega)) ?_)
        intro v' w1 hown' hgrow _
        have hB1:Below w.heap.size w w1:=(HB.out.alloc hle _).grown hgrow (by simp; omega) (fun j hj => (hrow.lt j hj).1)
        have HB1:=hDx hB1
        obtain ⟨g,cap,rfl,_,_⟩:=World.ownsRow.form hown' (by omega)
        have hcells:=@World.ownsRow.cells _ _ _ _ _ _ _ hown'
        have hconv:=run_convert_bytes_back (P:=Tryd.prog) w1 66 9 5 ⟨g,0,none⟩ cap (pre ++ [V]) Tryd.underlying66 Tryd.underlying5 Tryd.underlying9 (fun j hj => hcells (g:=g) rfl j _ (by rw [← HX.out,show [Value.int .u8 (V.toNat:Int)] = [V].map c5 from rfl,← List.map_append,List.getElem?_map,List.getElem?_eq_getElem hj]; rfl))
        rw [List.length_append,HQ.out,show [V].length = 1 from rfl] at hconv
        obtain ⟨D,hD⟩:∃ D:ByteArray,(⟨(pre ++ [V]).toArray⟩:ByteArray) = D:=⟨_,rfl⟩
        have HD:Hid (D.data.toList = pre ++ [V]):=hDx (by rw [← hD])
        rw [hD] at hconv
        clear hown' hgrow hB1 hrow hcells hD
        go_wp2
        go_ret
        exact ⟨D,rfl,by rw [HD.out,← HP.out,HB'.out],HB1.out⟩
   · obtain rfl:n = (m:Int):=by rw [← hm]; unfold clipN top; omega
     rw [hm]
     clear hm
     go_enter Tryd.func37,Tryd.ntmps37
     go_wp2_with fail
     go_loopw [0,3] (fun x v wr => ∃ j:Nat,∃ pre:List UInt8,x = .int .i64 j ∧ (j:Int) ≤ 4611686018427387904 ∧ (pre.length:Int) ≤ 9 ∧ Hid (pre ++ digs j = digs m ∧ wr.ownsRow w.heap.size 5 1 v pre.length (pre.map c5) ∧ Below w.heap.size w wr)) (fun x _ _ => (intOf x).toNat)
     case atStart => exact ⟨m,[],by first | rfl | exact congrArg (Value.int .i64) (by omega),hm62,by decide,hDx ⟨rfl,by simpa using World.ownsRow_lit (base:=w.heap.size) (e:=5) (size:=1) w #[] 0 (Nat.le_refl _) (by decide) rfl,(Below.refl _ _).alloc (Nat.le_refl _) _⟩⟩
     case round =>
      obtain ⟨j,pre,rfl,hj,hpl,hF⟩:=hrel
      obtain ⟨hpre,hrow,hB⟩:=hF.out
      obtain ⟨q,hq⟩:∃ q,pre.length = q:=⟨_,rfl⟩
      obtain ⟨X,hX⟩:∃ X,pre.map c5 = X:=⟨_,rfl⟩
      rw [hq,hX] at hrow
      have hle:=hB.size
      have hq9:(q:Int) ≤ 9:=by omega
      have HB:=hDx hB
      have HQ:=hDx hq
      have HX:=hDx hX
      have HP:=hDx hpre
      clear hF hB hq hX hpre
      by_cases h128:128 ≤ (j:Int)
      · obtain ⟨x,hx⟩:∃ x:Nat,j % 128 = x:=⟨_,rfl⟩
        have hx128:(x:Int) < 128:=by omega
        have e1:((j:Int)).tmod 128 = (x:Int):=by rw [← hx]; rfl
        obtain ⟨j2,hj2⟩:∃ j2:Nat,j / 128 = j2:=⟨_,rfl⟩
        have e2:((j:Int)).tdiv 128 = (j2:Int):=by rw [← hj2]; rfl
        have HB':Hid (digs j = UInt8.ofNat (j % 128 + 128) :: digs j2):=hDx (by rw [← hj2]; exact digs_big (by omega))
        have hlen:(pre.length:Int) + 1 ≤ 9:=by
         have h1:=congrArg List.length HP.out
         have h2:=digs_nine m (by unfold top; omega)
         have h3:=digs_pos j
         rw [List.length_append] at h1
         omega
        obtain ⟨V,hV⟩:∃ V:UInt8,UInt8.ofNat (j % 128 + 128) = V:=⟨_,rfl⟩
        have eV:(128:Int) + (x:Int) = (V.toNat:Int):=by rw [← hV]; simp; omega
        rw [hV] at HB'
        have hj2l:(j2:Int) ≤ 4611686018427387904:=by omega
        have hj2d:(j2:Int) < j:=by omega
        clear hx hj2 hV
        go_wp2_with (at_builtin; refine wpList_append_own _ rfl _ _ 66 rfl w.heap.size 5 i0 (.int .u8 0) 1 1 Tryd.underlying66 hi hz0 hz1 hz2 rfl (by decide) _ _ _ rfl (hrow.alloc _) ⟨wr.heap.size,0,none⟩ 1 1 [.int .u8 (V.toNat:Int)] rfl rfl (cell_one_new _ _ _) (by simp [Value.oneCell']) (by unfold maxLen; omega) (by omega) (by first | omega | (simp; omega)) ?_)
        intro v' w1 hown' hgrow _
        have hB1:Below w.heap.size w w1:=(HB.out.alloc hle _).grown hgrow (by simp; omega) (fun j hj => (hrow.lt j hj).1)
        have HR:=hDx hown'
        have HB1:=hDx hB1
        clear hown' hgrow hB1 hrow
        go_wp2
        go_roundw
        case rel => exact ⟨j2,pre ++ [V],by go_num,hj2l,by simp; omega,hDx ⟨by rw [← HP.out,HB'.out]; simp,by have h:=HR.out; rw [← HX.out,← HQ.out] at h; simpa [c5] using h,HB1.out⟩⟩
        case measure => simp [intOf]; omega
      · have HB':Hid (digs j = [UInt8.ofNat j]):=hDx (digs_small (by omega))
        obtain ⟨V,hV⟩:∃ V:UInt8,UInt8.ofNat j = V:=⟨_,rfl⟩
        have eV:(j:Int) = (V.toNat:Int):=by rw [← hV]; simp; omega
        rw [hV] at HB'
        clear hV
        go_wp2_with (at_builtin; refine wpList_append_own _ rfl _ _ 66 rfl w.heap.size 5 i0 (.int .u8 0) 1 1 Tryd.underlying66 hi hz0 hz1 hz2 rfl (by decide) _ _ _ rfl (hrow.alloc _) ⟨wr.heap.size,0,none⟩ 1 1 [.int .u8 (V.toNat:Int)] rfl rfl (cell_one_new _ _ _) (by simp [Value.oneCell']) (by unfold maxLen; omega) (by omega) (by first | omega | (simp; omega)) ?_)
        intro v' w1 hown' hgrow _
        have hB1:Below w.heap.size w w1:=(HB.out.alloc hle _).grown hgrow (by simp; omega) (fun j hj => (hrow.lt j hj).1)
        have HB1:=hDx hB1
        obtain ⟨g,cap,rfl,_,_⟩:=World.ownsRow.form hown' (by omega)
        have hcells:=@World.ownsRow.cells _ _ _ _ _ _ _ hown'
        have hconv:=run_convert_bytes_back (P:=Tryd.prog) w1 66 9 5 ⟨g,0,none⟩ cap (pre ++ [V]) Tryd.underlying66 Tryd.underlying5 Tryd.underlying9 (fun j hj => hcells (g:=g) rfl j _ (by rw [← HX.out,show [Value.int .u8 (V.toNat:Int)] = [V].map c5 from rfl,← List.map_append,List.getElem?_map,List.getElem?_eq_getElem hj]; rfl))
        rw [List.length_append,HQ.out,show [V].length = 1 from rfl] at hconv
        obtain ⟨D,hD⟩:∃ D:ByteArray,(⟨(pre ++ [V]).toArray⟩:ByteArray) = D:=⟨_,rfl⟩
        have HD:Hid (D.data.toList = pre ++ [V]):=hDx (by rw [← hD])
        rw [hD] at hconv
        clear hown' hgrow hB1 hrow hcells hD
        go_wp2
        go_ret
        exact ⟨D,rfl,by rw [HD.out,← HP.out,HB'.out],HB1.out⟩
 · obtain rfl:m = 0:=by rw [← hm]; unfold clipN top; omega
   rw [hm]
   clear hm
   go_enter Tryd.func37,Tryd.ntmps37
   go_wp2_with fail
   go_loopw [0,3] (fun x v wr => ∃ j:Nat,∃ pre:List UInt8,x = .int .i64 j ∧ (j:Int) ≤ 4611686018427387904 ∧ (pre.length:Int) ≤ 9 ∧ Hid (pre ++ digs j = digs 0 ∧ wr.ownsRow w.heap.size 5 1 v pre.length (pre.map c5) ∧ Below w.heap.size w wr)) (fun x _ _ => (intOf x).toNat)
   case atStart => exact ⟨0,[],by go_num,hm62,by decide,hDx ⟨rfl,by simpa using World.ownsRow_lit (base:=w.heap.size) (e:=5) (size:=1) w #[] 0 (Nat.le_refl _) (by decide) rfl,(Below.refl _ _).alloc (Nat.le_refl _) _⟩⟩
   case round =>
    obtain ⟨j,pre,rfl,hj,hpl,hF⟩:=hrel
    obtain ⟨hpre,hrow,hB⟩:=hF.out
    obtain ⟨q,hq⟩:∃ q,pre.length = q:=⟨_,rfl⟩
    obtain ⟨X,hX⟩:∃ X,pre.map c5 = X:=⟨_,rfl⟩
    rw [hq,hX] at hrow
    have hle:=hB.size
    have hq9:(q:Int) ≤ 9:=by omega
    have HB:=hDx hB
    have HQ:=hDx hq
    have HX:=hDx hX
    have HP:=hDx hpre
    clear hF hB hq hX hpre
    by_cases h128:128 ≤ (j:Int)
    · obtain ⟨x,hx⟩:∃ x:Nat,j % 128 = x:=⟨_,rfl⟩
      have hx128:(x:Int) < 128:=by omega
      have e1:((j:Int)).tmod 128 = (x:Int):=by rw [← hx]; rfl
      obtain ⟨j2,hj2⟩:∃ j2:Nat,j / 128 = j2:=⟨_,rfl⟩
      have e2:((j:Int)).tdiv 128 = (j2:Int):=by rw [← hj2]; rfl
      have HB':Hid (digs j = UInt8.ofNat (j % 128 + 128) :: digs j2):=hDx (by rw [← hj2]; exact digs_big (by omega))
      have hlen:(pre.length:Int) + 1 ≤ 9:=by
       have h1:=congrArg List.length HP.out
       have h2:=digs_nine 0 (by unfold top; omega)
       have h3:=digs_pos j
       rw [List.length_append] at h1
       omega
      obtain ⟨V,hV⟩:∃ V:UInt8,UInt8.ofNat (j % 128 + 128) = V:=⟨_,rfl⟩
      have eV:(128:Int) + (x:Int) = (V.toNat:Int):=by rw [← hV]; simp; omega
      rw [hV] at HB'
      have hj2l:(j2:Int) ≤ 4611686018427387904:=by omega
      have hj2d:(j2:Int) < j:=by omega
      clear hx hj2 hV
      go_wp2_with (at_builtin; refine wpList_append_own _ rfl _ _ 66 rfl w.heap.size 5 i0 (.int .u8 0) 1 1 Tryd.underlying66 hi hz0 hz1 hz2 rfl (by decide) _ _ _ rfl (hrow.alloc _) ⟨wr.heap.size,0,none⟩ 1 1 [.int .u8 (V.toNat:Int)] rfl rfl (cell_one_new _ _ _) (by simp [Value.oneCell']) (by unfold maxLen; omega) (by omega) (by first | omega | (simp; omega)) ?_)
      intro v' w1 hown' hgrow _
      have hB1:Below w.heap.size w w1:=(HB.out.alloc hle _).grown hgrow (by simp; omega) (fun j hj => (hrow.lt j hj).1)
      have HR:=hDx hown'
      have HB1:=hDx hB1
      clear hown' hgrow hB1 hrow
      go_wp2
      go_roundw
      case rel => exact ⟨j2,pre ++ [V],by go_num,hj2l,by simp; omega,hDx ⟨by rw [← HP.out,HB'.out]; simp,by have h:=HR.out; rw [← HX.out,← HQ.out] at h; simpa [c5] using h,HB1.out⟩⟩
      case measure => simp [intOf]; omega
    · have HB':Hid (digs j = [UInt8.ofNat j]):=hDx (digs_small (by omega))
      obtain ⟨V,hV⟩:∃ V:UInt8,UInt8.ofNat j = V:=⟨_,rfl⟩
      have eV:(j:Int) = (V.toNat:Int):=by rw [← hV]; simp; omega
      rw [hV] at HB'
      clear hV
      go_wp2_with (at_builtin; refine wpList_append_own _ rfl _ _ 66 rfl w.heap.size 5 i0 (.int .u8 0) 1 1 Tryd.underlying66 hi hz0 hz1 hz2 rfl (by decide) _ _ _ rfl (hrow.alloc _) ⟨wr.heap.size,0,none⟩ 1 1 [.int .u8 (V.toNat:Int)] rfl rfl (cell_one_new _ _ _) (by simp [Value.oneCell']) (by unfold maxLen; omega) (by omega) (by first | omega | (simp; omega)) ?_)
      intro v' w1 hown' hgrow _
      have hB1:Below w.heap.size w w1:=(HB.out.alloc hle _).grown hgrow (by simp; omega) (fun j hj => (hrow.lt j hj).1)
      have HB1:=hDx hB1
      obtain ⟨g,cap,rfl,_,_⟩:=World.ownsRow.form hown' (by omega)
      have hcells:=@World.ownsRow.cells _ _ _ _ _ _ _ hown'
      have hconv:=run_convert_bytes_back (P:=Tryd.prog) w1 66 9 5 ⟨g,0,none⟩ cap (pre ++ [V]) Tryd.underlying66 Tryd.underlying5 Tryd.underlying9 (fun j hj => hcells (g:=g) rfl j _ (by rw [← HX.out,show [Value.int .u8 (V.toNat:Int)] = [V].map c5 from rfl,← List.map_append,List.getElem?_map,List.getElem?_eq_getElem hj]; rfl))
      rw [List.length_append,HQ.out,show [V].length = 1 from rfl] at hconv
      obtain ⟨D,hD⟩:∃ D:ByteArray,(⟨(pre ++ [V]).toArray⟩:ByteArray) = D:=⟨_,rfl⟩
      have HD:Hid (D.data.toList = pre ++ [V]):=hDx (by rw [← hD])
      rw [hD] at hconv
      clear hown' hgrow hB1 hrow hcells hD
      go_wp2
      go_ret
      exact ⟨D,rfl,by rw [HD.out,← HP.out,HB'.out],HB1.out⟩
theorem num_two (base B:Nat) (z y:Int) (bs:List UInt8) (w:World) (hsz:(bs.length:Int) ≤ 999900) (hbase:base ≤ B) (hO:OutAt base B bs w) (hbw:base ≤ w.heap.size) :
    Calls Tryd.prog 30 #[.pointer (some ⟨B,0,none⟩),.slice (some ⟨w.heap.size,0,none⟩) 2 2] (w.alloc (.cells #[.int .i64 z,.int .i64 y] 3)) (Wrote base B (bs ++ (digs (clipN z) ++ digs (clipN y))) (w.alloc (.cells #[.int .i64 z,.int .i64 y] 3))):=by
 have h:=num_any base B w.heap.size 0 2 [z,y] bs (w.alloc (.cells #[.int .i64 z,.int .i64 y] 3)) (by simp; omega) hbase (hO.alloc _) (fun w' _ hk i hi => by
  rw [cell_keeps hk (block_new w _) (by decide) (by have:=hO.lt; omega),cell_alloc_new]
  match i,hi with
  | 0,_ => rfl
  | 1,_ => rfl
  | i + 2,hi => simp at hi; omega) (by simp; omega)
 simpa [numsOf] using h
theorem append_list (a b:ByteArray):(a ++ b).data.toList = a.data.toList ++ b.data.toList:=by simp
theorem reftextw_any (s:ByteArray) (hs:(s.size:Int) ≤ 1000) (w:World):Calls Tryd.prog 38 #[.string s] w fun e w' => ∃ t:ByteArray,e = .returned (.string t) ∧ t.data.toList = textB s ∧ Below w.heap.size w w':=by
 have H:=hDx (refnum_any s.size w)
 go_enter Tryd.func38,Tryd.ntmps38
 go_wp2_with fail
 refine H.out.mono ?_
 rintro e w1 ⟨t,rfl,ht,hb⟩
 have hts:(t.size:Int) ≤ 9:=by
  have h:=digs_nine (clipN s.size) (clipN_le _)
  rw [← ht] at h
  exact Int.ofNat_le.2 h
 have HT:=hDx ht
 have HB:=hDx hb
 clear ht hb
 go_wp2
 go_ret
 exact ⟨_,rfl,by rw [append_list,HT.out]; rfl,HB.out⟩
end Go.Proofs.YtagolklnjhpbdaaDoor.I

namespace Go.Proofs.YtagolklnjhpbdaaDoor.K
open Go.RowKit
def RngG (l:List (Int × Int)):Prop:=∀ g ∈ l,-2147483648 ≤ g.1 ∧ g.1 ≤ 2147483647
def PackPost (l:List (Int × Int)) (w:World) (e:Ending) (w':World):Prop:=∃ t:ByteArray,e = .returned (.string t) ∧ t.data.toList = packG l ∧ Below w.heap.size w w'
set_option maxRecDepth 100000 in
set_option maxHeartbeats 8000000 in
theorem pack_any (a:Option Addr) (n c:Nat) (l:List (Int × Int)) (w:World) (hI:PairsIn .i32 a n c l w) (hr:RngG l) (hn:n ≤ 1024) :
    Calls Tryd.prog 35 #[.slice a n c] w (PackPost l w):=by
 obtain ⟨rb,hrb⟩:∃ rb,w.heap.size = rb:=⟨_,rfl⟩
 obtain ⟨P,hP⟩:∃ P,PackPost l w = P:=⟨_,rfl⟩
 rw [hP]
 have HP:=hDx hP
 have HRb:=hDx hrb
 have HLn:=hDx hI.len
 have HI:=hDx hI
 have HRg:=hDx hr
 have hO:=I.out_new rb w
 obtain ⟨w1,hw1⟩:∃ w1,w.alloc (.cells #[.slice none 0 0] 68) = w1:=⟨_,rfl⟩
 rw [hw1,hrb] at hO
 have hs1:w1.heap.size = rb + 1:=by rw [← hw1,World.size_alloc,hrb]
 have hb1:Below rb w w1:=by rw [← hw1]; exact (Below.refl _ _).alloc (by omega) _
 have HW1:=hDx hw1
 have HB1:=hDx hb1
 have HN:=hDx (I.num_one rb rb (n:Int) [] w1 (by simp) (Nat.le_refl _) hO (by omega))
 have hnI:(n:Int) ≤ 1024:=by omega
 have hS1:=hDx hs1
 clear hP hrb hI hr hO hw1 hs1 hb1
 go_enter Tryd.func35,Tryd.ntmps35
 go_upto_region 2 with fail
 rw [HW1.out,HRb.out]
 go_wp2_with fail
 refine HN.out.mono ?_
 rintro e w2 ⟨rfl,hO2,hb2,-⟩
 have HO2:=hDx hO2
 have HB2:Hid (Below rb w w2):=hDx (HB1.out.trans ((((Below.refl _ _).alloc (by have:=hS1.out; omega) _:Below rb w1 _)).trans hb2))
 have HS2:Hid (rb < w2.heap.size):=hDx hO2.lt
 clear hO2 hb2 HN
 go_wp2_with fail
 go_loopw [12] (fun i wr => ∃ j:Nat,i = .int .i64 (j:Int) ∧ j ≤ n ∧ Hid (I.OutAt rb rb ([] ++ I.digs (I.clipN (n:Int)) ++ (l.take j).flatMap gBytes) wr ∧ Below rb w wr ∧ rb < wr.heap.size)) (fun i _ => n - (intOf i).toNat)
 case atStart => exact ⟨0,rfl,Nat.zero_le _,hDx ⟨by simpa using HO2.out,HB2.out,HS2.out⟩⟩
 case round =>
  obtain ⟨j,rfl,hj,HF⟩:=hrel
  clear HO2 HB2 HS2
  by_cases hlt:j < n
  · have hd:decide (j < n) = true:=decide_eq_true hlt
    have hjI:(j:Int) < n:=by omega
    have hjl:j < l.length:=by rw [← HLn.out]; exact hlt
    obtain ⟨b,off,rfl,hbl,hAt⟩:=HI.out.at_.resolve_left (by intro e; rw [e] at hjl; simp at hjl)
    have hat:=hAt j l[j] (List.getElem?_eq_getElem hjl)
    have hrg:=HRg.out l[j] (List.getElem_mem hjl)
    have hsn:=flat_snoc l j hjl
    obtain ⟨⟨x,s⟩,hx⟩:∃ g,l[j] = g:=⟨_,rfl⟩
    rw [hx] at hat hrg hsn
    have hbr:b < rb:=by rw [← HRb.out]; exact hbl
    have k0:wr.cell? ⟨b,off + j * 2,none⟩ = some (.int .i32 x):=(HF.out.2.1.cell (p:=⟨b,off + j * 2,none⟩) hbr).trans hat.1
    have k1:wr.cell? ⟨b,off + j * 2 + 1,none⟩ = some (.int .i64 s):=(HF.out.2.1.cell (p:=⟨b,off + j * 2 + 1,none⟩) hbr).trans hat.2
    have hwr:IntKind.i64.wrap x = x:=by rw [IntKind.wrap_i64]; have h1:=hrg.1; have h2:=hrg.2; simp only at h1 h2; omega
    obtain ⟨gb,hgb⟩:∃ gb,wr.heap.size = gb:=⟨_,rfl⟩
    obtain ⟨w5,hw5⟩:∃ w5,wr.alloc (.cells #[.int .i32 x,.int .i64 s] 111) = w5:=⟨_,rfl⟩
    have hnew:w5.heap[gb]? = some (.cells #[.int .i32 x,.int .i64 s] 111 (0,0)):=by rw [← hw5,← hgb]; exact heap_alloc_new wr _
    have m0:w5.cell? ⟨gb,0,none⟩ = some (.int .i32 x):=by rw [cell_block hnew]; rfl
    have m1:w5.cell? ⟨gb,1,none⟩ = some (.int .i64 s):=by rw [cell_block hnew]; rfl
    have hs5:w5.heap.size = gb + 1:=by rw [← hw5,World.size_alloc,hgb]
    have hb5:Below rb w w5:=by rw [← hw5]; exact HF.out.2.1.alloc (by have:=HF.out.2.2; omega) _
    have hO5:I.OutAt rb rb ([] ++ I.digs (I.clipN (n:Int)) ++ (l.take j).flatMap gBytes) w5:=by rw [← hw5]; exact HF.out.1.alloc _
    have hlen:(([] ++ I.digs (I.clipN (n:Int)) ++ (l.take j).flatMap gBytes).length:Int) ≤ 999900:=by
     have h1:=I.digs_nine (I.clipN (n:Int)) (by unfold I.clipN; exact Nat.min_le_right _ _)
     have h2:=flat_gBytes_len (l.take j)
     have h3:(l.take j).length ≤ 1024:=by rw [List.length_take]; omega
     rw [List.length_append,List.nil_append]
     omega
    have HN:=hDx (I.num_two rb rb x s _ w5 hlen (Nat.le_refl _) hO5 (by have:=HF.out.2.2; omega))
    have HSn:=hDx hsn
    have HGb:=hDx hgb
    have HW5:=hDx hw5
    have HB5:=hDx hb5
    have HS5:=hDx hs5
    have HG5:Hid (rb < gb):=hDx (by have:=HF.out.2.2; omega)
    clear hjl hAt hat hrg hsn hx hbl hgb hw5 hnew hs5 hb5 hO5 hlen
    go_upto_region 6 with fail
    rw [HW5.out,HGb.out]
    clear HF k0 k1
    go_wp2_with fail
    refine HN.out.mono ?_
    rintro e w6 ⟨rfl,hO6,hb6,-⟩
    have HE:Hid (I.OutAt rb rb ([] ++ I.digs (I.clipN (n:Int)) ++ (l.take (j + 1)).flatMap gBytes) w6 ∧ Below rb w w6 ∧ rb < w6.heap.size):=hDx ⟨by
     rw [HSn.out,← List.append_assoc]; exact hO6,HB5.out.trans ((((Below.refl _ _).alloc (by have:=HS5.out; have:=HG5.out; omega) _:Below rb w5 _)).trans hb6),hO6.lt⟩
    clear hO6 hb6 HN
    go_wp2_with fail
    go_roundw
    case rel => exact ⟨j + 1,by go_num,by omega,HE⟩
    case measure => simp [intOf]; omega
  · obtain rfl:j = n:=by omega
    have hd:decide (j < j) = false:=by simp
    have HBy:=hDx (I.bytes_any rb rb _ wr HF.out.1)
    have hbl:[] ++ I.digs (I.clipN (j:Int)) ++ (l.take j).flatMap gBytes = packG l:=by
     unfold packG
     rw [List.nil_append,← HLn.out,List.take_of_length_le (by rw [HLn.out]; exact Nat.le_refl _)]
    rw [hbl] at HBy
    have HBw:Hid (Below rb w wr):=hDx HF.out.2.1
    clear HF hbl hlt
    go_wp2_with fail
    refine HBy.out.mono ?_
    rintro e w7 ⟨rfl,rfl⟩
    have hend:Hid (P (.returned (.string ⟨(packG l).toArray⟩)) wr):=hDx (by rw [← HP.out]; exact ⟨_,rfl,by simp,by rw [HRb.out]; exact HBw.out⟩)
    go_wp2_with fail
    exact hend.out
end Go.Proofs.YtagolklnjhpbdaaDoor.K

namespace Go.Proofs.YtagolklnjhpbdaaDoor.K
open Go.RowKit Go.Shelf Go.Proofs.YtagolklnjhpbdaaDoor.I
open W (KeepL keepL_t keepL_b)
attribute [local go_sem] Oper.semAt_some
theorem num_four (base B:Nat) (z y x u:Int) (bs:List UInt8) (w:World) (hsz:(bs.length:Int) ≤ 999900) (hbase:base ≤ B) (hO:OutAt base B bs w) (hbw:base ≤ w.heap.size) :
    Calls Tryd.prog 30 #[.pointer (some ⟨B,0,none⟩),.slice (some ⟨w.heap.size,0,none⟩) 4 4] (w.alloc (.cells #[.int .i64 z,.int .i64 y,.int .i64 x,.int .i64 u] 3)) (Wrote base B (bs ++ (digs (clipN z) ++ (digs (clipN y) ++ (digs (clipN x) ++ digs (clipN u))))) (w.alloc (.cells #[.int .i64 z,.int .i64 y,.int .i64 x,.int .i64 u] 3))):=by
 have h:=num_any base B w.heap.size 0 4 [z,y,x,u] bs (w.alloc (.cells #[.int .i64 z,.int .i64 y,.int .i64 x,.int .i64 u] 3)) (by simp; omega) hbase (hO.alloc _) (fun w' _ hk i hi => by
  rw [cell_keeps hk (block_new w _) (by decide) (by have:=hO.lt; omega),cell_alloc_new]
  match i,hi with
  | 0,_ => rfl
  | 1,_ => rfl
  | 2,_ => rfl
  | 3,_ => rfl
  | i + 4,hi => simp at hi; omega) (by simp; omega)
 simpa [numsOf] using h
theorem outAt_below {base B:Nat} {bs:List UInt8} {w w':World} (h:OutAt base B bs w) (hb:Below w.heap.size w w'):OutAt base B bs w':=by
 obtain ⟨v,h1,h2⟩:=h
 exact ⟨v,(hb.block B h1.lt).trans h1,U.belowAll h2 hb⟩
theorem ownFrom_out {base B C:Nat} {h:List UInt8}:OwnFrom C (fun (pre:List QR) W => OutAt base B (h ++ runsB (valR pre)) W):=fun s X Y row hs hg hr => own_outAt base B h (runsB (valR s)) X Y row hs hg (fun r e => (hr r e).2)
theorem keepsOthers_of {B:Nat} {V V':World} (h:Keeps B V V') (hB:∀ o,V.heap[B]? = some o → o.isCells = true):KeepsOthers V V':=⟨h.size,fun k o hk ho => h.block k o hk (fun e => by rw [e] at hk; rw [hB o hk] at ho; cases ho) (fun cur fr e => by rw [e] at ho; cases ho)⟩
theorem keepL_of {B rb Bc:Nat} {a:Option Addr} {n c:Nat} {l:List Cel} {V V':World} (h:Keeps B V V') (hL:LooksR Bc a n c l V) (hne:Bc ≠ B) (hb:Below rb V V') (hlt:∀ b off,l ≠ [] → a = some ⟨b,off,none⟩ → b < rb):KeepL (lookR Bc a l) V V':=by
 refine ⟨h.size,fun b hbm hbl => ?_⟩
 rcases List.mem_cons.1 hbm with rfl | hbm
 · have hx:V.heap[b]? = some (.cells #[.slice a n c] 55 (0,0)):=hL.bl
   rw [hx]
   exact h.block b _ hx hne (fun cur fr e => by injection e with _ e2; revert e2; decide)
 · unfold blkC at hbm
   by_cases hl:l = []
   · rw [if_pos hl] at hbm; cases hbm
   · rw [if_neg hl] at hbm
     rcases hL.cl.at_ with e | ⟨b',off,rfl,-,-⟩
     · exact absurd e hl
     · have:b = b':=by simpa using hbm
       subst this
       exact hb.block b (hlt b off hl rfl)
theorem runs_stops (n:Nat) (hn:2 ≤ n) (B:Nat) (a:Option Addr) (len cap:Nat) (l:List Cel) (R:List QR) (hR:expR (valR R) = l) (hg:Good none (valR R)) (hlen:len ≤ 1000000) (w:World) (hL:LooksR B a len cap l w) :
    SeqStopsK Fence.wide n Tryd.prog 86 #[.pointer (some ⟨B,0,none⟩)] encQ (KeepL (lookR B a l)) (fun ys => ys = R) (fun pre => ∃ j,j ≤ R.length ∧ pre = R.take j) R.length w:=fun y J Jx V hV hJ _ hY h0 =>
 runs1_in n hn y B a len cap l R hR hg hlen J Jx V hJ hY (hL.below hV) h0
theorem ownFrom_looks {C B:Nat} {a:Option Addr} {n c:Nat} {l:List Cel} (h:∀ b ∈ lookR B a l,b < C):OwnFrom C (fun (_:List QR) W => LooksR B a n c l W):=fun s X Y row hs hg hr => hs.keep ⟨hg.size,fun b hb hlt => hg.block b hlt (fun e => by have:=(hr b e.symm).1; have:=h b hb; omega)⟩
def PackRPost (r:Ro) (w:World) (e:Ending) (w':World):Prop:=e = .returned (.string ⟨(packR r).toArray⟩) ∧ Below w.heap.size w w'
theorem packR_runs (r:Ro) (R:List QR) (hR:expR (valR R) = r.l) (hg:Good none (valR R)):packR r = digs (clipN (wrapN r.wrapped)) ++ runsB (valR R):=by
 unfold packR
 rw [← hR,packC_exp _ _ hg]
theorem runsB_snoc (pre:List QR) (x:QR):runsB (valR (pre ++ [x])) = runsB (valR pre) ++ runB x.1.1 x.1.2:=by
 unfold valR
 rw [List.map_append,runsB_append]
 unfold runsB
 simp
set_option maxRecDepth 100000 in
set_option maxHeartbeats 8000000 in
theorem packRow_in (n:Nat) (hn:6 ≤ n) (a:Option Addr) (m c:Nat) (b:Bool) (r:Ro) (w:World) (hI:RowV .i32 (.agg #[.slice a m c,.bool b]) r w) (hok:AllC okC r.l) (hm:m ≤ 20000) :
    CallsIn Fence.wide n Tryd.prog 32 #[.agg #[.slice a m c,.bool b]] w (PackRPost r w):=by
 have h1:1 ≤ n:=by omega
 obtain ⟨hwr,hcl,hnl,hft,htp,hml⟩:=hI.of
 subst hwr
 obtain ⟨rb,hrb⟩:∃ rb,w.heap.size = rb:=⟨_,rfl⟩
 obtain ⟨P,hP⟩:∃ P,PackRPost r w = P:=⟨_,rfl⟩
 rw [hP]
 have HP:=hDx hP
 obtain ⟨R,hR,hg⟩:=runs_all r.l hok (by omega)
 have hpk:=packR_runs r R hR hg
 have hRl:R.length ≤ 20000:=by
  have h2:=good_len _ _ hg
  rw [hR] at h2
  unfold valR at h2
  rw [List.length_map] at h2
  omega
 obtain ⟨w1,hw1⟩:∃ w1,w.alloc (.cells #[.slice a m c,.bool r.wrapped] 57) = w1:=⟨_,rfl⟩
 obtain ⟨w2,hw2⟩:∃ w2,w1.alloc (.cells #[.slice none 0 0] 68) = w2:=⟨_,rfl⟩
 have hs1:w1.heap.size = rb + 1:=by rw [← hw1,World.size_alloc,hrb]
 have hb1:Below rb w w1:=by rw [← hw1,← hrb]; exact (Below.refl _ _).alloc (Nat.le_refl _) _
 have hb2:Below rb w w2:=by rw [← hw2]; exact hb1.alloc (by omega) _
 have hO2:OutAt rb (rb + 1) [] w2:=by have:=out_new rb w1; rw [hw2,hs1] at this; exact this
 have hA1:w1.heap[rb]? = some (.cells #[.slice a m c,.bool r.wrapped] 57 (0,0)):=by rw [← hw1,← hrb]; exact heap_alloc_new w _
 have hA:w2.heap[rb]? = some (.cells #[.slice a m c,.bool r.wrapped] 57 (0,0)):=by rw [← hw2,Below.heap_alloc _ _ _ (by omega)]; exact hA1
 have c1:w2.cell? ⟨rb,1,none⟩ = some (.bool r.wrapped):=by rw [cell_block hA]; rfl
 have hs2:w2.heap.size = rb + 1 + 1:=by rw [← hw2,World.size_alloc,hs1]
 have hN0:=(num_one rb (rb + 1) (wrapN r.wrapped) [] w2 (by simp) (by omega) hO2 (by have:=hb2.size; omega) |> fun h => (by simpa using h:Calls Tryd.prog 30 #[.pointer (some ⟨rb + 1,0,none⟩),.slice (some ⟨w2.heap.size,0,none⟩) 1 1] (w2.alloc (.cells #[.int .i64 (wrapN r.wrapped)] 3)) (Wrote rb (rb + 1) (digs (clipN (wrapN r.wrapped))) (w2.alloc (.cells #[.int .i64 (wrapN r.wrapped)] 3)))))
 rw [show (some (⟨w2.heap.size,0,none⟩:Addr)) = some ⟨rb + 1 + 1,0,none⟩ by rw [hs2]] at hN0
 have HN:=hDx hN0
 have HW1:=hDx hw1
 have HW2:=hDx hw2
 have HRb:=hDx hrb
 have HS1:=hDx hs1
 have HA:=hDx hA
 have HB2:=hDx hb2
 have HCl:=hDx hcl
 have HPk:=hDx hpk
 have HR:=hDx hR
 have HG:=hDx hg
 have hmI:(m:Int) ≤ 20000:=by omega
 have HLt:Hid (∀ b off,r.l ≠ [] → a = some ⟨b,off,none⟩ → b < rb):=hDx (fun b off hl e => by
  rcases hcl.at_ with h | ⟨b',off',e2,hlt,-⟩
  · exact absurd h hl
  · rw [e] at e2; cases e2; rw [← hrb]; exact hlt)
 clear hN0 hs2 hP hI hok hcl hnl hft htp hml hR hg hpk hw1 hw2 hs1 hb1 hb2 hO2 hA1 hA hrb
 have hwayB:r.wrapped = true ∧ wrapN r.wrapped = 1 ∨ r.wrapped = false ∧ wrapN r.wrapped = 0:=by cases r.wrapped <;> simp [wrapN]
 obtain ⟨bw,hbw⟩:∃ bw,r.wrapped = bw:=⟨_,rfl⟩
 obtain ⟨wn,hwn⟩:∃ wn,wrapN r.wrapped = wn:=⟨_,rfl⟩
 rw [hwn] at HN HPk
 rw [hwn,hbw] at hwayB
 rw [hbw] at HW1 HA c1 ⊢
 clear hbw hwn
 refine callsIn_of_wp_marks Tryd.func32 rfl trivial ?_ rfl
 simp only [Tryd.ntmps32,List.size_toArray,List.length_cons,List.length_nil,Nat.reduceAdd,Nat.reduceSub,Array.replicate_succ,Array.replicate_zero,List.push_toArray,List.append_toArray,List.nil_append,List.cons_append]
 rcases hwayB with ⟨rfl,rfl⟩ | ⟨rfl,rfl⟩
 · gi_wp2_with fail
   rw [HW1.out,HW2.out,HRb.out]
   refine ⟨trivial,(callsIn_wide.2 HN.out).mono ?_⟩
   rintro e w3 ⟨rfl,hO3,hb3,hk3⟩
   have hba:Below w2.heap.size w2 (w2.alloc (.cells #[.int .i64 1] 3)):=(Below.refl _ _).alloc (Nat.le_refl _) _
   have hrl:rb < w2.heap.size:=(gSx.1 HA.out).1
   have hb03:Below rb w w3:=HB2.out.trans ((hba.mono (by omega)).trans hb3)
   have hA3:w3.heap[rb]? = some (.cells #[.slice a m c,.bool true] 57 (0,0)):=hk3.block rb _ ((hba.block rb hrl).trans HA.out) (by omega) (fun cur fr e => by injection e with _ e2; revert e2; decide)
   have c0:w3.cell? ⟨rb,0,none⟩ = some (.slice a m c):=by rw [cell_block hA3]; rfl
   have HRn:=hDx (runs_any a m c r.l w3 (HCl.out.belowAll (by rw [HRb.out]; exact hb03)))
   have HO3:=hDx hO3
   have HB03:=hDx hb03
   have hne:rb + 1 < w3.heap.size:=hO3.lt
   clear hO3 hb3 hk3 hba hrl hb03 hA3 c1 HA
   gi_wp2_with fail
   refine ⟨trivial,(callsIn_wide.2 HRn.out).mono ?_⟩
   rintro e w4 ⟨rfl,hL4,hb4⟩
   have hO4:=outAt_below HO3.out hb4
   have hb04:Below rb w w4:=HB03.out.trans (hb4.mono HB03.out.size |>.mono (by have:=HB03.out.size; have:=HRb.out; omega))
   have HL4:=hDx hL4
   have HO4:=hDx hO4
   have HB04:=hDx hb04
   have hrw4:rb ≤ w4.heap.size:=by have:=hb04.size; have:=HRb.out; omega
   clear hL4 hb4 hO4 hb04 c0 HRn HO3
   gi_wp2_with fail
   refine wpIn_rangeFunc_ownH rfl h1 (gf:=86) (lb:=#[.pointer (some ⟨w3.heap.size,0,none⟩)]) rfl trivial (enters_of Tryd.func86 (by kernel_rfl) rfl)
     (runs_stops (n - 1) (by omega) w3.heap.size a m c r.l R HR.out HG.out (by omega) w4 HL4.out) (fun h1 h2 => keepL_t h1 h2) (keepL_b HL4.out.all) (Below.refl _ _) (fun _ => rfl)
     (fun pre V => OutAt rb (rb + 1) (digs (clipN 1) ++ runsB (valR pre)) V ∧ LooksR w3.heap.size a m c r.l V ∧ Below rb w V)
     (fun _ _ _ => False)
     (OwnFrom.and ownFrom_out (OwnFrom.and (ownFrom_looks HL4.out.all) (ownFrom_below (by rw [HRb.out]; exact Nat.le_refl _) hrw4)))
     (fun _ _ _ _ _ hs _ _ => hs)
     ⟨by simpa [valR,runsB] using HO4.out,HL4.out,HB04.out⟩
     (fun x a' V => ∃ Bx,V.heap[Bx]? = some (.cells #[.int .i64 (x.1.1:Int),.int .i32 x.1.2.rune,.int .i64 x.1.2.style,.int .i64 x.1.2.part] 129 (0,0)) ∧ a' = { tmps:=#[.agg #[.slice a m c,.bool true],.pointer (some ⟨rb,0,none⟩),.string ⟨#[]⟩,.pointer (some ⟨rb + 1,0,none⟩),.int .i64 1,.pointer (some ⟨Bx,0,none⟩),undef,.pointer (some ⟨rb,1,none⟩),.bool true,.int .i64 1,.slice (some ⟨rb + 1 + 1,0,none⟩) 1 1,.pointer (some ⟨rb + 1,0,none⟩),.pointer (some ⟨rb,0,none⟩),.slice a m c,.func (.func 86) #[] #[.pointer (some ⟨w3.heap.size,0,none⟩)],.agg #[.int .i64 (x.1.1:Int),.int .i32 x.1.2.rune,.int .i64 x.1.2.style,.int .i64 x.1.2.part],undef,undef,undef,undef,undef,undef,undef,undef,undef,undef,undef,undef,undef,undef],defers:=[] })
     (fun x a' s X Y row hs hg hr => by
      obtain ⟨Bx,hb2,hb3⟩:=hs
      refine ⟨Bx,(hg.block Bx (gSx.1 hb2).1 (fun e => ?_)).trans hb2,hb3⟩
      obtain ⟨_,o,ho,hc⟩:=hr Bx e.symm
      rw [hb2] at ho
      cases ho
      cases hc)
     ?assign ?body ?done ?stop
   case assign =>
    rintro l pre x V K ⟨hO,hL,hB⟩ hK
    obtain ⟨⟨k,⟨x1,x2,x3⟩⟩,hq⟩:∃ q,x.1 = q:=⟨_,rfl⟩
    rw [hq] at hK
    have hba:Below V.heap.size V (V.alloc (.cells #[.int .i64 (k:Int),.int .i32 x1,.int .i64 x2,.int .i64 x3] 129)):=(Below.refl _ _).alloc (Nat.le_refl _) _
    have hK':=hK _ _ ((keepsOthers_below hba).from _) (KeepL.of_below hba hL.all) ⟨outAt_below hO hba,hL.below hba,hB.trans (hba.mono (by have:=hB.size; have:=HRb.out; omega))⟩ ⟨V.heap.size,heap_alloc_new V _,rfl⟩
    have HK:=hDx hK'
    have hen:encQ x = #[.agg #[.int .i64 (k:Int),.int .i32 x1,.int .i64 x2,.int .i64 x3]]:=by unfold encQ; rw [hq]
    rw [hen]
    clear hK hK' hba hO hL hB hq hen
    gi_wp2
    exact HK.out
   case body =>
    rintro l pre x a' V hls hlr ⟨hO,hL,hB⟩ ⟨Bx,hBx,rfl⟩ hltp
    clear hls hlr
    obtain ⟨⟨k,⟨x1,x2,x3⟩⟩,hok,hkb⟩:=x
    simp only at hok hkb hBx ⊢
    have hwr:IntKind.i64.wrap x1 = x1:=by have:=hok.1; simp only at this; rw [IntKind.wrap_i64]; omega
    have g0:V.cell? ⟨Bx,0,none⟩ = some (.int .i64 (k:Int)):=by rw [cell_block hBx]; rfl
    have g1:V.cell? ⟨Bx,1,none⟩ = some (.int .i32 x1):=by rw [cell_block hBx]; rfl
    have g2:V.cell? ⟨Bx,2,none⟩ = some (.int .i64 x2):=by rw [cell_block hBx]; rfl
    have g3:V.cell? ⟨Bx,3,none⟩ = some (.int .i64 x3):=by rw [cell_block hBx]; rfl
    obtain ⟨qb,hqb⟩:∃ qb,V.heap.size = qb:=⟨_,rfl⟩
    obtain ⟨V2,hV2⟩:∃ V2,V.alloc (.cells #[.int .i32 x1,.int .i64 x2,.int .i64 x3] 118) = V2:=⟨_,rfl⟩
    have hnew:V2.heap[qb]? = some (.cells #[.int .i32 x1,.int .i64 x2,.int .i64 x3] 118 (0,0)):=by rw [← hV2,← hqb]; exact heap_alloc_new V _
    have hbV:Below V.heap.size V V2:=by rw [← hV2]; exact (Below.refl _ _).alloc (Nat.le_refl _) _
    have k0:V2.cell? ⟨Bx,0,none⟩ = some (.int .i64 (k:Int)):=(hbV.cell (p:=⟨Bx,0,none⟩) (gSx.1 hBx).1).trans g0
    have hs2:V2.heap.size = V.heap.size + 1:=by rw [← hV2,World.size_alloc]
    have hO2:=outAt_below hO hbV
    have hrV:rb ≤ V.heap.size:=by have:=hB.size; have:=HRb.out; omega
    have hrV2:rb ≤ V2.heap.size:=Nat.le_trans hrV hbV.size
    have hln:((digs (clipN 1) ++ runsB (valR pre)).length:Int) ≤ 999900:=by
     have h1:=runsB_len (valR pre)
     have h2:=digs_nine (clipN 1) (clipN_le _)
     unfold valR at h1
     rw [List.length_map] at h1
     rw [List.length_append]
     unfold valR
     omega
    have hN4:=num_four rb (rb + 1) (k:Int) x1 x2 x3 _ V2 hln (by omega) hO2 hrV2
    rw [show (some (⟨V2.heap.size,0,none⟩:Addr)) = some ⟨V.heap.size + 1,0,none⟩ by rw [hs2]] at hN4
    have HN4:=hDx hN4
    rw [← hV2] at k0
    have hb2a:Below V2.heap.size V2 (V2.alloc (.cells #[.int .i64 (k:Int),.int .i64 x1,.int .i64 x2,.int .i64 x3] 3)):=(Below.refl _ _).alloc (Nat.le_refl _) _
    have HVa:Hid (Below V.heap.size V (V2.alloc (.cells #[.int .i64 (k:Int),.int .i64 x1,.int .i64 x2,.int .i64 x3] 3))):=hDx (hbV.trans (hb2a.mono hbV.size))
    have HL:=hDx hL
    have HB:=hDx hB
    have HOb:Hid (∀ o,V.heap[rb + 1]? = some o → o.isCells = true):=hDx (fun o ho => by
     obtain ⟨v,h1,-⟩:=hO
     rw [show V.heap[rb + 1]? = _ from h1] at ho
     cases ho
     rfl)
    have HV2:=hDx hV2
    clear hbV hO2 hln hb2a hL hB hO hltp hV2 hqb hnew hs2 hN4
    gi_wp2_with fail
    rw [HV2.out]
    refine ⟨trivial,fun _ => by omega,(callsIn_wide.2 HN4.out).mono ?_⟩
    rintro e V' ⟨rfl,hO',hb',hk'⟩
    have hKV:Keeps (rb + 1) V V':=(keeps_below HVa.out).trans hk'
    have hBV:Below rb V V':=(HVa.out.mono hrV).trans hb'
    have hE1:=keepsOthers_of hKV HOb.out
    have hE2:=keepL_of hKV HL.out (by omega) hBV HLt.out
    have HE:Hid (KeepsFrom w4.heap.size V V' ∧ KeepL (lookR w3.heap.size a r.l) V V' ∧ OutAt rb (rb + 1) (digs (clipN 1) ++ runsB (valR (pre ++ [⟨(k,⟨x1,x2,x3⟩),hok,hkb⟩]))) V' ∧ LooksR w3.heap.size a m c r.l V' ∧ Below rb w V'):=hDx ⟨hE1.from _,hE2,by
     rw [runsB_snoc,← List.append_assoc]
     exact hO',HL.out.keep hE2,HB.out.trans hBV⟩
    clear hO' hb' hk' hKV hBV hE1 hE2 HN4
    gi_wp2
    exact HE.out
   case done =>
    rintro D ys V hD hS ⟨hO,hL,hB⟩ hK
    subst hS
    have HBy:=hDx (bytes_any rb (rb + 1) _ V hO)
    have HB:=hDx hB
    have HK:=hDx hK
    have HD:=hDx hD
    clear hO hL hB hK hD
    gi_wp2_with fail
    refine ⟨trivial,(callsIn_wide.2 HBy.out).mono ?_⟩
    rintro e V' ⟨rfl,rfl⟩
    gi_wp2
    refine ⟨by simp,.inl ⟨_,_,rfl,run_takeDeferred HK.out,?_⟩⟩
    rw [← HP.out]
    exact ⟨_,results_tmp rfl _ _ _,by rw [HPk.out]; rfl,by rw [HRb.out]; exact HB.out.trans (belowK_b (w:=w4) hrw4 V D _ _ HD.out HK.out rfl rfl)⟩
   case stop =>
    rintro D c pre V hD _ h
    exact h.elim
 · gi_wp2_with fail
   rw [HW1.out,HW2.out,HRb.out]
   refine ⟨trivial,(callsIn_wide.2 HN.out).mono ?_⟩
   rintro e w3 ⟨rfl,hO3,hb3,hk3⟩
   have hba:Below w2.heap.size w2 (w2.alloc (.cells #[.int .i64 0] 3)):=(Below.refl _ _).alloc (Nat.le_refl _) _
   have hrl:rb < w2.heap.size:=(gSx.1 HA.out).1
   have hb03:Below rb w w3:=HB2.out.trans ((hba.mono (by omega)).trans hb3)
   have hA3:w3.heap[rb]? = some (.cells #[.slice a m c,.bool false] 57 (0,0)):=hk3.block rb _ ((hba.block rb hrl).trans HA.out) (by omega) (fun cur fr e => by injection e with _ e2; revert e2; decide)
   have c0:w3.cell? ⟨rb,0,none⟩ = some (.slice a m c):=by rw [cell_block hA3]; rfl
   have HRn:=hDx (runs_any a m c r.l w3 (HCl.out.belowAll (by rw [HRb.out]; exact hb03)))
   have HO3:=hDx hO3
   have HB03:=hDx hb03
   have hne:rb + 1 < w3.heap.size:=hO3.lt
   clear hO3 hb3 hk3 hba hrl hb03 hA3 c1 HA
   gi_wp2_with fail
   refine ⟨trivial,(callsIn_wide.2 HRn.out).mono ?_⟩
   rintro e w4 ⟨rfl,hL4,hb4⟩
   have hO4:=outAt_below HO3.out hb4
   have hb04:Below rb w w4:=HB03.out.trans (hb4.mono HB03.out.size |>.mono (by have:=HB03.out.size; have:=HRb.out; omega))
   have HL4:=hDx hL4
   have HO4:=hDx hO4
   have HB04:=hDx hb04
   have hrw4:rb ≤ w4.heap.size:=by have:=hb04.size; have:=HRb.out; omega
   clear hL4 hb4 hO4 hb04 c0 HRn HO3
   gi_wp2_with fail
   refine wpIn_rangeFunc_ownH rfl h1 (gf:=86) (lb:=#[.pointer (some ⟨w3.heap.size,0,none⟩)]) rfl trivial (enters_of Tryd.func86 (by kernel_rfl) rfl)
     (runs_stops (n - 1) (by omega) w3.heap.size a m c r.l R HR.out HG.out (by omega) w4 HL4.out) (fun h1 h2 => keepL_t h1 h2) (keepL_b HL4.out.all) (Below.refl _ _) (fun _ => rfl)
     (fun pre V => OutAt rb (rb + 1) (digs (clipN 0) ++ runsB (valR pre)) V ∧ LooksR w3.heap.size a m c r.l V ∧ Below rb w V)
     (fun _ _ _ => False)
     (OwnFrom.and ownFrom_out (OwnFrom.and (ownFrom_looks HL4.out.all) (ownFrom_below (by rw [HRb.out]; exact Nat.le_refl _) hrw4)))
     (fun _ _ _ _ _ hs _ _ => hs)
     ⟨by simpa [valR,runsB] using HO4.out,HL4.out,HB04.out⟩
     (fun x a' V => ∃ Bx,V.heap[Bx]? = some (.cells #[.int .i64 (x.1.1:Int),.int .i32 x.1.2.rune,.int .i64 x.1.2.style,.int .i64 x.1.2.part] 129 (0,0)) ∧ a' = { tmps:=#[.agg #[.slice a m c,.bool false],.pointer (some ⟨rb,0,none⟩),.string ⟨#[]⟩,.pointer (some ⟨rb + 1,0,none⟩),.int .i64 0,.pointer (some ⟨Bx,0,none⟩),undef,.pointer (some ⟨rb,1,none⟩),.bool false,.int .i64 0,.slice (some ⟨rb + 1 + 1,0,none⟩) 1 1,.pointer (some ⟨rb + 1,0,none⟩),.pointer (some ⟨rb,0,none⟩),.slice a m c,.func (.func 86) #[] #[.pointer (some ⟨w3.heap.size,0,none⟩)],.agg #[.int .i64 (x.1.1:Int),.int .i32 x.1.2.rune,.int .i64 x.1.2.style,.int .i64 x.1.2.part],undef,undef,undef,undef,undef,undef,undef,undef,undef,undef,undef,undef,undef,undef],defers:=[] })
     (fun x a' s X Y row hs hg hr => by
      obtain ⟨Bx,hb2,hb3⟩:=hs
      refine ⟨Bx,(hg.block Bx (gSx.1 hb2).1 (fun e => ?_)).trans hb2,hb3⟩
      obtain ⟨_,o,ho,hc⟩:=hr Bx e.symm
      rw [hb2] at ho
      cases ho
      cases hc)
     ?assign ?body ?done ?stop
   case assign =>
    rintro l pre x V K ⟨hO,hL,hB⟩ hK
    obtain ⟨⟨k,⟨x1,x2,x3⟩⟩,hq⟩:∃ q,x.1 = q:=⟨_,rfl⟩
    rw [hq] at hK
    have hba:Below V.heap.size V (V.alloc (.cells #[.int .i64 (k:Int),.int .i32 x1,.int .i64 x2,.int .i64 x3] 129)):=(Below.refl _ _).alloc (Nat.le_refl _) _
    have hK':=hK _ _ ((keepsOthers_below hba).from _) (KeepL.of_below hba hL.all) ⟨outAt_below hO hba,hL.below hba,hB.trans (hba.mono (by have:=hB.size; have:=HRb.out; omega))⟩ ⟨V.heap.size,heap_alloc_new V _,rfl⟩
    have HK:=hDx hK'
    have hen:encQ x = #[.agg #[.int .i64 (k:Int),.int .i32 x1,.int .i64 x2,.int .i64 x3]]:=by unfold encQ; rw [hq]
    rw [hen]
    clear hK hK' hba hO hL hB hq hen
    gi_wp2
    exact HK.out
   case body =>
    rintro l pre x a' V hls hlr ⟨hO,hL,hB⟩ ⟨Bx,hBx,rfl⟩ hltp
    clear hls hlr
    obtain ⟨⟨k,⟨x1,x2,x3⟩⟩,hok,hkb⟩:=x
    simp only at hok hkb hBx ⊢
    have hwr:IntKind.i64.wrap x1 = x1:=by have:=hok.1; simp only at this; rw [IntKind.wrap_i64]; omega
    have g0:V.cell? ⟨Bx,0,none⟩ = some (.int .i64 (k:Int)):=by rw [cell_block hBx]; rfl
    have g1:V.cell? ⟨Bx,1,none⟩ = some (.int .i32 x1):=by rw [cell_block hBx]; rfl
    have g2:V.cell? ⟨Bx,2,none⟩ = some (.int .i64 x2):=by rw [cell_block hBx]; rfl
    have g3:V.cell? ⟨Bx,3,none⟩ = some (.int .i64 x3):=by rw [cell_block hBx]; rfl
    obtain ⟨qb,hqb⟩:∃ qb,V.heap.size = qb:=⟨_,rfl⟩
    obtain ⟨V2,hV2⟩:∃ V2,V.alloc (.cells #[.int .i32 x1,.int .i64 x2,.int .i64 x3] 118) = V2:=⟨_,rfl⟩
    have hnew:V2.heap[qb]? = some (.cells #[.int .i32 x1,.int .i64 x2,.int .i64 x3] 118 (0,0)):=by rw [← hV2,← hqb]; exact heap_alloc_new V _
    have hbV:Below V.heap.size V V2:=by rw [← hV2]; exact (Below.refl _ _).alloc (Nat.le_refl _) _
    have k0:V2.cell? ⟨Bx,0,none⟩ = some (.int .i64 (k:Int)):=(hbV.cell (p:=⟨Bx,0,none⟩) (gSx.1 hBx).1).trans g0
    have hs2:V2.heap.size = V.heap.size + 1:=by rw [← hV2,World.size_alloc]
    have hO2:=outAt_below hO hbV
    have hrV:rb ≤ V.heap.size:=by have:=hB.size; have:=HRb.out; omega
    have hrV2:rb ≤ V2.heap.size:=Nat.le_trans hrV hbV.size
    have hln:((digs (clipN 0) ++ runsB (valR pre)).length:Int) ≤ 999900:=by
     have h1:=runsB_len (valR pre)
     have h2:=digs_nine (clipN 0) (clipN_le _)
     unfold valR at h1
     rw [List.length_map] at h1
     rw [List.length_append]
     unfold valR
     omega
    have hN4:=num_four rb (rb + 1) (k:Int) x1 x2 x3 _ V2 hln (by omega) hO2 hrV2
    rw [show (some (⟨V2.heap.size,0,none⟩:Addr)) = some ⟨V.heap.size + 1,0,none⟩ by rw [hs2]] at hN4
    have HN4:=hDx hN4
    rw [← hV2] at k0
    have hb2a:Below V2.heap.size V2 (V2.alloc (.cells #[.int .i64 (k:Int),.int .i64 x1,.int .i64 x2,.int .i64 x3] 3)):=(Below.refl _ _).alloc (Nat.le_refl _) _
    have HVa:Hid (Below V.heap.size V (V2.alloc (.cells #[.int .i64 (k:Int),.int .i64 x1,.int .i64 x2,.int .i64 x3] 3))):=hDx (hbV.trans (hb2a.mono hbV.size))
    have HL:=hDx hL
    have HB:=hDx hB
    have HOb:Hid (∀ o,V.heap[rb + 1]? = some o → o.isCells = true):=hDx (fun o ho => by
     obtain ⟨v,h1,-⟩:=hO
     rw [show V.heap[rb + 1]? = _ from h1] at ho
     cases ho
     rfl)
    have HV2:=hDx hV2
    clear hbV hO2 hln hb2a hL hB hO hltp hV2 hqb hnew hs2 hN4
    gi_wp2_with fail
    rw [HV2.out]
    refine ⟨trivial,fun _ => by omega,(callsIn_wide.2 HN4.out).mono ?_⟩
    rintro e V' ⟨rfl,hO',hb',hk'⟩
    have hKV:Keeps (rb + 1) V V':=(keeps_below HVa.out).trans hk'
    have hBV:Below rb V V':=(HVa.out.mono hrV).trans hb'
    have hE1:=keepsOthers_of hKV HOb.out
    have hE2:=keepL_of hKV HL.out (by omega) hBV HLt.out
    have HE:Hid (KeepsFrom w4.heap.size V V' ∧ KeepL (lookR w3.heap.size a r.l) V V' ∧ OutAt rb (rb + 1) (digs (clipN 0) ++ runsB (valR (pre ++ [⟨(k,⟨x1,x2,x3⟩),hok,hkb⟩]))) V' ∧ LooksR w3.heap.size a m c r.l V' ∧ Below rb w V'):=hDx ⟨hE1.from _,hE2,by
     rw [runsB_snoc,← List.append_assoc]
     exact hO',HL.out.keep hE2,HB.out.trans hBV⟩
    clear hO' hb' hk' hKV hBV hE1 hE2 HN4
    gi_wp2
    exact HE.out
   case done =>
    rintro D ys V hD hS ⟨hO,hL,hB⟩ hK
    subst hS
    have HBy:=hDx (bytes_any rb (rb + 1) _ V hO)
    have HB:=hDx hB
    have HK:=hDx hK
    have HD:=hDx hD
    clear hO hL hB hK hD
    gi_wp2_with fail
    refine ⟨trivial,(callsIn_wide.2 HBy.out).mono ?_⟩
    rintro e V' ⟨rfl,rfl⟩
    gi_wp2
    refine ⟨by simp,.inl ⟨_,_,rfl,run_takeDeferred HK.out,?_⟩⟩
    rw [← HP.out]
    exact ⟨_,results_tmp rfl _ _ _,by rw [HPk.out]; rfl,by rw [HRb.out]; exact HB.out.trans (belowK_b (w:=w4) hrw4 V D _ _ HD.out HK.out rfl rfl)⟩
   case stop =>
    rintro D c pre V hD _ h
    exact h.elim
theorem packRow_any (a:Option Addr) (m c:Nat) (b:Bool) (r:Ro) (w:World) (hI:RowV .i32 (.agg #[.slice a m c,.bool b]) r w) (hok:AllC okC r.l) (hm:m ≤ 20000) :
    Calls Tryd.prog 32 #[.agg #[.slice a m c,.bool b]] w fun e w' => e = .returned (.string ⟨(packR r).toArray⟩) ∧ Below w.heap.size w w' :=
 (callsIn_wide (n:=6)).1 (packRow_in 6 (Nat.le_refl _) a m c b r w hI hok hm)
end Go.Proofs.YtagolklnjhpbdaaDoor.K
