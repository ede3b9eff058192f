import Derived.Test.YtagolklnjhpbdaaDoorMerged0
import Derived.Test.YtagolklnjhpbdaaDoorMerged3
import Derived.Lib.QuietBelow
import Derived.BigQuiet
import Derived.Deep.AppendLies
import Derived.Laws.ResultCell
import Derived.Test.YtagolklnjhpbdaaDoorMerged11
namespace Go.Proofs.YtagolklnjhpbdaaDoor.I
open Go.RowKit
set_option maxRecDepth 100000 in
set_option maxHeartbeats 1000000 in
theorem refnum_any (n:Int) (w:World):Calls Tryd.prog 37 #[.int .i64 n] w fun e w'=>∃ t:ByteArray,e=.returned (.string t)∧t.data.toList=digs (clipN n)∧Below w.heap.size w w':=by
 obtain ⟨m,hm⟩ : ∃ m,clipN n=m:=⟨_,rfl⟩;have hm62:(m:Int)≤4611686018427387904:=by rw [← hm]; have:=clipN_le n; unfold top at this; omega
 obtain ⟨i0,hi,hz0,hz1,hz2⟩ := info_parts info5;rcases Int.lt_or_le 0 n with hn | hn
 · rcases Int.lt_or_le 4611686018427387904 n with hn2 | hn2
   · have hmm:(4611686018427387904:Int)=(m:Int):=by rw [← hm]; unfold clipN top; omega
     have HMM:=hDx hmm;rw [hm];clear hm hmm
     go_enter Tryd.func37,Tryd.ntmps37
     go_wp2_with fail
     go_loopw [0,3] (fun x v wr=>∃ j:Nat,∃ pre:List UInt8,x=.int .i64 j∧(j:Int)≤4611686018427387904∧(pre.length:Int)≤9∧Hid (pre++digs j=digs m∧wr.ownsRow w.heap.size 5 1 v pre.length (pre.map c5)∧Below w.heap.size w wr)) (fun x _ _=>(intOf x).toNat)
     case atStart=>exact ⟨m,[],by first | (rw [← HMM.out]; done) | exact congrArg (Value.int .i64) (by have:=HMM.out; omega),hm62,by decide,hDx ⟨rfl,by simpa using World.ownsRow_lit (base:=w.heap.size) (e:=5) (size:=1) w #[] 0 (Nat.le_refl _) (by decide) rfl,(Below.refl _ _).alloc (Nat.le_refl _) _⟩⟩
     case round =>
      obtain ⟨j,pre,rfl,hj,hpl,hF⟩ := hrel;obtain ⟨hpre,hrow,hB⟩ := hF.out;obtain ⟨q,hq⟩ : ∃ q,pre.length=q:=⟨_,rfl⟩;obtain ⟨X,hX⟩ : ∃ X,pre.map c5=X:=⟨_,rfl⟩;rw [hq,hX] at hrow;have hle:=hB.size;have hq9:(q:Int)≤9:=by omega
      have HB:=hDx hB;have HQ:=hDx hq;have HX:=hDx hX;have HP:=hDx hpre;clear hF hB hq hX hpre;by_cases h128:128≤(j:Int)
      · obtain ⟨x,hx⟩ : ∃ x:Nat,j % 128=x:=⟨_,rfl⟩;have hx128:(x:Int)<128:=by omega
        have e1:((j:Int)).tmod 128=(x:Int):=by rw [← hx]; rfl
        obtain ⟨j2,hj2⟩ : ∃ j2:Nat,j / 128=j2:=⟨_,rfl⟩;have e2:((j:Int)).tdiv 128=(j2:Int):=by rw [← hj2]; rfl
        have HB':Hid (digs j=UInt8.ofNat (j % 128+128)::digs j2):=hDx (by rw [← hj2]; exact digs_big (by omega));have hlen:(pre.length:Int)+1≤9:=by
         have h1:=congrArg List.length HP.out;have h2:=digs_nine m (by unfold top; omega);have h3:=digs_pos j;rw [List.length_append] at h1;omega
        obtain ⟨V,hV⟩ : ∃ V:UInt8,UInt8.ofNat (j % 128+128)=V:=⟨_,rfl⟩;have eV:(128:Int)+(x:Int)=(V.toNat:Int):=by rw [← hV]; simp; omega
        rw [hV] at HB';have hj2l:(j2:Int)≤4611686018427387904:=by omega
        have hj2d:(j2:Int)<j:=by omega
        clear hx hj2 hV
        go_wp2_with (at_builtin; refine wpList_append_own _ rfl _ _ 66 rfl w.heap.size 5 i0 (.int .u8 0) 1 1 Tryd.underlying66 hi hz0 hz1 hz2 rfl (by decide) _ _ _ rfl (hrow.alloc _) ⟨wr.heap.size,0,none⟩ 1 1 [.int .u8 (V.toNat:Int)] rfl rfl (cell_one_new _ _ _) (by simp [Value.oneCell']) (by unfold maxLen; omega) (by omega) (by first | omega | (simp; omega)) ?_)
        intro v' w1 hown' hgrow _;have hB1:Below w.heap.size w w1:=(HB.out.alloc hle _).grown hgrow (by simp; omega) (fun j hj=>(hrow.lt j hj).1);have HR:=hDx hown';have HB1:=hDx hB1;clear hown' hgrow hB1 hrow
        go_wp2
        go_roundw
        case rel=>exact ⟨j2,pre++[V],by go_num,hj2l,by simp; omega,hDx ⟨by rw [← HP.out,HB'.out]; simp,by have h:=HR.out; rw [← HX.out,← HQ.out] at h; simpa [c5] using h,HB1.out⟩⟩
        case measure=>simp [intOf]; omega
      · have HB':Hid (digs j=[UInt8.ofNat j]):=hDx (digs_small (by omega));obtain ⟨V,hV⟩ : ∃ V:UInt8,UInt8.ofNat j=V:=⟨_,rfl⟩;have eV:(j:Int)=(V.toNat:Int):=by rw [← hV]; simp; omega
        rw [hV] at HB';clear hV
        go_wp2_with (at_builtin; refine wpList_append_own _ rfl _ _ 66 rfl w.heap.size 5 i0 (.int .u8 0) 1 1 Tryd.underlying66 hi hz0 hz1 hz2 rfl (by decide) _ _ _ rfl (hrow.alloc _) ⟨wr.heap.size,0,none⟩ 1 1 [.int .u8 (V.toNat:Int)] rfl rfl (cell_one_new _ _ _) (by simp [Value.oneCell']) (by unfold maxLen; omega) (by omega) (by first | omega | (simp; omega)) ?_)
        intro v' w1 hown' hgrow _;have hB1:Below w.heap.size w w1:=(HB.out.alloc hle _).grown hgrow (by simp; omega) (fun j hj=>(hrow.lt j hj).1);have HB1:=hDx hB1;obtain ⟨g,cap,rfl,_,_⟩ := World.ownsRow.form hown' (by omega);have hcells:=@World.ownsRow.cells _ _ _ _ _ _ _ hown';have hconv:=run_convert_bytes_back (P:=Tryd.prog) w1 66 9 5 ⟨g,0,none⟩ cap (pre++[V]) Tryd.underlying66 Tryd.underlying5 Tryd.underlying9 (fun j hj=>hcells (g:=g) rfl j _ (by rw [← HX.out,show [Value.int .u8 (V.toNat:Int)]=[V].map c5 from rfl,← List.map_append,List.getElem?_map,List.getElem?_eq_getElem hj]; rfl));rw [List.length_append,HQ.out,show [V].length=1 from rfl] at hconv;obtain ⟨D,hD⟩ : ∃ D:ByteArray,(⟨(pre++[V]).toArray⟩ : ByteArray)=D:=⟨_,rfl⟩;have HD:Hid (D.data.toList=pre++[V]):=hDx (by rw [← hD]);rw [hD] at hconv;clear hown' hgrow hB1 hrow hcells hD
        go_wp2
        go_ret
        exact ⟨D,rfl,by rw [HD.out,← HP.out,HB'.out],HB1.out⟩
   · obtain rfl:n=(m:Int):=by rw [← hm]; unfold clipN top; omega
     rw [hm];clear hm
     go_enter Tryd.func37,Tryd.ntmps37
     go_wp2_with fail
     go_loopw [0,3] (fun x v wr=>∃ j:Nat,∃ pre:List UInt8,x=.int .i64 j∧(j:Int)≤4611686018427387904∧(pre.length:Int)≤9∧Hid (pre++digs j=digs m∧wr.ownsRow w.heap.size 5 1 v pre.length (pre.map c5)∧Below w.heap.size w wr)) (fun x _ _=>(intOf x).toNat)
     case atStart=>exact ⟨m,[],by first | rfl | exact congrArg (Value.int .i64) (by omega),hm62,by decide,hDx ⟨rfl,by simpa using World.ownsRow_lit (base:=w.heap.size) (e:=5) (size:=1) w #[] 0 (Nat.le_refl _) (by decide) rfl,(Below.refl _ _).alloc (Nat.le_refl _) _⟩⟩
     case round =>
      obtain ⟨j,pre,rfl,hj,hpl,hF⟩ := hrel;obtain ⟨hpre,hrow,hB⟩ := hF.out;obtain ⟨q,hq⟩ : ∃ q,pre.length=q:=⟨_,rfl⟩;obtain ⟨X,hX⟩ : ∃ X,pre.map c5=X:=⟨_,rfl⟩;rw [hq,hX] at hrow;have hle:=hB.size;have hq9:(q:Int)≤9:=by omega
      have HB:=hDx hB;have HQ:=hDx hq;have HX:=hDx hX;have HP:=hDx hpre;clear hF hB hq hX hpre;by_cases h128:128≤(j:Int)
      · obtain ⟨x,hx⟩ : ∃ x:Nat,j % 128=x:=⟨_,rfl⟩;have hx128:(x:Int)<128:=by omega
        have e1:((j:Int)).tmod 128=(x:Int):=by rw [← hx]; rfl
        obtain ⟨j2,hj2⟩ : ∃ j2:Nat,j / 128=j2:=⟨_,rfl⟩;have e2:((j:Int)).tdiv 128=(j2:Int):=by rw [← hj2]; rfl
        have HB':Hid (digs j=UInt8.ofNat (j % 128+128)::digs j2):=hDx (by rw [← hj2]; exact digs_big (by omega));have hlen:(pre.length:Int)+1≤9:=by
         have h1:=congrArg List.length HP.out;have h2:=digs_nine m (by unfold top; omega);have h3:=digs_pos j;rw [List.length_append] at h1;omega
        obtain ⟨V,hV⟩ : ∃ V:UInt8,UInt8.ofNat (j % 128+128)=V:=⟨_,rfl⟩;have eV:(128:Int)+(x:Int)=(V.toNat:Int):=by rw [← hV]; simp; omega
        rw [hV] at HB';have hj2l:(j2:Int)≤4611686018427387904:=by omega
        have hj2d:(j2:Int)<j:=by omega
        clear hx hj2 hV
        go_wp2_with (at_builtin; refine wpList_append_own _ rfl _ _ 66 rfl w.heap.size 5 i0 (.int .u8 0) 1 1 Tryd.underlying66 hi hz0 hz1 hz2 rfl (by decide) _ _ _ rfl (hrow.alloc _) ⟨wr.heap.size,0,none⟩ 1 1 [.int .u8 (V.toNat:Int)] rfl rfl (cell_one_new _ _ _) (by simp [Value.oneCell']) (by unfold maxLen; omega) (by omega) (by first | omega | (simp; omega)) ?_)
        intro v' w1 hown' hgrow _;have hB1:Below w.heap.size w w1:=(HB.out.alloc hle _).grown hgrow (by simp; omega) (fun j hj=>(hrow.lt j hj).1);have HR:=hDx hown';have HB1:=hDx hB1;clear hown' hgrow hB1 hrow
        go_wp2
        go_roundw
        case rel=>exact ⟨j2,pre++[V],by go_num,hj2l,by simp; omega,hDx ⟨by rw [← HP.out,HB'.out]; simp,by have h:=HR.out; rw [← HX.out,← HQ.out] at h; simpa [c5] using h,HB1.out⟩⟩
        case measure=>simp [intOf]; omega
      · have HB':Hid (digs j=[UInt8.ofNat j]):=hDx (digs_small (by omega));obtain ⟨V,hV⟩ : ∃ V:UInt8,UInt8.ofNat j=V:=⟨_,rfl⟩;have eV:(j:Int)=(V.toNat:Int):=by rw [← hV]; simp; omega
        rw [hV] at HB';clear hV
        go_wp2_with (at_builtin; refine wpList_append_own _ rfl _ _ 66 rfl w.heap.size 5 i0 (.int .u8 0) 1 1 Tryd.underlying66 hi hz0 hz1 hz2 rfl (by decide) _ _ _ rfl (hrow.alloc _) ⟨wr.heap.size,0,none⟩ 1 1 [.int .u8 (V.toNat:Int)] rfl rfl (cell_one_new _ _ _) (by simp [Value.oneCell']) (by unfold maxLen; omega) (by omega) (by first | omega | (simp; omega)) ?_)
        intro v' w1 hown' hgrow _;have hB1:Below w.heap.size w w1:=(HB.out.alloc hle _).grown hgrow (by simp; omega) (fun j hj=>(hrow.lt j hj).1);have HB1:=hDx hB1;obtain ⟨g,cap,rfl,_,_⟩ := World.ownsRow.form hown' (by omega);have hcells:=@World.ownsRow.cells _ _ _ _ _ _ _ hown';have hconv:=run_convert_bytes_back (P:=Tryd.prog) w1 66 9 5 ⟨g,0,none⟩ cap (pre++[V]) Tryd.underlying66 Tryd.underlying5 Tryd.underlying9 (fun j hj=>hcells (g:=g) rfl j _ (by rw [← HX.out,show [Value.int .u8 (V.toNat:Int)]=[V].map c5 from rfl,← List.map_append,List.getElem?_map,List.getElem?_eq_getElem hj]; rfl));rw [List.length_append,HQ.out,show [V].length=1 from rfl] at hconv;obtain ⟨D,hD⟩ : ∃ D:ByteArray,(⟨(pre++[V]).toArray⟩ : ByteArray)=D:=⟨_,rfl⟩;have HD:Hid (D.data.toList=pre++[V]):=hDx (by rw [← hD]);rw [hD] at hconv;clear hown' hgrow hB1 hrow hcells hD
        go_wp2
        go_ret
        exact ⟨D,rfl,by rw [HD.out,← HP.out,HB'.out],HB1.out⟩
 · obtain rfl:m=0:=by rw [← hm]; unfold clipN top; omega
   rw [hm];clear hm
   go_enter Tryd.func37,Tryd.ntmps37
   go_wp2_with fail
   go_loopw [0,3] (fun x v wr=>∃ j:Nat,∃ pre:List UInt8,x=.int .i64 j∧(j:Int)≤4611686018427387904∧(pre.length:Int)≤9∧Hid (pre++digs j=digs 0∧wr.ownsRow w.heap.size 5 1 v pre.length (pre.map c5)∧Below w.heap.size w wr)) (fun x _ _=>(intOf x).toNat)
   case atStart=>exact ⟨0,[],by go_num,hm62,by decide,hDx ⟨rfl,by simpa using World.ownsRow_lit (base:=w.heap.size) (e:=5) (size:=1) w #[] 0 (Nat.le_refl _) (by decide) rfl,(Below.refl _ _).alloc (Nat.le_refl _) _⟩⟩
   case round =>
    obtain ⟨j,pre,rfl,hj,hpl,hF⟩ := hrel;obtain ⟨hpre,hrow,hB⟩ := hF.out;obtain ⟨q,hq⟩ : ∃ q,pre.length=q:=⟨_,rfl⟩;obtain ⟨X,hX⟩ : ∃ X,pre.map c5=X:=⟨_,rfl⟩;rw [hq,hX] at hrow;have hle:=hB.size;have hq9:(q:Int)≤9:=by omega
    have HB:=hDx hB;have HQ:=hDx hq;have HX:=hDx hX;have HP:=hDx hpre;clear hF hB hq hX hpre;by_cases h128:128≤(j:Int)
    · obtain ⟨x,hx⟩ : ∃ x:Nat,j % 128=x:=⟨_,rfl⟩;have hx128:(x:Int)<128:=by omega
      have e1:((j:Int)).tmod 128=(x:Int):=by rw [← hx]; rfl
      obtain ⟨j2,hj2⟩ : ∃ j2:Nat,j / 128=j2:=⟨_,rfl⟩;have e2:((j:Int)).tdiv 128=(j2:Int):=by rw [← hj2]; rfl
      have HB':Hid (digs j=UInt8.ofNat (j % 128+128)::digs j2):=hDx (by rw [← hj2]; exact digs_big (by omega));have hlen:(pre.length:Int)+1≤9:=by
       have h1:=congrArg List.length HP.out;have h2:=digs_nine 0 (by unfold top; omega);have h3:=digs_pos j;rw [List.length_append] at h1;omega
      obtain ⟨V,hV⟩ : ∃ V:UInt8,UInt8.ofNat (j % 128+128)=V:=⟨_,rfl⟩;have eV:(128:Int)+(x:Int)=(V.toNat:Int):=by rw [← hV]; simp; omega
      rw [hV] at HB';have hj2l:(j2:Int)≤4611686018427387904:=by omega
      have hj2d:(j2:Int)<j:=by omega
      clear hx hj2 hV
      go_wp2_with (at_builtin; refine wpList_append_own _ rfl _ _ 66 rfl w.heap.size 5 i0 (.int .u8 0) 1 1 Tryd.underlying66 hi hz0 hz1 hz2 rfl (by decide) _ _ _ rfl (hrow.alloc _) ⟨wr.heap.size,0,none⟩ 1 1 [.int .u8 (V.toNat:Int)] rfl rfl (cell_one_new _ _ _) (by simp [Value.oneCell']) (by unfold maxLen; omega) (by omega) (by first | omega | (simp; omega)) ?_)
      intro v' w1 hown' hgrow _;have hB1:Below w.heap.size w w1:=(HB.out.alloc hle _).grown hgrow (by simp; omega) (fun j hj=>(hrow.lt j hj).1);have HR:=hDx hown';have HB1:=hDx hB1;clear hown' hgrow hB1 hrow
      go_wp2
      go_roundw
      case rel=>exact ⟨j2,pre++[V],by go_num,hj2l,by simp; omega,hDx ⟨by rw [← HP.out,HB'.out]; simp,by have h:=HR.out; rw [← HX.out,← HQ.out] at h; simpa [c5] using h,HB1.out⟩⟩
      case measure=>simp [intOf]; omega
    · have HB':Hid (digs j=[UInt8.ofNat j]):=hDx (digs_small (by omega));obtain ⟨V,hV⟩ : ∃ V:UInt8,UInt8.ofNat j=V:=⟨_,rfl⟩;have eV:(j:Int)=(V.toNat:Int):=by rw [← hV]; simp; omega
      rw [hV] at HB';clear hV
      go_wp2_with (at_builtin; refine wpList_append_own _ rfl _ _ 66 rfl w.heap.size 5 i0 (.int .u8 0) 1 1 Tryd.underlying66 hi hz0 hz1 hz2 rfl (by decide) _ _ _ rfl (hrow.alloc _) ⟨wr.heap.size,0,none⟩ 1 1 [.int .u8 (V.toNat:Int)] rfl rfl (cell_one_new _ _ _) (by simp [Value.oneCell']) (by unfold maxLen; omega) (by omega) (by first | omega | (simp; omega)) ?_)
      intro v' w1 hown' hgrow _;have hB1:Below w.heap.size w w1:=(HB.out.alloc hle _).grown hgrow (by simp; omega) (fun j hj=>(hrow.lt j hj).1);have HB1:=hDx hB1;obtain ⟨g,cap,rfl,_,_⟩ := World.ownsRow.form hown' (by omega);have hcells:=@World.ownsRow.cells _ _ _ _ _ _ _ hown';have hconv:=run_convert_bytes_back (P:=Tryd.prog) w1 66 9 5 ⟨g,0,none⟩ cap (pre++[V]) Tryd.underlying66 Tryd.underlying5 Tryd.underlying9 (fun j hj=>hcells (g:=g) rfl j _ (by rw [← HX.out,show [Value.int .u8 (V.toNat:Int)]=[V].map c5 from rfl,← List.map_append,List.getElem?_map,List.getElem?_eq_getElem hj]; rfl));rw [List.length_append,HQ.out,show [V].length=1 from rfl] at hconv;obtain ⟨D,hD⟩ : ∃ D:ByteArray,(⟨(pre++[V]).toArray⟩ : ByteArray)=D:=⟨_,rfl⟩;have HD:Hid (D.data.toList=pre++[V]):=hDx (by rw [← hD]);rw [hD] at hconv;clear hown' hgrow hB1 hrow hcells hD
      go_wp2
      go_ret
      exact ⟨D,rfl,by rw [HD.out,← HP.out,HB'.out],HB1.out⟩
theorem num_two (base B:Nat) (z y:Int) (bs:List UInt8) (w:World) (hsz:(bs.length:Int)≤999900) (hbase:base≤B) (hO:OutAt base B bs w) (hbw:base≤w.heap.size) :
    Calls Tryd.prog 30 #[.pointer (some ⟨B,0,none⟩),.slice (some ⟨w.heap.size,0,none⟩) 2 2] (w.alloc (.cells #[.int .i64 z,.int .i64 y] 3)) (Wrote base B (bs++(digs (clipN z)++digs (clipN y))) (w.alloc (.cells #[.int .i64 z,.int .i64 y] 3))):=by
 have h:=num_any base B w.heap.size 0 2 [z,y] bs (w.alloc (.cells #[.int .i64 z,.int .i64 y] 3)) (by simp; omega) hbase (hO.alloc _) (fun w' _ hk i hi=>by
  rw [cell_keeps hk (block_new w _) (by decide) (by have:=hO.lt; omega),cell_alloc_new]
  match i,hi with
  | 0,_=>rfl
  | 1,_=>rfl
  | i+2,hi=>simp at hi; omega) (by simp; omega)
 simpa [numsOf] using h
theorem append_list (a b:ByteArray):(a++b).data.toList=a.data.toList++b.data.toList:=by simp
theorem reftextw_any (s:ByteArray) (hs:(s.size:Int)≤1000) (w:World):Calls Tryd.prog 38 #[.string s] w fun e w'=>∃ t:ByteArray,e=.returned (.string t)∧t.data.toList=textB s∧Below w.heap.size w w':=by
 have H:=hDx (refnum_any s.size w)
 go_enter Tryd.func38,Tryd.ntmps38
 go_wp2_with fail
 refine H.out.mono ?_;rintro e w1 ⟨t,rfl,ht,hb⟩;have hts:(t.size:Int)≤9:=by
  have h:=digs_nine (clipN s.size) (clipN_le _);rw [← ht] at h;exact Int.ofNat_le.2 h
 have HT:=hDx ht;have HB:=hDx hb;clear ht hb
 go_wp2
 go_ret
 exact ⟨_,rfl,by rw [append_list,HT.out]; rfl,HB.out⟩
end Go.Proofs.YtagolklnjhpbdaaDoor.I

namespace Go.Proofs.YtagolklnjhpbdaaDoor.K
open Go.RowKit
def RngG (l:List (Int × Int)):Prop:=∀ g ∈ l,-2147483648≤g.1∧g.1≤2147483647
def PackPost (l:List (Int × Int)) (w:World) (e:Ending) (w':World):Prop:=∃ t:ByteArray,e=.returned (.string t)∧t.data.toList=packG l∧Below w.heap.size w w'
set_option maxRecDepth 100000 in
set_option maxHeartbeats 8000000 in
theorem pack_any (a:Option Addr) (n c:Nat) (l:List (Int × Int)) (w:World) (hI:PairsIn .i32 a n c l w) (hr:RngG l) (hn:n≤1024) :
    Calls Tryd.prog 35 #[.slice a n c] w (PackPost l w):=by
 obtain ⟨rb,hrb⟩ : ∃ rb,w.heap.size=rb:=⟨_,rfl⟩;obtain ⟨P,hP⟩ : ∃ P,PackPost l w=P:=⟨_,rfl⟩;rw [hP];have HP:=hDx hP;have HRb:=hDx hrb;have HLn:=hDx hI.len;have HI:=hDx hI;have HRg:=hDx hr;have hO:=I.out_new rb w;obtain ⟨w1,hw1⟩ : ∃ w1,w.alloc (.cells #[.slice none 0 0] 68)=w1:=⟨_,rfl⟩;rw [hw1,hrb] at hO;have hs1:w1.heap.size=rb+1:=by rw [← hw1,World.size_alloc,hrb]
 have hb1:Below rb w w1:=by rw [← hw1]; exact (Below.refl _ _).alloc (by omega) _
 have HW1:=hDx hw1;have HB1:=hDx hb1;have HN:=hDx (I.num_one rb rb (n:Int) [] w1 (by simp) (Nat.le_refl _) hO (by omega));have hnI:(n:Int)≤1024:=by omega
 have hS1:=hDx hs1;clear hP hrb hI hr hO hw1 hs1 hb1
 go_enter Tryd.func35,Tryd.ntmps35
 go_upto_region 2 with fail
 rw [HW1.out,HRb.out]
 go_wp2_with fail
 refine HN.out.mono ?_;rintro e w2 ⟨rfl,hO2,hb2,-⟩;have HO2:=hDx hO2;have HB2:Hid (Below rb w w2):=hDx (HB1.out.trans ((((Below.refl _ _).alloc (by have:=hS1.out; omega) _:Below rb w1 _)).trans hb2));have HS2:Hid (rb<w2.heap.size):=hDx hO2.lt;clear hO2 hb2 HN
 go_wp2_with fail
 go_loopw [12] (fun i wr=>∃ j:Nat,i=.int .i64 (j:Int)∧j≤n∧Hid (I.OutAt rb rb ([]++I.digs (I.clipN (n:Int))++(l.take j).flatMap gBytes) wr∧Below rb w wr∧rb<wr.heap.size)) (fun i _=>n - (intOf i).toNat)
 case atStart=>exact ⟨0,rfl,Nat.zero_le _,hDx ⟨by simpa using HO2.out,HB2.out,HS2.out⟩⟩
 case round =>
  obtain ⟨j,rfl,hj,HF⟩ := hrel;clear HO2 HB2 HS2;by_cases hlt:j<n
  · have hd:decide (j<n)=true:=decide_eq_true hlt;have hjI:(j:Int)<n:=by omega
    have hjl:j<l.length:=by rw [← HLn.out]; exact hlt
    obtain ⟨b,off,rfl,hbl,hAt⟩ := HI.out.at_.resolve_left (by intro e; rw [e] at hjl; simp at hjl);have hat:=hAt j l[j] (List.getElem?_eq_getElem hjl);have hrg:=HRg.out l[j] (List.getElem_mem hjl);have hsn:=flat_snoc l j hjl;obtain ⟨⟨x,s⟩,hx⟩ : ∃ g,l[j]=g:=⟨_,rfl⟩;rw [hx] at hat hrg hsn;have hbr:b<rb:=by rw [← HRb.out]; exact hbl
    have k0:wr.cell? ⟨b,off+j*2,none⟩=some (.int .i32 x):=(HF.out.2.1.cell (p:=⟨b,off+j*2,none⟩) hbr).trans hat.1;have k1:wr.cell? ⟨b,off+j*2+1,none⟩=some (.int .i64 s):=(HF.out.2.1.cell (p:=⟨b,off+j*2+1,none⟩) hbr).trans hat.2;have hwr:IntKind.i64.wrap x=x:=by rw [IntKind.wrap_i64]; have h1:=hrg.1; have h2:=hrg.2; simp only at h1 h2; omega
    obtain ⟨gb,hgb⟩ : ∃ gb,wr.heap.size=gb:=⟨_,rfl⟩;obtain ⟨w5,hw5⟩ : ∃ w5,wr.alloc (.cells #[.int .i32 x,.int .i64 s] 111)=w5:=⟨_,rfl⟩;have hnew:w5.heap[gb]?=some (.cells #[.int .i32 x,.int .i64 s] 111 (0,0)):=by rw [← hw5,← hgb]; exact heap_alloc_new wr _
    have m0:w5.cell? ⟨gb,0,none⟩=some (.int .i32 x):=by rw [cell_block hnew]; rfl
    have m1:w5.cell? ⟨gb,1,none⟩=some (.int .i64 s):=by rw [cell_block hnew]; rfl
    have hs5:w5.heap.size=gb+1:=by rw [← hw5,World.size_alloc,hgb]
    have hb5:Below rb w w5:=by rw [← hw5]; exact HF.out.2.1.alloc (by have:=HF.out.2.2; omega) _
    have hO5:I.OutAt rb rb ([]++I.digs (I.clipN (n:Int))++(l.take j).flatMap gBytes) w5:=by rw [← hw5]; exact HF.out.1.alloc _
    have hlen:(([]++I.digs (I.clipN (n:Int))++(l.take j).flatMap gBytes).length:Int)≤999900:=by
     have h1:=I.digs_nine (I.clipN (n:Int)) (by unfold I.clipN; exact Nat.min_le_right _ _);have h2:=flat_gBytes_len (l.take j);have h3:(l.take j).length≤1024:=by rw [List.length_take]; omega
     rw [List.length_append,List.nil_append];omega
    have HN:=hDx (I.num_two rb rb x s _ w5 hlen (Nat.le_refl _) hO5 (by have:=HF.out.2.2; omega));have HSn:=hDx hsn;have HGb:=hDx hgb;have HW5:=hDx hw5;have HB5:=hDx hb5;have HS5:=hDx hs5;have HG5:Hid (rb<gb):=hDx (by have:=HF.out.2.2; omega);clear hjl hAt hat hrg hsn hx hbl hgb hw5 hnew hs5 hb5 hO5 hlen
    go_upto_region 6 with fail
    rw [HW5.out,HGb.out];clear HF k0 k1
    go_wp2_with fail
    refine HN.out.mono ?_;rintro e w6 ⟨rfl,hO6,hb6,-⟩;have HE:Hid (I.OutAt rb rb ([]++I.digs (I.clipN (n:Int))++(l.take (j+1)).flatMap gBytes) w6∧Below rb w w6∧rb<w6.heap.size):=hDx ⟨by
     rw [HSn.out,← List.append_assoc]; exact hO6,HB5.out.trans ((((Below.refl _ _).alloc (by have:=HS5.out; have:=HG5.out; omega) _:Below rb w5 _)).trans hb6),hO6.lt⟩
    clear hO6 hb6 HN
    go_wp2_with fail
    go_roundw
    case rel=>exact ⟨j+1,by go_num,by omega,HE⟩
    case measure=>simp [intOf]; omega
  · obtain rfl:j=n:=by omega
    have hd:decide (j<j)=false:=by simp
    have HBy:=hDx (I.bytes_any rb rb _ wr HF.out.1);have hbl:[]++I.digs (I.clipN (j:Int))++(l.take j).flatMap gBytes=packG l:=by
     unfold packG;rw [List.nil_append,← HLn.out,List.take_of_length_le (by rw [HLn.out]; exact Nat.le_refl _)]
    rw [hbl] at HBy;have HBw:Hid (Below rb w wr):=hDx HF.out.2.1;clear HF hbl hlt
    go_wp2_with fail
    refine HBy.out.mono ?_;rintro e w7 ⟨rfl,rfl⟩;have hend:Hid (P (.returned (.string ⟨(packG l).toArray⟩)) wr):=hDx (by rw [← HP.out]; exact ⟨_,rfl,by simp,by rw [HRb.out]; exact HBw.out⟩)
    go_wp2_with fail
    exact hend.out
end Go.Proofs.YtagolklnjhpbdaaDoor.K
