import Derived.Test.YtagolklnjhpbdaaDoorMerged0
import Derived.Test.YtagolklnjhpbdaaDoorIOutNum
import Derived.Lib.AppendStr
import Derived.Lib.BufferRead
import Derived.Laws.IdiomStrings
import Derived.Test.YtagolklnjhpbdaaDoorMerged1
import Derived.OwnWalk
import Derived.Maps.AppendAt
import Derived.Test.YtagolklnjhpbdaaDoorRows
import Derived.WalkKit
import Derived.WalkLawsBesides
import Derived.WalkSpells
import Derived.Outline
import Derived.Lib.Hide
import Derived.Below
import Derived.IntWalk
import Derived.ArgAppend
import Derived.Laws.OwnMore
namespace Go.Proofs.YtagolklnjhpbdaaDoor.I
open Go.RowKit
def Strs (w:World) (b off:Nat) (ss:List ByteArray):Prop:=∀ i,i<ss.length→w.cell? ⟨b,off+i,none⟩=some (.string (ss.getD i ByteArray.empty))
def bytesOf (ss:List ByteArray):List UInt8:=ss.flatMap fun s=>s.data.toList
theorem bytesOf_snoc (ss:List ByteArray) (k:Nat) (h:k<ss.length):bytesOf (ss.take (k+1))=bytesOf (ss.take k)++(ss.getD k ByteArray.empty).data.toList:=by
 unfold bytesOf;rw [List.take_succ_eq_append_getElem h,List.flatMap_append];simp [h]
def Wrote (base B:Nat) (bs:List UInt8) (w:World) (e:Ending) (w':World):Prop:=e=.returned (.pointer (some ⟨B,0,none⟩))∧OutAt base B bs w'∧Below base w w'∧Keeps B w w'
theorem slice_shape {w:World} {base e size n:Nat} {v:Value} {xs:List Value} (h:w.ownsRow base e size v n xs):∃ a c,v=.slice a n c:=by
 rcases h.2 with ⟨rfl,rfl⟩ | ⟨g,cap,cur,rfl,_⟩
 · exact ⟨_,_,rfl⟩
 · exact ⟨_,_,rfl⟩
theorem strCells_c5 (s:ByteArray):Lib.strCells s=s.data.toList.map c5:=rfl
set_option maxRecDepth 100000 in
set_option maxHeartbeats 1000000 in
theorem raw_any (base B bl off cap:Nat) (ss:List ByteArray) (bs:List UInt8) (w:World) (hlen:(ss.length:Int)≤10000) (hsz:∀ k,k≤ss.length→((bs++bytesOf (ss.take k)).length:Int)≤100000000) (hbase:base≤B)
    (hO:OutAt base B bs w) (hS:∀ w',Below base w w'→Keeps B w w'→Strs w' bl off ss) (hbw:base≤w.heap.size) :
    Calls Tryd.prog 31 #[.pointer (some ⟨B,0,none⟩),.slice (some ⟨bl,off,none⟩) ss.length cap] w (Wrote base B (bs++bytesOf ss) w):=by
 obtain ⟨n,hn⟩ : ∃ n,ss.length=n:=⟨_,rfl⟩;rw [hn] at hlen hsz ⊢;have HN:=hDx hn;have HSZ:=hDx hsz;have HBase:=hDx hbase;have HO:=hDx hO;have HS:=hDx hS;have HBW:=hDx hbw;clear hn hsz hbase hO hS hbw;obtain ⟨i0,hi,hz0,hz1,hz2⟩ := info_parts info5
 go_enter Tryd.func31,Tryd.ntmps31
 go_wp2
 go_loopw [6,11] (fun _ i wr=>∃ k:Nat,k≤n∧i=.int .i64 k∧Hid (OutAt base B (bs++bytesOf (ss.take k)) wr∧Below base w wr∧Keeps B w wr)) (fun _ i _=>n - (intOf i).toNat)
 case atStart=>exact ⟨0,by omega,rfl,hDx ⟨by simpa [bytesOf] using HO.out,Below.refl _ _,Keeps.refl _ _⟩⟩
 case round =>
  obtain ⟨k,hk,rfl,hF⟩ := hrel;by_cases hlt:k<n
  · obtain ⟨⟨v,hv,hrow⟩,hB,hKp⟩ := hF.out;have hc:=HS.out wr hB hKp k (by rw [HN.out]; exact hlt);obtain ⟨s,hs⟩ : ∃ s,ss.getD k ByteArray.empty=s:=⟨_,rfl⟩;rw [hs] at hc;have hnext:=bytesOf_snoc ss k (by rw [HN.out]; exact hlt);rw [hs] at hnext;obtain ⟨cur,hcur⟩ : ∃ cur,bs++bytesOf (ss.take k)=cur:=⟨_,rfl⟩;have hlen2:((cur.length+s.size:Nat):Int)≤100000000:=by
     have h:=HSZ.out (k+1) (by omega);rw [hnext,← List.append_assoc,hcur,List.length_append] at h;exact h
    rw [hcur] at hrow;have HNext:Hid (bs++bytesOf (ss.take (k+1))=cur++s.data.toList):=hDx (by rw [hnext,← List.append_assoc,hcur]);obtain ⟨m,hm⟩ : ∃ m,cur.length=m:=⟨_,rfl⟩;obtain ⟨X,hX⟩ : ∃ X,cur.map c5=X:=⟨_,rfl⟩;rw [hm] at hlen2 hrow;rw [hX] at hrow;have HM:=hDx hm;have HX:=hDx hX;have hbws:=Nat.le_trans HBW.out hB.size;have hcB:=hv.cell;have hneB:some B≠v.ownBlock:=hv.not_row (by decide) hrow;have HB:=hDx hB;have HKp:=hDx hKp;have HV:=hDx hv;have HNe:=hDx hneB;clear hF hB hKp hs hnext hcur hm hX hv hneB
    go_wp2_with (at_builtin; refine Lib.wpList_append_own_string wr rfl _ _ 66 9 rfl base 5 i0 Tryd.underlying66 Tryd.underlying9 hi hz0 hz1 hz2 v m X rfl hrow s rfl ?c1 ?c2 hbws ?_)
    case c1=>unfold maxLen; omega
    case c2=>omega
    intro v' w1 hown' hgrow _;obtain ⟨a',c',rfl⟩ := slice_shape hown';have b1:Boxed w1 B 68 v:=HV.out.kept hgrow HNe.out;have hc1:=b1.cell;have hf1:=b1.frozen;have HB1:=hDx b1;have HR:=hDx hown';have HBl:Hid (Below base w w1):=hDx (HB.out.grown hgrow hbws (fun q hq=>(hrow.lt q hq).1));have HKe:Hid (Keeps B w w1):=hDx (HKp.out.grown hrow hgrow);clear hown' hgrow b1 hrow
    go_wp2
    go_roundw
    case rel =>
     refine ⟨k+1,by omega,by go_num,hDx ⟨?_,HBl.out.setCell (p:=⟨B,0,none⟩) HBase.out _,HKe.out.trans (Keeps.setCell _ _ _ _)⟩⟩;rw [HNext.out];refine ⟨_,HB1.out.set _,?_⟩;have h:=HR.out.kept (grownBy_setCell' w1 B (.slice a' (m+s.size) c')) (.inr (HB1.out.not_row (by decide) HR.out).symm);rw [← HX.out,← HM.out,strCells_c5,← List.map_append] at h;rw [← HM.out,List.length_append];exact h
    case measure=>simp [intOf]; omega
  · obtain rfl:k=n:=by omega
    obtain ⟨hOut,hB,hKp⟩ := hF.out;have hfull:ss.take k=ss:=by rw [← HN.out,List.take_length]
    rw [hfull] at hOut;have HOut:=hDx hOut;have HB:=hDx hB;have HKp:=hDx hKp;clear hOut hB hKp hF hfull
    go_wp2
    go_ret
    exact ⟨rfl,HOut.out,HB.out,HKp.out⟩
theorem num_any (base B bl off cap:Nat) (zs:List Int) (bs:List UInt8) (w:World) (hsz:(bs.length:Int)+10*zs.length≤1000000) (hbase:base≤B)
    (hO:OutAt base B bs w) (hI:∀ w',Below base w w'→Keeps B w w'→Ints w' bl off zs) (hbw:base≤w.heap.size) :
    Calls Tryd.prog 30 #[.pointer (some ⟨B,0,none⟩),.slice (some ⟨bl,off,none⟩) zs.length cap] w (Wrote base B (bs++numsOf zs) w) :=
 (callsIn_wide (n:=4)).1 (outnum_in 4 (Nat.le_refl _) base B bl off zs.length cap zs bs w rfl hsz hbase hO hI hbw)
theorem cell_alloc_new (w:World) (cs:Array Value) (t:TypeId) (j:Nat):(w.alloc (.cells cs t)).cell? ⟨w.heap.size,j,none⟩=cs[j]?:=World.cell?_alloc_new ..
theorem cell_keeps {B b o:Nat} {w w':World} {cs:Array Value} {t:TypeId} {fr:Nat × Nat} (hk:Keeps B w w') (hb:w.heap[b]?=some (.cells cs t fr)) (ht:t≠5) (hne:b≠B):w'.cell? ⟨b,o,none⟩=w.cell? ⟨b,o,none⟩ := by
 have h:=hk.block b _ hb hne (fun cur fr' e=>by cases e; exact ht rfl);exact World.cell?_of_block (a:=⟨b,o,none⟩) (h.trans hb.symm)
theorem block_new (w:World) (o:Obj):(w.alloc o).heap[w.heap.size]?=some o:=World.alloc_heap_new w o
theorem OutAt.lt {base B:Nat} {bs:List UInt8} {w:World} (h:OutAt base B bs w):B<w.heap.size:=by
 obtain ⟨v,h1,_⟩ := h;exact h1.lt
theorem OutAt.alloc {base B:Nat} {bs:List UInt8} {w:World} (h:OutAt base B bs w) (o:Obj):OutAt base B bs (w.alloc o):=by
 obtain ⟨v,h1,h2⟩ := h;exact ⟨v,h1.alloc _,h2.alloc _⟩
theorem num_one (base B:Nat) (z:Int) (bs:List UInt8) (w:World) (hsz:(bs.length:Int)≤999990) (hbase:base≤B) (hO:OutAt base B bs w) (hbw:base≤w.heap.size) :
    Calls Tryd.prog 30 #[.pointer (some ⟨B,0,none⟩),.slice (some ⟨w.heap.size,0,none⟩) 1 1] (w.alloc (.cells #[.int .i64 z] 3)) (Wrote base B (bs++digs (clipN z)) (w.alloc (.cells #[.int .i64 z] 3))):=by
 have h:=num_any base B w.heap.size 0 1 [z] bs (w.alloc (.cells #[.int .i64 z] 3)) (by simp; omega) hbase (hO.alloc _) (fun w' _ hk i hi=>by
  obtain rfl:i=0:=by simpa using hi
  rw [cell_keeps hk (block_new w _) (by decide) (by have:=hO.lt; omega),cell_alloc_new]; rfl) (by simp; omega)
 simpa [numsOf] using h
theorem raw_one (base B:Nat) (s:ByteArray) (bs:List UInt8) (w:World) (hsz:((bs.length+s.size:Nat):Int)≤100000000) (hbase:base≤B) (hO:OutAt base B bs w) (hbw:base≤w.heap.size) :
    Calls Tryd.prog 31 #[.pointer (some ⟨B,0,none⟩),.slice (some ⟨w.heap.size,0,none⟩) 1 1] (w.alloc (.cells #[.string s] 9)) (Wrote base B (bs++s.data.toList) (w.alloc (.cells #[.string s] 9))):=by
 have hsl:s.data.toList.length=s.size:=rfl;have h:=raw_any base B w.heap.size 0 1 [s] bs (w.alloc (.cells #[.string s] 9)) (by simp) (fun k hk=>by
  match k,hk with
  | 0,_=>simp [bytesOf]; omega
  | 1,_=>simp [bytesOf]; omega
  | k+2,hk=>simp at hk) hbase (hO.alloc _) (fun w' _ hk i hi=>by
  obtain rfl:i=0:=by simpa using hi
  rw [cell_keeps hk (block_new w _) (by decide) (by have:=hO.lt; omega),cell_alloc_new]; rfl) (by simp; omega)
 simpa [bytesOf] using h
theorem bytes_any (base B:Nat) (bs:List UInt8) (w:World) (hO:OutAt base B bs w) :
    Calls Tryd.prog 36 #[.pointer (some ⟨B,0,none⟩)] w fun e w'=>e=.returned (.string ⟨bs.toArray⟩)∧w=w':=by
 obtain ⟨v,hv,hr⟩ := hO;have hcB:=hv.cell;have hcells:=@World.ownsRow.cells _ _ _ _ _ _ _ hr;rcases hr.2 with ⟨rfl,h0⟩ | ⟨g,cap,cur,rfl,_⟩
 · have hconv:=Lib.run_convert_nil_bytes (P:=Tryd.prog) w 66 9 5 0 Tryd.underlying66 Tryd.underlying5 Tryd.underlying9;have hb0:bs=[]:=List.length_eq_zero_iff.1 h0;subst hb0;clear hr hcells hv h0
   go_enter Tryd.func36,Tryd.ntmps36
   go_wp2
   go_ret
   exact ⟨rfl,rfl⟩
 · have hconv:=run_convert_bytes_back (P:=Tryd.prog) w 66 9 5 ⟨g,0,none⟩ cap bs Tryd.underlying66 Tryd.underlying5 Tryd.underlying9 (fun j hj=>hcells (g:=g) rfl j _ (by simp [c5,hj]));obtain ⟨u,hu⟩ : ∃ u:ByteArray,(⟨bs.toArray⟩ : ByteArray)=u:=⟨_,rfl⟩;rw [hu] at hconv ⊢;obtain ⟨m,hm⟩ : ∃ m,bs.length=m:=⟨_,rfl⟩;rw [hm] at hconv hcB;clear hr hcells hv hu hm
   go_enter Tryd.func36,Tryd.ntmps36
   go_wp2
   go_ret
   exact ⟨rfl,rfl⟩
def textB (s:ByteArray):List UInt8:=digs (clipN s.size)++s.data.toList
def textsOf (ss:List ByteArray):List UInt8:=ss.flatMap textB
theorem textsOf_snoc (ss:List ByteArray) (k:Nat) (h:k<ss.length):textsOf (ss.take (k+1))=textsOf (ss.take k)++textB (ss.getD k ByteArray.empty):=by
 unfold textsOf;rw [List.take_succ_eq_append_getElem h,List.flatMap_append];simp [h]
set_option maxRecDepth 100000 in
set_option maxHeartbeats 1000000 in
theorem text_any (base B bl off cap:Nat) (ss:List ByteArray) (bs:List UInt8) (w:World) (hlen:(ss.length:Int)≤10000) (hsz:∀ k,k≤ss.length→((bs++textsOf (ss.take k)).length:Int)≤900000) (hbase:base≤B)
    (hO:OutAt base B bs w) (hS:∀ w',Below base w w'→Keeps B w w'→Strs w' bl off ss) (hbw:base≤w.heap.size) :
    Calls Tryd.prog 34 #[.pointer (some ⟨B,0,none⟩),.slice (some ⟨bl,off,none⟩) ss.length cap] w (Wrote base B (bs++textsOf ss) w):=by
 obtain ⟨n,hn⟩ : ∃ n,ss.length=n:=⟨_,rfl⟩;rw [hn] at hlen hsz ⊢;have HN:=hDx hn;have HSZ:=hDx hsz;have HBase:=hDx hbase;have HO:=hDx hO;have HS:=hDx hS;have HBW:=hDx hbw;clear hn hsz hbase hO hS hbw
 go_enter Tryd.func34,Tryd.ntmps34
 go_wp2
 go_loopw [6,9] (fun _ i wr=>∃ k:Nat,k≤n∧i=.int .i64 k∧Hid (OutAt base B (bs++textsOf (ss.take k)) wr∧Below base w wr∧Keeps B w wr)) (fun _ i _=>n - (intOf i).toNat)
 case atStart=>exact ⟨0,by omega,rfl,hDx ⟨by simpa [textsOf] using HO.out,Below.refl _ _,Keeps.refl _ _⟩⟩
 case round =>
  obtain ⟨k,hk,rfl,hF⟩ := hrel;by_cases hlt:k<n
  · obtain ⟨hOut,hB,hKp⟩ := hF.out;have hc:=HS.out wr hB hKp k (by rw [HN.out]; exact hlt);obtain ⟨s,hs⟩ : ∃ s,ss.getD k ByteArray.empty=s:=⟨_,rfl⟩;rw [hs] at hc;have hnext:=textsOf_snoc ss k (by rw [HN.out]; exact hlt);rw [hs] at hnext;obtain ⟨cur,hcur⟩ : ∃ cur,bs++textsOf (ss.take k)=cur:=⟨_,rfl⟩;rw [hcur] at hOut;have hlen2:=HSZ.out (k+1) (by omega);rw [hnext,← List.append_assoc,hcur] at hlen2;unfold textB at hlen2;simp only [List.length_append] at hlen2;have hsl:s.data.toList.length=s.size:=rfl;have hbws:=Nat.le_trans HBW.out hB.size;have HNext:Hid (bs++textsOf (ss.take (k+1))=cur++textB s):=hDx (by rw [hnext,← List.append_assoc,hcur]);have HC1:=hDx (num_one base B s.size cur wr (by omega) HBase.out hOut hbws);have HLen:=hDx hlen2;have HBl:=hDx hB;have HKe:=hDx hKp;have HOut:=hDx hOut;have HBws:=hDx hbws;have hszs:(s.size:Int)≤900000:=by omega
    clear hF hB hKp hs hnext hcur hOut hlen2 hsl hbws
    go_wp2_with fail
    refine HC1.out.mono ?_;rintro e w1 ⟨rfl,hO1,hB1,hK1⟩;have hbw1:base≤w1.heap.size:=Nat.le_trans (by have:=HBws.out; simp; omega) hB1.size;have HC2:=hDx (raw_one base B s (cur++digs (clipN s.size)) w1 (by have h:=HLen.out; have hsl:s.data.toList.length=s.size:=rfl; simp; omega) HBase.out hO1 hbw1);have HB1:Hid (Below base w w1):=hDx ((HBl.out.alloc HBws.out _).trans hB1);have HK1:Hid (Keeps B w w1):=hDx ((HKe.out.trans (Keeps.alloc _ _ _)).trans hK1);have HW1:=hDx hbw1;clear hO1 hB1 hK1 hbw1
    go_wp2_with fail
    refine HC2.out.mono ?_;rintro e w2 ⟨rfl,hO2,hB2,hK2⟩;have HF2:Hid (OutAt base B (bs++textsOf (ss.take (k+1))) w2∧Below base w w2∧Keeps B w w2):=hDx ⟨by rw [HNext.out]; unfold textB; rw [← List.append_assoc]; exact hO2,(HB1.out.alloc HW1.out _).trans hB2,(HK1.out.trans (Keeps.alloc _ _ _)).trans hK2⟩;clear hO2 hB2 hK2
    go_wp2
    go_roundw
    case rel=>exact ⟨k+1,by omega,by go_num,HF2⟩
    case measure=>simp [intOf]; omega
  · obtain rfl:k=n:=by omega
    obtain ⟨hOut,hB,hKp⟩ := hF.out;have hfull:ss.take k=ss:=by rw [← HN.out,List.take_length]
    rw [hfull] at hOut;have HOut:=hDx hOut;have HB:=hDx hB;have HKp:=hDx hKp;clear hOut hB hKp hF hfull
    go_wp2
    go_ret
    exact ⟨rfl,HOut.out,HB.out,HKp.out⟩
end Go.Proofs.YtagolklnjhpbdaaDoor.I

namespace Go.Proofs.YtagolklnjhpbdaaDoor.I
open Go.RowKit
theorem InSt.keeps {B p:Nat} {l:List UInt8} {e:Nat} {w w':World} (h:InSt p l e w) (hk:Keeps B w w') (hne:p≠B):InSt p l e w':=by
 obtain ⟨s,hb,hl,hs⟩ := h;exact ⟨s,hk.block p _ hb hne (fun cur fr ee=>by cases ee),hl,hs⟩
theorem InSt.alloc {p:Nat} {l:List UInt8} {e:Nat} {w:World} (h:InSt p l e w) (o:Obj):InSt p l e (w.alloc o):=by
 obtain ⟨s,hb,hl,hs⟩ := h;exact ⟨s,(Below.heap_alloc w o p (gSx.1 hb).1).trans hb,hl,hs⟩
theorem out_new (base:Nat) (w:World):OutAt base w.heap.size [] (w.alloc (.cells #[.slice none 0 0] 68)):=⟨_,Boxed.new _ _ _,World.ownsRow_nil _ _ _ _⟩
set_option maxHeartbeats 400000 in
theorem cut_any (s:ByteArray) (n:Nat) (_:(s.size:Int)≤9223372036854775807) (hn:(n:Int)≤1000) (w:World) :
    Calls Tryd.prog 19 #[.string s,.int .i64 n] w fun e w'=>(∃ t:ByteArray,e=.returned (.string t)∧(t.size:Int)≤n∧t.data.toList=s.data.toList.take n)∧w=w':=by
 go_enter Tryd.func19,Tryd.ntmps19
 go_wp2
 · have h:n<s.size:=by assumption
   go_ret
   refine ⟨⟨_,rfl,?_,?_⟩,rfl⟩
   · simp; omega
   · simp
 · have h:¬ n<s.size:=by assumption
   go_ret
   refine ⟨⟨_,rfl,?_,?_⟩,rfl⟩
   · omega
   · rw [List.take_of_length_le (by show s.size≤n; omega)]
end Go.Proofs.YtagolklnjhpbdaaDoor.I

namespace Go.Proofs.YtagolklnjhpbdaaDoor.I
open Go.RowKit
def rawS (l:List UInt8) (e:Nat) (n:Nat):(List UInt8 × Nat) × List UInt8:=if l.length<n then (failS l e 2,[]) else ((l.drop n,e),l.take n)
def TookS (p:Nat) (b:List UInt8) (st:List UInt8 × Nat) (w:World) (e:Ending) (w':World):Prop:=∃ t:ByteArray,e=.returned (.string t)∧t.data.toList=b∧InSt p st.1 st.2 w'∧w.grownBy w' (some p)
set_option maxHeartbeats 400000 in
theorem inraw_any (p:Nat) (l:List UInt8) (e:Nat) (n:Int) (w:World) (h:InSt p l e w):Calls Tryd.prog 90 #[.pointer (some ⟨p,0,none⟩),.int .i64 n] w (TookS p (rawS l e n.toNat).2 (rawS l e n.toNat).1 w):=by
 have hst:=h;obtain ⟨s,hb,hl,hs⟩ := h;have c0:=hb.c0;have f0:=hb.fr 0;have hlen:=inst_len hl;have HB:=hDx hb;have HL:=hDx hl;have H2:=hDx (fail_any p l e 2 w hst);clear hb hl hst;rcases Int.lt_or_le n 0 with hn | hn
 · have hr:rawS l e n.toNat=((l,e),[]):=by rw [show n.toNat=0 from by omega]; simp [rawS]
   rw [hr];clear hr hlen
   go_enter Tryd.func90,Tryd.ntmps90
   go_wp2
   go_ret
   refine ⟨_,rfl,by simp,⟨_,HB.out.set0 _,?_,?_⟩,grown_set _ _ _ _⟩
   · first | exact HL.out | (rw [← HL.out]; simp)
   · first | exact hs | (simp; omega)
 · obtain ⟨m,rfl⟩ := Int.eq_ofNat_of_zero_le hn;rw [Int.toNat_natCast];by_cases hlt:s.size<m
   · have hr:rawS l e m=(failS l e 2,[]):=by unfold rawS; rw [if_pos (by omega)]
     rw [hr];clear hr hlen
     go_enter Tryd.func90,Tryd.ntmps90
     go_wp2_with (go_at_call 89; refine H2.out.mono ?_; rintro en w2 ⟨rfl,hi2,hg2⟩; have HI2:=hDx hi2; have HG2:=hDx hg2; clear hi2 hg2)
     go_ret
     exact ⟨_,rfl,rfl,HI2.out,HG2.out⟩
   · have hr:rawS l e m=((l.drop m,e),l.take m):=by unfold rawS; rw [if_neg (by omega)]
     rw [hr];have hle:(m:Int)≤s.size:=by omega
     clear hr hlen hlt
     go_enter Tryd.func90,Tryd.ntmps90
     go_wp2
     go_ret
     refine ⟨_,rfl,by rw [← HL.out]; simp,⟨_,HB.out.set0 _,?_,?_⟩,grown_set _ _ _ _⟩
     · rw [← HL.out,ByteArray.data_extract];simp;rw [List.take_of_length_le (by rw [List.length_drop]; exact Nat.le_refl _)]
     · simp; omega
def textS (l:List UInt8) (e:Nat):(List UInt8 × Nat) × List UInt8:=rawS (numS l e).1.1 (numS l e).1.2 (numS l e).2
theorem intext_any (p:Nat) (l:List UInt8) (e:Nat) (w:World) (h:InSt p l e w):Calls Tryd.prog 72 #[.pointer (some ⟨p,0,none⟩)] w (TookS p (textS l e).2 (textS l e).1 w):=by
 have H1:=hDx (innum_any p l e w h);clear h
 go_enter Tryd.func72,Tryd.ntmps72
 go_wp2_with fail
 refine H1.out.mono ?_;rintro en w1 ⟨rfl,hi1,hg1⟩;have H2:=hDx (inraw_any p _ _ (((numS l e).2:Nat):Int) w1 hi1);rw [Int.toNat_natCast] at H2;have HG:=hDx hg1;clear hi1 hg1
 go_wp2_with fail
 refine H2.out.mono ?_;rintro en w2 ⟨t,rfl,ht,hi2,hg2⟩;have HT:=hDx ht;have HI:=hDx hi2;have HG2:=hDx hg2;clear ht hi2 hg2
 go_wp2
 go_ret
 exact ⟨_,rfl,HT.out,HI.out,grown_trans HG.out HG2.out⟩
theorem textS_back (s:ByteArray) (r:List UInt8) (hs:(s.size:Int)≤1000000):textS (textB s++r) 0=((r,0),s.data.toList):=by
 have hc:clipN (s.size:Int)=s.size:=by unfold clipN top; simp; omega
 have hn:numS (textB s++r) 0=((s.data.toList++r,0),s.size):=by
  unfold textB numS;rw [hc,List.append_assoc,first_digs s.size _ (by unfold top; omega)];simp
 unfold textS;rw [hn];unfold rawS;have hsl:s.data.toList.length=s.size:=rfl;rw [if_neg (by simp),List.drop_left' hsl,List.take_left' hsl]
theorem textB_len (s:ByteArray):(textB s).length≤9+s.size:=by
 have h:=digs_nine (clipN s.size) (clipN_le _);have hsl:s.data.toList.length=s.size:=rfl;unfold textB;rw [List.length_append];omega
theorem InSt.grown {p:Nat} {l:List UInt8} {e:Nat} {w w':World} {row:Option Nat} (h:InSt p l e w) (hg:w.grownBy w' row) (hne:some p≠row):InSt p l e w':=by
 obtain ⟨s,hb,hl,hs⟩ := h;exact ⟨s,(hg.block p hb.lt hne).trans hb,hl,hs⟩
end Go.Proofs.YtagolklnjhpbdaaDoor.I

namespace Go.Proofs.YtagolklnjhpbdaaDoor.K
open Go.RowKit Go.Proofs.YtagolklnjhpbdaaDoor.I
structure Sn where
 k:Int
 w:Int
 h:Int
 x:Int
 y:Int
 t:ByteArray
 R:List Ro
 n:Int
 c:Int
 B:List (Int × Int)
deriving DecidableEq
def emptyN:Sn:=⟨0,0,0,0,0,⟨#[]⟩,[],0,0,[]⟩
def Stands (s:Sn):Prop:=(1≤s.w∧s.w≤1000)∧(1≤s.h∧s.h≤1000)∧(0≤s.x∧s.x≤s.w - 1)∧0≤s.y∧s.y≤s.h - 1
def Counts (s:Sn):Prop:=(1≤s.k∧s.k≤1152921504606846976)∧(0≤s.n∧s.n≤1152921504606846976)∧(0≤s.c∧s.c≤281474976710656)∧s.t.size≤200
def Shows (s:Sn):Prop:=(s.R.length:Int)=s.h∧∀ r ∈ s.R,(r.l.length:Int)=s.w∧∀ c ∈ r.l,okC c
def Begins (s:Sn):Prop:=(∀ g ∈ s.B,(0≤g.1∧g.1≤1114111)∧0≤g.2∧g.2≤647)∧s.B.length≤1024
instance (s:Sn):Decidable (Stands s):=by unfold Stands; exact inferInstance
instance (s:Sn):Decidable (Counts s):=by unfold Counts; exact inferInstance
instance (s:Sn):Decidable (Shows s):=by unfold Shows; exact inferInstance
instance (s:Sn):Decidable (Begins s):=by unfold Begins; exact inferInstance
def MayN (s:Sn):Prop:=s=emptyN∨(Stands s∧Counts s∧Shows s∧Begins s)
instance (s:Sn):Decidable (MayN s):=by unfold MayN; exact inferInstance
theorem Begins.may {s:Sn} (h:Begins s):MayL s.B:=h.1
def numB (z:Int):List UInt8:=digs (clipN z)
def headB (s:Sn):List UInt8:=numB s.k++(numB s.w++(numB s.h++(numB s.x++(numB s.y++(textB s.t++(numB s.n++(numB s.c++packG s.B)))))))
def rawN (s:Sn):List UInt8:=headB s++s.R.flatMap packR
def packN (s:Sn):List UInt8:=if s≠emptyN∧MayN s then rawN s else []
theorem packN_rows (l:List Ro) (k:Nat) (h:k<l.length):(l.take (k+1)).flatMap packR=(l.take k).flatMap packR++packR l[k]:=by
 rw [List.take_succ_eq_append_getElem h,List.flatMap_append];simp
theorem numB_len (z:Int):(numB z).length≤9:=digs_nine _ (clipN_le _)
theorem numB_pos (z:Int):0<(numB z).length:=digs_pos _
theorem headB_len {s:Sn} (h1:s.t.size≤200) (h2:s.B.length≤1024):(headB s).length≤20000:=by
 have a1:=numB_len s.k;have a2:=numB_len s.w;have a3:=numB_len s.h;have a4:=numB_len s.x;have a5:=numB_len s.y;have a6:=numB_len s.n;have a7:=numB_len s.c;have a8:=packG_len s.B;have a9:=textB_len s.t;unfold headB;simp only [List.length_append];omega
theorem rows_len:∀ (l:List Ro) (w:Nat),(∀ r ∈ l,r.l.length≤w)→(l.flatMap packR).length≤(9+36*w)*l.length
  | [],_,_=>by simp
  | r::l,w,h=>by
   have h1:=rows_len l w (fun q hq=>h q (List.mem_cons_of_mem _ hq));have h2:=packR_len r;have h3:=h r List.mem_cons_self;rw [List.flatMap_cons,List.length_append,List.length_cons,Nat.mul_add,Nat.mul_one];omega
theorem rawN_pos (s:Sn):rawN s≠[]:=by
 have:=numB_pos s.k;intro e;have h:(rawN s).length=0:=by rw [e]; rfl
 unfold rawN headB at h;simp only [List.length_append] at h;omega
theorem packN_nil (s:Sn):packN s=[]↔(s=emptyN∨¬ MayN s):=by
 unfold packN;by_cases h:s≠emptyN∧MayN s
 · rw [if_pos h];exact ⟨fun e=>absurd e (rawN_pos s),fun e=>by rcases e with e | e; exact absurd e h.1; exact absurd h.2 e⟩
 · rw [if_neg h];refine ⟨fun _=>?_,fun _=>rfl⟩;by_cases h1:s=emptyN
   · exact .inl h1
   · exact .inr (fun h2=>h ⟨h1,h2⟩)
def pK (st:Sta):Sta × Nat:=numS st.1 st.2
def pW (st:Sta):Sta × Nat:=atS (pK st).1 1000
def pH (st:Sta):Sta × Nat:=atS (pW st).1 1000
def pX (st:Sta):Sta × Nat:=numS (pH st).1.1 (pH st).1.2
def pY (st:Sta):Sta × Nat:=numS (pX st).1.1 (pX st).1.2
def pT (st:Sta):Sta × List UInt8:=textS (pY st).1.1 (pY st).1.2
def pN (st:Sta):Sta × Nat:=numS (pT st).1.1 (pT st).1.2
def pC (st:Sta):Sta × Nat:=numS (pN st).1.1 (pN st).1.2
def pB (st:Sta):Sta × List (Int × Int):=readS (pC st).1
theorem pK_def (st:Sta):pK st=numS st.1 st.2:=by rw [pK]
theorem pW_def (st:Sta):pW st=atS (pK st).1 1000:=by rw [pW]
theorem pH_def (st:Sta):pH st=atS (pW st).1 1000:=by rw [pH]
theorem pX_def (st:Sta):pX st=numS (pH st).1.1 (pH st).1.2:=by rw [pX]
theorem pY_def (st:Sta):pY st=numS (pX st).1.1 (pX st).1.2:=by rw [pY]
theorem pT_def (st:Sta):pT st=textS (pY st).1.1 (pY st).1.2:=by rw [pT]
theorem pN_def (st:Sta):pN st=numS (pT st).1.1 (pT st).1.2:=by rw [pN]
theorem pC_def (st:Sta):pC st=numS (pN st).1.1 (pN st).1.2:=by rw [pC]
theorem pB_def (st:Sta):pB st=readS (pC st).1:=by rw [pB]
theorem numS_ok {st:Sta} (h:InOk st):InOk (numS st.1 st.2).1:=numS_inv h
theorem textS_ok {st:Sta} (h:InOk st):InOk (textS st.1 st.2).1:=by
 have h1:=numS_ok h;unfold textS rawS
 split
 · exact failS_ok h1
 · intro he;have:=h1 he;show (List.drop _ _)=[];rw [this];simp
theorem readS_ok {st:Sta} (h:InOk st):InOk (readS st).1:=rdN_ok _ (atS_ok h _)
theorem pC_ok {st:Sta} (h:InOk st):InOk (pC st).1:=by
 have h1:InOk (pK st).1:=by rw [pK_def]; exact numS_ok h
 have h2:InOk (pW st).1:=by rw [pW_def]; exact atS_ok h1 _
 have h3:InOk (pH st).1:=by rw [pH_def]; exact atS_ok h2 _
 have h4:InOk (pX st).1:=by rw [pX_def]; exact numS_ok h3
 have h5:InOk (pY st).1:=by rw [pY_def]; exact numS_ok h4
 have h6:InOk (pT st).1:=by rw [pT_def]; exact textS_ok h5
 have h7:InOk (pN st).1:=by rw [pN_def]; exact numS_ok h6
 rw [pC_def];exact numS_ok h7
theorem pB_ok {st:Sta} (h:InOk st):InOk (pB st).1:=by rw [pB_def]; exact readS_ok (pC_ok h)
theorem bytes_list (t:ByteArray):(⟨t.data.toList.toArray⟩ : ByteArray)=t:=by cases t; simp
theorem numS_nat {z:Int} (h0:0≤z) (h1:z≤1152921504606846976) (r:List UInt8):numS (numB z++r) 0=((r,0),z.toNat):=by
 have:=numS_back z r
 have h2:clipN z=z.toNat:=by unfold clipN; have:(1152921504606846976:Nat)≤top:=by decide
                             omega
 rw [h2] at this;unfold numB;rw [h2];exact this
theorem atS_nat {z:Int} (h0:0≤z) (h1:z≤1000) (r:List UInt8):atS (numB z++r,0) 1000=((r,0),z.toNat):=by
 unfold numB
 have h2:clipN z=z.toNat:=by unfold clipN; have:(1000:Nat)≤top:=by decide
                             omega
 rw [h2];exact atS_back (by omega) (by decide) r
theorem endS_zero {l:List UInt8} {e:Nat} (h:endS l e=0):e=0∧l=[]:=by
 unfold endS at h
 split at h
 · cases h
 · rename_i h1;subst h;exact ⟨rfl,Decidable.not_not.1 (fun h2=>h1 ⟨rfl,h2⟩)⟩
end Go.Proofs.YtagolklnjhpbdaaDoor.K

namespace Go.Proofs.YtagolklnjhpbdaaDoor.U
open Go.RowKit
structure Grew (base:Nat) (e:TypeId) (size:Nat) (v:Value) (n:Nat) (out:List Value) (w:World) (v':Value) (w':World):Prop where
 own:w'.ownsRow base e size v' n out
 grown:w.grownBy w' v.ownBlock
 keeps:∀ x k ys,ys <+: out→w.ownsRow base e size x k ys→w'.ownsRow base e size x k ys
 block:∀ q,v'.ownBlock=some q→v.ownBlock=some q∨w.heap.size≤q
theorem weaken {base base':Nat} {e:TypeId} {size:Nat} {v:Value} {n:Nat} {xs:List Value} {w:World} (h:w.ownsRow base e size v n xs) (hb:base'≤base):w.ownsRow base' e size v n xs:=by
 refine ⟨h.1,h.2.imp id ?_⟩;rintro ⟨g,cap,cur,h1,h2,h3⟩;exact ⟨g,cap,cur,h1,Nat.le_trans hb h2,h3⟩
theorem belowAll {base:Nat} {e:TypeId} {size:Nat} {v:Value} {n:Nat} {xs:List Value} {w w':World} (h:w.ownsRow base e size v n xs) (hb:Below w.heap.size w w'):w'.ownsRow base e size v n xs :=
 World.ownsRow.kept h (row:=none) ⟨hb.os,hb.tape,hb.output,hb.size,fun k hk _=>hb.block k hk⟩ (by
  cases hv:v.ownBlock with
  | none=>exact .inl rfl
  | some k=>exact .inr (by simp))
theorem own_type {base size:Nat} {e:TypeId} {v:Value} {n:Nat} {xs:List Value} {w:World} (h:w.ownsRow base e size v n xs) {g:Nat} (hg:v.ownBlock=some g):∃ cs,w.heap[g]?=some (.cells cs e (0,0))∧base≤g∧g<w.heap.size:=by
 rcases h.2 with ⟨rfl,_⟩ | ⟨g',cap,cur,rfl,hb,hgb,_⟩
 · simp [Value.ownBlock] at hg
 · obtain rfl:g'=g:=by simpa [Value.ownBlock] using hg
   exact ⟨cur,hgb,hb,(gSx.1 hgb).1⟩
theorem kept_apart {base size:Nat} {e:TypeId} {v:Value} {n:Nat} {xs:List Value} {w w':World} {row:Option Nat} (h:w.ownsRow base e size v n xs) (hg:w.grownBy w' row) (hne:∀ q,v.ownBlock=some q→row≠some q):w'.ownsRow base e size v n xs :=
 World.ownsRow.kept h hg (by
  cases hv:v.ownBlock with
  | none=>exact .inl rfl
  | some q=>exact .inr (fun e=>hne q hv e.symm))
theorem append_grew {P:Program} (w:World) (t ty e:TypeId) (i:TypeInfo) (z:Value) (size bytes:Nat) (ht:P.underlying t=some (.slice e)) (hi:P.info? e=some i) (hz:i.zero=some z)
    (hsize:i.size=size) (hby:i.bytes=bytes) (hzs:z.cells.size=size) (hsz:0<size)
    (base:Nat) (v:Value) (n:Nat) (xs:List Value) (hown:w.ownsRow base e size v n xs)
    (ad:Addr) (m c:Nat) (news:List Value) (hl:news.length=m*size) (hnews:∀ j u,news[j]?=some u→w.cell? (ad.add j)=some u) (h1:∀ u ∈ news,u.oneCell'=true)
    (h63:n+m≤maxLen) (hbytes:(n+m)*bytes≤140737488355328) (hbase:base≤w.heap.size) :
    ∃ v' w',(Builtin.append_ #[t,t] ty #[v,.slice (some ad) m c]).run P w=.ok v' w'∧Grew base e size v (n+m) (xs++news) w v' w':=by
 have fresh:∀ v' w',w'.ownsRow w.heap.size e size v' (n+m) (xs++news)→w.grownBy w' none→Grew base e size v (n+m) (xs++news) w v' w':=fun v' w' h2 h3=>by
  have hb:Below w.heap.size w w':=⟨h3.os,h3.tape,h3.output,h3.size,fun k hk=>h3.block k hk (by simp)⟩;exact ⟨weaken h2 hbase,⟨h3.os,h3.tape,h3.output,h3.size,fun k hk _=>h3.block k hk (by simp)⟩,fun x k ys _ h=>belowAll h hb,fun q hq=>.inr (own_type h2 hq).choose_spec.2.1⟩
 rcases hown.2 with ⟨rfl,h0⟩ | ⟨g,cap,cur,rfl,hbg,hg,hnc,hcm,hcs,htake⟩
 · obtain ⟨v',w',hr,h2,h3,_⟩ := run_append_own (P:=P) w w.heap.size t ty e i z size bytes ht hi hz hsize hby hzs hsz (.slice none 0 0) n xs ⟨hown.1,.inl ⟨rfl,h0⟩⟩ ad m c news hl hnews h1 h63 hbytes (Nat.le_refl _);exact ⟨v',w',hr,fresh v' w' h2 h3⟩
 · by_cases hroom:n+m≤cap
   · have hfit:n*size+news.length≤cur.size:=by rw [hl,hcs,← Nat.add_mul]; exact Nat.mul_le_mul_right _ hroom
     have hr:=run_append_room (P:=P) w t ty e i ht hi g n cap cur hg ad m c news (by rw [hl,hsize]) hnews h1 hroom (by rw [hsize]; exact hfit);rw [hsize] at hr;obtain ⟨C2,hC2⟩ : ∃ C2,(cur.toList.take (n*size)++news++cur.toList.drop (n*size+news.length))=C2:=⟨_,rfl⟩;rw [hC2] at hr;have hrow:=setRow_heap w g cur C2.toArray e (0,0) hg;have hlen2:C2.length=cur.size:=by
      rw [← hC2];simp only [List.length_append,List.length_take,List.length_drop,Array.length_toList];omega
     have hxl:xs.length=n*size:=hown.1;have hpre:C2.take ((n+m)*size)=xs++news:=by
      rw [← hC2,htake];exact List.take_left' (by rw [List.length_append,hxl,hl,Nat.add_mul])
     refine ⟨_,_,hr,⟨⟨by rw [List.length_append,hxl,hl,Nat.add_mul],.inr ⟨g,cap,C2.toArray,rfl,hbg,hrow,hroom,hcm,by simp [hlen2,hcs],hpre⟩⟩,⟨rfl,rfl,rfl,by simp,fun k _ hk=>setRow_other w g k _ (fun e=>hk (by simp [Value.ownBlock,e]))⟩,fun x k ys hp hx2=>?_,fun q hq=>.inl hq⟩⟩;rcases hx2.2 with ⟨rfl,h0⟩ | ⟨g2,cap2,cur2,rfl,hbg2,hg2,hnc2,hcm2,hcs2,htake2⟩
     · exact ⟨hx2.1,.inl ⟨rfl,h0⟩⟩
     · by_cases hgg:g2=g
       · subst hgg;rw [hg] at hg2;obtain ⟨e1⟩ : cur=cur2:=by
          have:=Option.some.inj hg2;injection this
         refine ⟨hx2.1,.inr ⟨g2,cap2,C2.toArray,rfl,hbg2,hrow,hnc2,hcm2,by rw [← hcs2]; simp [hlen2],?_⟩⟩;obtain ⟨r,hr2⟩ := hp;have hle:ys.length≤(n+m)*size:=by
          have:=congrArg List.length hr2;rw [List.length_append,List.length_append,hxl,hl,← Nat.add_mul] at this;omega
         have h3:C2.take ys.length=(xs++news).take ys.length:=by rw [← hpre,List.take_take,Nat.min_eq_left hle]
         rw [← hx2.1,show C2.toArray.toList=C2 from rfl,h3,← hr2,List.take_left' rfl]
       · exact ⟨hx2.1,.inr ⟨g2,cap2,cur2,rfl,hbg2,(setRow_other w g g2 _ hgg).trans hg2,hnc2,hcm2,hcs2,htake2⟩⟩
   · obtain ⟨v',w',hr,h2,h3⟩ := run_append_arg_grows (P:=P) w t ty e i z size bytes ht hi hz hsize hby hzs hsz ⟨g,0,none⟩ n cap xs hown.1 (hown.cells (g:=g) rfl) ad m c news hl hnews (by omega) h63 hbytes;exact ⟨v',w',hr,fresh v' w' h2 h3⟩
theorem append_none {P:Program} (w:World) (t ty e:TypeId) (i:TypeInfo) (size c:Nat) (ht:P.underlying t=some (.slice e)) (hi:P.info? e=some i) (base:Nat) (v:Value) (n:Nat) (xs:List Value) (hown:w.ownsRow base e size v n xs) (hc:c=0) :
    (Builtin.append_ #[t,t] ty #[v,.slice none 0 c]).run P w=.ok v w∧Grew base e size v n xs w v w:=by
 subst hc;exact ⟨run_append_owned_none w base _ _ _ i size ht hi v n xs hown,hown,⟨rfl,rfl,rfl,Nat.le_refl _,fun _ _ _=>rfl⟩,fun _ _ _ _ h=>h,fun q h=>.inl h⟩
end Go.Proofs.YtagolklnjhpbdaaDoor.U
