import Derived.Test.YtagolklnjhpbdaaDoorMerged0
import Derived.Test.YtagolklnjhpbdaaDoorRows
import Derived.WalkKit
import Derived.WalkLawsBesides
import Derived.WalkSpells
import Derived.Outline
import Derived.Lib.Hide
import Derived.Below
import Derived.Deep.RegionWith
import Derived.Laws.IdiomStrings
import Derived.Test.YtagolklnjhpbdaaDoorMerged15
import Derived.Test.YtagolklnjhpbdaaDoorMerged18
namespace Go.Proofs.YtagolklnjhpbdaaDoor.S
open Go.RowKit
def Tab (w:World):Prop:=∀ j,j<16→w.cell? ⟨0,j,none⟩=some (.int .u32 (tbl j:Int))
def Strs (w:World) (b off:Nat) (ss:List ByteArray):Prop:=∀ i,i<ss.length→w.cell? ⟨b,off+i,none⟩=some (.string (ss.getD i ByteArray.empty))
def bytesOf (ss:List ByteArray):List UInt8:=ss.flatMap fun s=>s.data.toList
theorem bytesOf_snoc (ss:List ByteArray) (k:Nat) (h:k<ss.length):bytesOf (ss.take (k+1))=bytesOf (ss.take k)++(ss.getD k ByteArray.empty).data.toList:=by
 unfold bytesOf;rw [List.take_succ_eq_append_getElem h,List.flatMap_append];simp [h]
theorem tbl_lt:∀ j,j<16→tbl j<4294967296:=by decide
theorem byte_xor (C:Nat) (b:UInt8) (h:C<4294967296):∃ X:Nat,bits .xor .u32 (C:Int) ((b.toNat:Int) % 4294967296)=(X:Int)∧X<4294967296∧X=C ^^^ b.toNat:=by
 have hb:=b.toNat_lt;refine ⟨C ^^^ b.toNat,?_,Nat.xor_lt_two_pow (n:=32) h (by omega),rfl⟩;rw [show ((b.toNat:Int) % 4294967296)=(b.toNat:Int) from by omega];exact u32_xor_nat C b.toNat h (by omega)
theorem half_step (X:Nat) (h:X<4294967296):∃ j T Y:Nat,bits .and .u32 (X:Int) 15=(j:Int)∧j<16∧T=tbl j∧bits .xor .u32 ((X:Int) / 16) (T:Int)=(Y:Int)∧Y<4294967296∧Y=hstep X:=by
 have ht:=tbl_lt (X % 16) (by omega);refine ⟨X % 16,tbl (X % 16),hstep X,?_,by omega,rfl,?_,hstep_lt h,rfl⟩
 · rw [show (15:Int)=((15:Nat):Int) from rfl,u32_and_nat X 15 h (by decide)]
   congr 1
   exact Nat.and_two_pow_sub_one_eq_mod X 4
 · rw [show ((X:Int) / 16)=((X / 16:Nat):Int) from by omega];exact u32_xor_nat (X / 16) _ (by omega) ht
theorem str_snoc (s:ByteArray) (k:Nat) (h:k<s.size):s.data.toList.take (k+1)=s.data.toList.take k++[s[k]]:=by
 rw [List.take_succ_eq_append_getElem (by simpa using h)]; rfl
theorem take_all (s:ByteArray):s.data.toList.take s.size=s.data.toList:=List.take_of_length_le (Nat.le_refl _)
theorem not_u32 (C:Nat) (h:C<4294967296):bits .xor .u32 IntKind.u32.max (C:Int)=((C ^^^ 4294967295:Nat):Int):=by
 rw [show IntKind.u32.max=((4294967295:Nat):Int) from rfl,u32_xor_nat _ C (by decide) h,Nat.xor_comm]
set_option maxHeartbeats 1000000 in
theorem of_some (ss:List ByteArray) (b off cap:Nat) (w:World) (hlen:(ss.length:Int)≤9223372036854775807) (hsz:∀ i,((ss.getD i ByteArray.empty).size:Int)≤9223372036854775807)
    (hcell:Strs w b off ss) (hT:Tab w) :
    Calls Tryd.prog 68 #[.slice (some ⟨b,off,none⟩) ss.length cap] w fun e w'=>e=.returned (.int .u32 (sumOf (bytesOf ss):Nat))∧w=w':=by
 have HC:=hDx hcell;have HT:=hDx hT;have HZ:=hDx hsz;clear hcell hT hsz
 go_enter Tryd.func68,Tryd.ntmps68
 go_wp2
 go_loop [3,9] (fun c i=>∃ k C:Nat,k≤ss.length∧i=.int .i64 k∧c=.int .u32 C∧C<4294967296∧Hid (C=crc 4294967295 (bytesOf (ss.take k)))) (fun _ i=>ss.length - (intOf i).toNat)
 case atStart=>exact ⟨0,4294967295,by omega,rfl,rfl,by omega,hDx (by simp [bytesOf,crc])⟩
 case round =>
  obtain ⟨k,C,hk,rfl,rfl,hC,HCk⟩ := hrel;by_cases hlt:k<ss.length
  · have hc:=HC.out k hlt;have hz:=HZ.out k;obtain ⟨s,hs⟩ : ∃ s,ss.getD k ByteArray.empty=s:=⟨_,rfl⟩;rw [hs] at hc hz;have HS:=hDx hs;clear hs
    go_wp2
    go_loop [3,6,15] (fun c _ i=>∃ m D:Nat,m≤s.size∧i=.int .i64 m∧c=.int .u32 D∧D<4294967296∧Hid (D=crc (crc 4294967295 (bytesOf (ss.take k))) (s.data.toList.take m))) (fun _ _ i=>s.size - (intOf i).toNat)
    case atStart=>exact ⟨0,C,by omega,rfl,rfl,hC,hDx (by rw [HCk.out]; simp [crc])⟩
    case round =>
     obtain ⟨m,D,hm,rfl,rfl,hD,HDm⟩ := hrel;by_cases hlt':m<s.size
     · obtain ⟨X,e1,hX,xX⟩ := byte_xor D s[m] hD;obtain ⟨j,T,Y,e2,hj,tT,e3,hY,yY⟩ := half_step X hX;obtain ⟨j',T',Z,e4,hj',tT',e5,hZ,zZ⟩ := half_step Y hY;have c1:=HT.out j hj;have c2:=HT.out j' hj';rw [← tT] at c1;rw [← tT'] at c2;have HX:=hDx xX;have HY:=hDx yY;have HZ':=hDx zZ;clear xX yY zZ tT tT'
       go_wp2
       go_round
       case rel=>exact ⟨m+1,Z,by omega,by go_num,rfl,hZ,hDx (by rw [str_snoc s m hlt',crc_snoc,← HDm.out,HZ'.out,HY.out,HX.out]; rfl)⟩
       case measure=>simp [intOf]; omega
     · go_wp2
       go_round
       case rel =>
        obtain rfl:m=s.size:=by omega
        exact ⟨k+1,D,by omega,by go_num,rfl,hD,hDx (by rw [bytesOf_snoc ss k hlt,HS.out,crc_append,HDm.out,take_all])⟩
       case measure=>simp [intOf]; omega
  · go_wp2
    go_ret
    obtain rfl:k=ss.length:=by omega
    have h:=HCk.out;rw [List.take_length] at h;exact ⟨congrArg (fun x=>Ending.returned (.int .u32 x)) (by rw [not_u32 C hC,sumOf,← h]),rfl⟩
end Go.Proofs.YtagolklnjhpbdaaDoor.S

namespace Go.Proofs.YtagolklnjhpbdaaDoor.S
open Go.RowKit
theorem cell_alloc_new (w:World) (cs:Array Value) (t:TypeId) (j:Nat):(w.alloc (.cells cs t)).cell? ⟨w.heap.size,j,none⟩=cs[j]?:=World.cell?_alloc_new ..
theorem tab_of {w w':World} (h:Tab w) (hb:Below w.heap.size w w'):Tab w':=fun j hj=>by
 have hc:=h j hj;have hl:=World.block_lt_of_cell? w _ hc;exact (hb.cell (p:=⟨0,j,none⟩) hl).trans hc
theorem of_one (s:ByteArray) (b c:Nat) (w:World) (hc:w.cell? ⟨b,0,none⟩=some (.string s)) (hs:(s.size:Int)≤9223372036854775807) (hT:Tab w) :
    Calls Tryd.prog 68 #[.slice (some ⟨b,0,none⟩) 1 c] w fun e w'=>e=.returned (.int .u32 (sumOf s.data.toList:Nat))∧w=w':=by
 have h:=of_some [s] b 0 c w (by simp) (fun i=>by
  match i with
  | 0=>exact hs
  | i+1=>simp) (fun i hi=>by
  obtain rfl:i=0:=by simpa using hi
  simpa using hc) hT
 simpa [bytesOf] using h
end Go.Proofs.YtagolklnjhpbdaaDoor.S

namespace Go.Proofs.YtagolklnjhpbdaaDoor.K
open Go.RowKit
theorem OwnP.lit2 (w:World):OwnQ .i32 111 w.heap.size (.slice (some ⟨w.heap.size,0,none⟩) 0 0) [] (w.alloc (.cells #[] 111)):=(OwnP.lit .i32 _ w w.heap.size (Nat.le_refl _)).toQ
def CloPost (l:List (Int × Int)) (w:World) (e:Ending) (w':World):Prop:=∃ v,e=.returned v∧OwnQ .i32 111 w.heap.size v l w'∧Below w.heap.size w w'
set_option maxHeartbeats 2000000 in
theorem clone_pairs (a:Option Addr) (n c:Nat) (l:List (Int × Int)) (w:World) (hI:PairsIn .i32 a n c l w) (hnil:a=none→c=0) (hn:n≤1000000) :
    Calls Tryd.prog 95 #[.slice a n c] w (CloPost l w):=by
 obtain ⟨P,hP⟩ : ∃ P,CloPost l w=P:=⟨_,rfl⟩;rw [hP];have HP:=hDx hP;cases a with
 | none =>
  have h0:l=[]:=hI.at_.resolve_right (by rintro ⟨b,off,e,-⟩; cases e);obtain rfl:c=0:=hnil rfl;obtain rfl:n=0:=by have:=hI.fit; omega
  have hend:Hid (P (.returned (.slice none 0 0)) w):=hDx (by rw [← HP.out,h0]; exact ⟨_,rfl,OwnQ.nil _ _ _ _,Below.refl _ _⟩);clear hP hI h0 hnil;have qn:∀ (w:World),(binOp .eql 23 (.slice none 0 0) (.slice none 0 0)).run Tryd.prog w=.ok (.bool true) w:=fun w=>Lib.run_eql_slice_nil w _ _ none 0 0 0 0 Tryd.underlying23
  go_enter Tryd.func95,Tryd.ntmps95
  go_wp2_with fail
  exact hend.out
 | some ad =>
  have hb1:Below w.heap.size w (w.alloc (.cells #[] 111)):=(Below.refl _ _).alloc (Nat.le_refl _) _;have HO1:=hDx (OwnP.lit2 w);have HI1:=hDx (hI.belowAll hb1);have HS1:=hDx hb1.size;have HLn:Hid ((l.length:Int)≤1000000):=hDx (by rw [← hI.len]; omega);have HB1:=hDx hb1;clear hP hb1 hI hnil;have qn:∀ (w:World),(binOp .eql 23 (.slice (some ad) n c) (.slice none 0 0)).run Tryd.prog w=.ok (.bool false) w:=fun w=>Lib.run_eql_slice_nil w _ _ (some ad) n c 0 0 Tryd.underlying23
  go_enter Tryd.func95,Tryd.ntmps95
  go_wp2_with (refine wpList_append_q gluT rfl _ _ rfl rfl w.heap.size _ [] (some ad) n c l rfl rfl HO1.out HI1.out (by simp) HLn.out HS1.out ?_)
  intro v' w' hg;have HE:Hid (OwnQ .i32 111 w.heap.size v' l w'∧Below w.heap.size w w'):=hDx ⟨by simpa using hg.own,HB1.out.grown hg.grown HS1.out (fun q hq=>(HO1.out.own q hq).1)⟩;clear hg
  go_wp2
  rw [← HP.out];exact ⟨_,rfl,HE.out.1,HE.out.2⟩
end Go.Proofs.YtagolklnjhpbdaaDoor.K

namespace Go.Proofs.YtagolklnjhpbdaaDoor.K
open Go.Proofs.YtagolklnjhpbdaaDoor.R (agree_frame mem_slots slot_same wp_region_kept)
open Go.RowKit Go.Proofs.YtagolklnjhpbdaaDoor.I
theorem GatR.weaken {base base':Nat} {v:Value} {rs:List Ro} {w:World} (h:GatR base v rs w) (hb:base'≤base):GatR base' v rs w:=by
 obtain ⟨us,h1,h2,h3⟩ := h.ex;exact ⟨us,h1.weaken hb,h2,fun u hu b o e=>⟨(h3 u hu b o e).1,Nat.le_trans hb (h3 u hu b o e).2.1,(h3 u hu b o e).2.2⟩⟩
theorem GatR.grown {base p:Nat} {v:Value} {rs:List Ro} {w w':World} (h:GatR base v rs w) (hg:w.grownBy w' (some p)) (hp:p<base):GatR base v rs w':=by
 obtain ⟨us,h1,h2,h3⟩ := h.ex;refine ⟨us,h1.kept hg (fun q hq e=>by have:=(h1.ownBlock q hq).1; have:=Option.some.inj e; omega),h2.moved hg.size (fun u hu b o e hl=>hg.block b hl (fun e2=>by have:=(h3 u hu b o e).2.1; have:=Option.some.inj e2; omega)),fun u hu b o e=>⟨(h3 u hu b o e).1,(h3 u hu b o e).2.1,Nat.lt_of_lt_of_le (h3 u hu b o e).2.2 hg.size⟩⟩
theorem GatR.setOther {base p:Nat} {v:Value} {rs:List Ro} {w:World} (h:GatR base v rs w) (hp:p<base) (o:Nat) (x:Value):GatR base v rs (w.setCell ⟨p,o,none⟩ x):=h.grown (grown_set w p o x) hp
theorem ownQ_grown {rk:IntKind} {T:TypeId} {base p:Nat} {v:Value} {l:List (Int × Int)} {w w':World} (h:OwnQ rk T base v l w) (hg:w.grownBy w' (some p)) (hp:p<base):OwnQ rk T base v l w' :=
 h.moved (fun q hq=>hg.block q (h.own q hq).2.1 (fun e=>by have:=(h.own q hq).1; have:=Option.some.inj e; omega))
structure CnI (B rb rc0:Nat) (s:Sn) (ra:Option Addr) (rn rc:Nat) (ga:Option Addr) (gn gc:Nat) (w v:World):Prop where
 bk:v.heap[rb]?=some (.cells (snA s ra rn rc ga gn gc) 25 (0,0))
 zk:v.heap[rc0]?=some (.cells #[.int .i64 0,.int .i64 0,.int .i64 0,.int .i64 0,.int .i64 0,.string ⟨#[]⟩,.slice none 0 0,.int .i64 0,.int .i64 0,.slice none 0 0] 25 (0,0))
 bw:Below rb w v
 sz:B≤v.heap.size
 rl:rb<rc0∧rc0<B
theorem CnI.below {B rb rc0:Nat} {s:Sn} {ra:Option Addr} {rn rc:Nat} {ga:Option Addr} {gn gc:Nat} {w v v':World} (h:CnI B rb rc0 s ra rn rc ga gn gc w v) (hb:Below v.heap.size v v'):CnI B rb rc0 s ra rn rc ga gn gc w v' :=
 ⟨(hb.block rb (gSx.1 h.bk).1).trans h.bk,(hb.block rc0 (gSx.1 h.zk).1).trans h.zk,h.bw.trans (hb.mono (by have:=h.sz; have:=h.rl; omega)),Nat.le_trans h.sz hb.size,h.rl⟩
theorem CnI.set6 {B rb rc0:Nat} {s:Sn} {ra:Option Addr} {rn rc:Nat} {ga:Option Addr} {gn gc:Nat} {w v:World} (h:CnI B rb rc0 s ra rn rc ga gn gc w v) (xa:Option Addr) (xn xc:Nat):CnI B rb rc0 s xa xn xc ga gn gc w (v.setCell ⟨rb,6,none⟩ (.slice xa xn xc)) :=
 ⟨by simp [World.setCell,Array.getElem?_modify,h.bk,snA],(Below.heap_setCell _ _ _ rc0 (by show rc0≠rb; have:=h.rl; omega)).trans h.zk,h.bw.setCell (p:=⟨rb,6,none⟩) (Nat.le_refl _) _,by have:=(KeepsWalks.setCell v ⟨rb,6,none⟩ (.slice xa xn xc)).size; have:=h.sz; omega,h.rl⟩
theorem CnI.set9 {B rb rc0:Nat} {s:Sn} {ra:Option Addr} {rn rc:Nat} {ga:Option Addr} {gn gc:Nat} {w v:World} (h:CnI B rb rc0 s ra rn rc ga gn gc w v) (xa:Option Addr) (xn xc:Nat):CnI B rb rc0 s ra rn rc xa xn xc w (v.setCell ⟨rb,9,none⟩ (.slice xa xn xc)) :=
 ⟨by simp [World.setCell,Array.getElem?_modify,h.bk,snA],(Below.heap_setCell _ _ _ rc0 (by show rc0≠rb; have:=h.rl; omega)).trans h.zk,h.bw.setCell (p:=⟨rb,9,none⟩) (Nat.le_refl _) _,by have:=(KeepsWalks.setCell v ⟨rb,9,none⟩ (.slice xa xn xc)).size; have:=h.sz; omega,h.rl⟩
def CnS (B rb rc0:Nat) (s:Sn) (ra:Option Addr) (rn rc:Nat) (ga:Option Addr) (gn gc:Nat) (w:World):Nat→(Nat→Value)→World→Prop
  | 0,_,u=>CnI B rb rc0 s ra rn rc ga gn gc w u
  | 1,f,u=>CnI B rb rc0 s ra rn rc ga gn gc w u∧∃ v1,f 5=v1∧GatR B v1 s.R u
  | 2,f,u=>CnI B rb rc0 s ra rn rc ga gn gc w u∧∃ v1 v2,f 5=v1∧f 8=v2∧GatR B v1 s.R u∧OwnQ .i32 111 B v2 s.B u
  | 3,f,u=>∃ v1 v2 xa xn xc,v1=.slice xa xn xc∧f 8=v2∧CnI B rb rc0 s xa xn xc ga gn gc w u∧GatR B v1 s.R u∧OwnQ .i32 111 B v2 s.B u
  | _,_,u=>∃ v1 v2 xa xn xc ya yn yc,v1=.slice xa xn xc∧v2=.slice ya yn yc∧CnI B rb rc0 s xa xn xc ya yn yc w u∧GatR B v1 s.R u∧OwnQ .i32 111 B v2 s.B u
section
variable {B rb rc0:Nat} {s:Sn} {ra:Option Addr} {rn rc:Nat} {ga:Option Addr} {gn gc:Nat} {w u:World} {k:Nat} {f f2:Nat→Value}
theorem CnS.c6 (hk:k≤2) (h:CnS B rb rc0 s ra rn rc ga gn gc w k f u):u.cell? ⟨rb,6,none⟩=some (.slice ra rn rc):=by
 match k,hk,h with
 | 0,_,h=>exact (ten_cells h.bk).2.2.2.2.2.2.1
 | 1,_,h=>exact (ten_cells h.1.bk).2.2.2.2.2.2.1
 | 2,_,h=>exact (ten_cells h.1.bk).2.2.2.2.2.2.1
theorem CnS.c9 (hk:k≤3) (h:CnS B rb rc0 s ra rn rc ga gn gc w k f u):u.cell? ⟨rb,9,none⟩=some (.slice ga gn gc):=by
 match k,hk,h with
 | 0,_,h=>exact (ten_cells h.bk).2.2.2.2.2.2.2.2.2
 | 1,_,h=>exact (ten_cells h.1.bk).2.2.2.2.2.2.2.2.2
 | 2,_,h=>exact (ten_cells h.1.bk).2.2.2.2.2.2.2.2.2
 | 3,_,⟨_,_,_,_,_,_,_,h,_⟩=>exact (ten_cells h.bk).2.2.2.2.2.2.2.2.2
theorem CnS.cong (e5:k=1∨k=2→f 5=f2 5) (e8:k=2∨k=3→f 8=f2 8) (h:CnS B rb rc0 s ra rn rc ga gn gc w k f u):CnS B rb rc0 s ra rn rc ga gn gc w k f2 u:=by
 match k,h,e5,e8 with
 | 0,h,_,_=>exact h
 | 1,⟨h,v,e,h2⟩,e5,_=>exact ⟨h,v,by rw [← e5 (.inl rfl)]; exact e,h2⟩
 | 2,⟨h,v,v2,e,e2,h2⟩,e5,e8=>exact ⟨h,v,v2,by rw [← e5 (.inr rfl)]; exact e,by rw [← e8 (.inl rfl)]; exact e2,h2⟩
 | 3,⟨v,v2,a,n,c,e,e2,h⟩,_,e8=>exact ⟨v,v2,a,n,c,e,by rw [← e8 (.inr rfl)]; exact e2,h⟩
 | _+4,h,_,_=>exact h
end
def CnOk (rb:Nat) (ra:Option Addr) (rn rc:Nat) (ga:Option Addr) (gn gc:Nat):Nat→Value→World→Prop
  | 0,u,_=>u=.pointer (some ⟨rb,6,none⟩)
  | 1,u,_=>u=.slice ra rn rc
  | 2,_,_=>True
  | 3,u,_=>u=.pointer (some ⟨rb,9,none⟩)
  | 4,u,_=>u=.slice ga gn gc
  | 5,_,_=>True
  | 6,u,_=>u=.pointer (some ⟨rb,6,none⟩)
  | 7,_,_=>True
  | 8,u,_=>u=.pointer (some ⟨rb,9,none⟩)
  | 9,_,_=>True
  | _,_,_=>True
def SnPost (s:Sn) (w:World) (e:Ending) (w':World):Prop:=∃ xa xn xc ya yn yc,e=.returned (.agg (snA s xa xn xc ya yn yc))∧GatR w.heap.size (.slice xa xn xc) s.R w'∧OwnQ .i32 111 w.heap.size (.slice ya yn yc) s.B w'∧Below w.heap.size w w'
set_option maxRecDepth 100000 in
set_option maxHeartbeats 16000000 in
theorem nclone_any (s:Sn) (ra:Option Addr) (rn rc:Nat) (ga:Option Addr) (gn gc:Nat) (w:World) (h:SnIn .i32 ra rn rc ga gn gc s w) (hB:SnB s) :
    Calls Tryd.prog 75 #[.agg (snA s ra rn rc ga gn gc)] w (SnPost s w):=by
 obtain ⟨rb,hrb⟩ : ∃ rb,w.heap.size=rb:=⟨_,rfl⟩;obtain ⟨P,hP⟩ : ∃ P,SnPost s w=P:=⟨_,rfl⟩;rw [hP];have HP:=hDx hP;obtain ⟨w1,hw1⟩ : ∃ w1,w.alloc (.cells (snA s ra rn rc ga gn gc) 25)=w1:=⟨_,rfl⟩;obtain ⟨w2,hw2⟩ : ∃ w2,w1.alloc (.cells #[.int .i64 0,.int .i64 0,.int .i64 0,.int .i64 0,.int .i64 0,.string ⟨#[]⟩,.slice none 0 0,.int .i64 0,.int .i64 0,.slice none 0 0] 25)=w2:=⟨_,rfl⟩;have hs1:w1.heap.size=rb+1:=by rw [← hw1,World.size_alloc,hrb]
 have hs2:w2.heap.size=rb+2:=by rw [← hw2,World.size_alloc,hs1]
 have hb1:Below rb w w1:=by rw [← hw1,← hrb]; exact (Below.refl _ _).alloc (Nat.le_refl _) _
 have hb2:Below rb w w2:=by rw [← hw2]; exact hb1.alloc (by omega) _
 have hA1:w1.heap[rb]?=some (.cells (snA s ra rn rc ga gn gc) 25 (0,0)):=by rw [← hw1,← hrb]; exact heap_alloc_new w _
 have hA:w2.heap[rb]?=some (.cells (snA s ra rn rc ga gn gc) 25 (0,0)):=by rw [← hw2,Below.heap_alloc _ _ _ (by omega)]; exact hA1
 have hZ:w2.heap[rb+1]?=some (.cells #[.int .i64 0,.int .i64 0,.int .i64 0,.int .i64 0,.int .i64 0,.string ⟨#[]⟩,.slice none 0 0,.int .i64 0,.int .i64 0,.slice none 0 0] 25 (0,0)):=by rw [← hw2,← hs1]; exact heap_alloc_new w1 _
 have H0:Hid (CnI (rb+2) rb (rb+1) s ra rn rc ga gn gc w w2):=hDx ⟨hA,hZ,hb2,by omega,by omega,by omega⟩;have HI:=hDx h;have HM:=hDx hB;have HGn:Hid (gn≤1000000):=hDx (by rw [h.beg.len]; exact hB.beg);have HSz:=hDx hrb;have HW1:=hDx hw1;have HW2:=hDx hw2;have HS1:=hDx hs1;clear hP h hB hw1 hw2 hs1 hs2 hb1 hb2 hA1 hA hZ hrb;unfold snA at HW1 ⊢
 go_enter Tryd.func75,Tryd.ntmps75
 go_upto_region 1 with fail
 rw [HW1.out,HW2.out,HSz.out];refine wp_region_kept [2,5,7,9] [0,0,1,1,1,2,2,3,3,4] (by kernel_rfl) (fun k f u=>CnS (rb+2) rb (rb+1) s ra rn rc ga gn gc w k f u) (fun _ _=>True) (CnOk rb ra rn rc ga gn gc) (by rfl) (by kernel_rfl) (by kernel_rfl) (by kernel_rfl) (by kernel_rfl) ?hcong ?hOk ?hop ?hdone ?h0
 case hcong=>exact fun k f f2 u hs hst=>CnS.cong (fun hk=>hs 5 (mem_slots (by rcases hk with hk | hk <;> (subst hk; kernel_rfl)))) (fun hk=>hs 8 (mem_slots (by rcases hk with hk | hk <;> (subst hk; kernel_rfl)))) hst
 case hOk=>intro i u w1 w2 h hr; unfold CnOk at h ⊢; split <;> first | exact True.intro | exact h
 case h0=>exact H0.out.below ((Below.refl _ _).drew)
 case hop =>
  refine ⟨?_,?_,?_,?_,?_,?_,?_,?_,?_,?_,trivial⟩
  · intro k z v hk hst hag hdep hfr;refine .inl ⟨rfl,fun K hK=>?_⟩;have d1:z.tmps.getD 1 undef=.pointer (some ⟨rb,0,none⟩):=hag.2.2 1 (by kernel_rfl);have e1:=gEx d1;have HSt:=hDx hst;clear hdep hfr hag hst;go_simp;exact hK _ _ trivial rfl HSt.out
  · intro k z v hk hst hag hdep hfr;refine .inl ⟨rfl,fun K hK=>?_⟩;have d3:z.tmps.getD 3 undef=.pointer (some ⟨rb,6,none⟩):=hdep ⟨0,.data⟩ (by simp) rfl _ _ rfl rfl;have e3:=gEx d3;have l0:=CnS.c6 (Nat.le_trans hk (by decide)) hst;have HSt:=hDx hst;clear hdep hfr hag hst;go_simp;exact hK _ _ trivial rfl HSt.out
  · intro z v hst hag hdep hfr;refine ⟨rfl,fun K hK=>?_⟩;have d4:z.tmps.getD 4 undef=.slice ra rn rc:=hdep ⟨1,.data⟩ (by simp) rfl _ _ rfl rfl;have e4:=gEx d4;have h0:CnI (rb+2) rb (rb+1) s ra rn rc ga gn gc w v:=hst;have HC:=hDx (ncopied_any ra rn rc s.R v (HI.out.rows.below (by rw [HSz.out]; exact h0.bw)) HM.out.rows (fun r hr=>by have:=HM.out.cells r hr; omega));have hsz:5<z.tmps.size:=by rw [hag.2.1]; show 5<12; decide
    have HSt:=hDx h0;clear hdep hfr hag h0 hst;go_simp;refine HC.out.mono ?_;rintro e w' ⟨v2,rfl,hG,hb⟩;exact hK _ _ trivial True.intro ⟨HSt.out.below hb,v2,slot_same hsz,hG.weaken HSt.out.sz⟩
  · intro k z v hk hst hag hdep hfr;refine .inl ⟨rfl,fun K hK=>?_⟩;have d1:z.tmps.getD 1 undef=.pointer (some ⟨rb,0,none⟩):=hag.2.2 1 (by kernel_rfl);have e1:=gEx d1;have HSt:=hDx hst;clear hdep hfr hag hst;go_simp;exact hK _ _ trivial rfl HSt.out
  · intro k z v hk hst hag hdep hfr;refine .inl ⟨rfl,fun K hK=>?_⟩;have d6:z.tmps.getD 6 undef=.pointer (some ⟨rb,9,none⟩):=hdep ⟨3,.data⟩ (by simp) rfl _ _ rfl rfl;have e6:=gEx d6;have l0:=CnS.c9 (Nat.le_trans hk (by decide)) hst;have HSt:=hDx hst;clear hdep hfr hag hst;go_simp;exact hK _ _ trivial rfl HSt.out
  · intro z v hst hag hdep hfr;refine ⟨rfl,fun K hK=>?_⟩;have d7:z.tmps.getD 7 undef=.slice ga gn gc:=hdep ⟨4,.data⟩ (by simp) rfl _ _ rfl rfl;have e7:=gEx d7;obtain ⟨h0,v1,f5,hG⟩ := hst;have hsz:8<z.tmps.size:=by rw [hag.2.1]; show 8<12; decide
    have HC:=hDx (clone_pairs ga gn gc s.B v (HI.out.beg.belowAll (by rw [HSz.out]; exact h0.bw)) HI.out.nil HGn.out);have HSt:=hDx h0;have HG:=hDx hG;have hf5:z.tmps.getD 5 undef=v1:=f5;have HF5:=hDx hf5;clear hdep hfr hag h0 f5 hf5 hG;go_simp;refine HC.out.mono ?_;rintro e w' ⟨v2,rfl,hO,hb⟩;exact hK _ _ trivial True.intro ⟨HSt.out.below hb,v1,v2,by show (z.tmps.setIfInBounds 8 v2).getD 5 undef=v1; rw [gDx,Array.getElem?_setIfInBounds_ne (by decide),← gDx]; exact HF5.out,slot_same hsz,HG.out.below hb,hO.weaken HSt.out.sz⟩
  · intro k z v hk hst hag hdep hfr;refine .inl ⟨rfl,fun K hK=>?_⟩;have d1:z.tmps.getD 1 undef=.pointer (some ⟨rb,0,none⟩):=hag.2.2 1 (by kernel_rfl);have e1:=gEx d1;have HSt:=hDx hst;clear hdep hfr hag hst;go_simp;exact hK _ _ trivial rfl HSt.out
  · intro z v hst hag hdep hfr;refine ⟨rfl,fun K hK=>?_⟩;have d9:z.tmps.getD 9 undef=.pointer (some ⟨rb,6,none⟩):=hdep ⟨6,.data⟩ (by simp) rfl _ _ rfl rfl;have e9:=gEx d9;obtain ⟨h0,v1,v2,f5,f8,hG,hO⟩ := hst;obtain ⟨xa,xc,hv1⟩ := hG.shape;obtain ⟨xn,hxn⟩ : ∃ n,s.R.length=n:=⟨_,rfl⟩;rw [hxn] at hv1;subst hv1;have d5:z.tmps.getD 5 undef=.slice xa xn xc:=f5;have e5:=gEx d5;have l0:v.cell? ⟨rb,6,none⟩=some (.slice ra rn rc):=(ten_cells h0.bk).2.2.2.2.2.2.1;have l1:=frozen_block h0.bk 6;have HSt:=hDx h0;have HG:=hDx hG;have HO:=hDx hO;have HF8:Hid (z.tmps.getD 8 undef=v2):=hDx f8;clear hdep hfr hag h0 f5 f8 hG hO;go_simp;exact hK undef _ trivial True.intro ⟨_,v2,xa,xn,xc,rfl,HF8.out,HSt.out.set6 xa xn xc,HG.out.setOther (by have:=HSt.out.rl; omega) _ _,ownQ_grown HO.out (grown_set v rb 6 _) (by have:=HSt.out.rl; omega)⟩
  · intro k z v hk hst hag hdep hfr;refine .inl ⟨rfl,fun K hK=>?_⟩;have d1:z.tmps.getD 1 undef=.pointer (some ⟨rb,0,none⟩):=hag.2.2 1 (by kernel_rfl);have e1:=gEx d1;have HSt:=hDx hst;clear hdep hfr hag hst;go_simp;exact hK _ _ trivial rfl HSt.out
  · intro z v hst hag hdep hfr;refine ⟨rfl,fun K hK=>?_⟩;have d10:z.tmps.getD 10 undef=.pointer (some ⟨rb,9,none⟩):=hdep ⟨8,.data⟩ (by simp) rfl _ _ rfl rfl;have e10:=gEx d10;obtain ⟨v1,v2,xa,xn,xc,hv1,f8,h0,hG,hO⟩ := hst;obtain ⟨ya,yc,hv2,-⟩ := hO.shape;obtain ⟨yn,hyn⟩ : ∃ n,s.B.length=n:=⟨_,rfl⟩;rw [hyn] at hv2;subst hv2;have d8:z.tmps.getD 8 undef=.slice ya yn yc:=f8;have e8:=gEx d8;have l0:v.cell? ⟨rb,9,none⟩=some (.slice ga gn gc):=(ten_cells h0.bk).2.2.2.2.2.2.2.2.2;have l1:=frozen_block h0.bk 9;have HSt:=hDx h0;have HG:=hDx hG;have HO:=hDx hO;have HV1:=hDx hv1;clear hdep hfr hag h0 f8 hG hO;go_simp;exact hK undef _ trivial True.intro ⟨_,_,xa,xn,xc,ya,yn,yc,HV1.out,rfl,HSt.out.set9 ya yn yc,HG.out.setOther (by have:=HSt.out.rl; omega) _ _,ownQ_grown HO.out (grown_set v rb 9 _) (by have:=HSt.out.rl; omega)⟩
 case hdone =>
  intro z v hst hag hok;obtain ⟨v1,v2,xa,xn,xc,ya,yn,yc,rfl,rfl,hC,hG,hO⟩ : ∃ v1 v2 xa xn xc ya yn yc,v1=Value.slice xa xn xc∧v2=Value.slice ya yn yc∧CnI (rb+2) rb (rb+1) s xa xn xc ya yn yc w v∧GatR (rb+2) v1 s.R v∧OwnQ .i32 111 (rb+2) v2 s.B v:=hst;have HE:Hid (CnI (rb+2) rb (rb+1) s xa xn xc ya yn yc w v∧GatR (rb+2) (.slice xa xn xc) s.R v∧OwnQ .i32 111 (rb+2) (.slice ya yn yc) s.B v):=hDx ⟨hC,hG,hO⟩;clear hC hG hO;obtain ⟨uu,hu,hzz⟩ := agree_frame [3,4,5,6,7,8,9,10] rfl hag;subst hzz;simp only [List.foldl_cons,List.foldl_nil];clear hu hag hok
  try dsimp only [Exit.then]
  simp only [List.setIfInBounds_toArray,List.set_cons_succ,List.set_cons_zero];generalize uu 3=u3',uu 4=u4',uu 5=u5',uu 6=u6',uu 7=u7',uu 8=u8',uu 9=u9',uu 10=u10';clear uu;rename_i K hK;refine hK _ _ ?_;obtain ⟨c0,c1,c2,c3,c4,c5,c6,c7,c8,c9⟩ := ten_cells HE.out.1.bk;obtain ⟨d0,d1,d2,d3,d4,d5,d6,d7,d8,d9⟩ : v.cell? ⟨rb+1,0,none⟩=some (.int .i64 0)∧v.cell? ⟨rb+1,1,none⟩=some (.int .i64 0)∧v.cell? ⟨rb+1,2,none⟩=some (.int .i64 0)∧v.cell? ⟨rb+1,3,none⟩=some (.int .i64 0)∧v.cell? ⟨rb+1,4,none⟩=some (.int .i64 0)∧v.cell? ⟨rb+1,5,none⟩=some (.string ⟨#[]⟩)∧v.cell? ⟨rb+1,6,none⟩=some (.slice none 0 0)∧v.cell? ⟨rb+1,7,none⟩=some (.int .i64 0)∧v.cell? ⟨rb+1,8,none⟩=some (.int .i64 0)∧v.cell? ⟨rb+1,9,none⟩=some (.slice none 0 0):=ten_cells (s:=emptyN) HE.out.1.zk;have f0:=frozen_block HE.out.1.zk 0;have f1:=frozen_block HE.out.1.zk 1;have f2:=frozen_block HE.out.1.zk 2
  have f3:=frozen_block HE.out.1.zk 3;have f4:=frozen_block HE.out.1.zk 4;have f5:=frozen_block HE.out.1.zk 5;have f6:=frozen_block HE.out.1.zk 6;have f7:=frozen_block HE.out.1.zk 7;have f8:=frozen_block HE.out.1.zk 8;have f9:=frozen_block HE.out.1.zk 9;have hend:Hid (P (.returned (.agg (snA s xa xn xc ya yn yc))) ((((((((((v.setCell ⟨rb+1,0,none⟩ (.int .i64 s.k)).setCell ⟨rb+1,1,none⟩ (.int .i64 s.w)).setCell ⟨rb+1,2,none⟩ (.int .i64 s.h)).setCell ⟨rb+1,3,none⟩ (.int .i64 s.x)).setCell ⟨rb+1,4,none⟩ (.int .i64 s.y)).setCell ⟨rb+1,5,none⟩ (.string s.t)).setCell ⟨rb+1,6,none⟩ (.slice xa xn xc)).setCell ⟨rb+1,7,none⟩ (.int .i64 s.n)).setCell ⟨rb+1,8,none⟩ (.int .i64 s.c)).setCell ⟨rb+1,9,none⟩ (.slice ya yn yc))):=hDx (by
   rw [← HP.out];have hg:∀ (u:World) (o:Nat) (x:Value),u.grownBy (u.setCell ⟨rb+1,o,none⟩ x) (some (rb+1)):=fun u o x=>grown_set u (rb+1) o x
   have g10:v.grownBy ((((((((((v.setCell ⟨rb+1,0,none⟩ (.int .i64 s.k)).setCell ⟨rb+1,1,none⟩ (.int .i64 s.w)).setCell ⟨rb+1,2,none⟩ (.int .i64 s.h)).setCell ⟨rb+1,3,none⟩ (.int .i64 s.x)).setCell ⟨rb+1,4,none⟩ (.int .i64 s.y)).setCell ⟨rb+1,5,none⟩ (.string s.t)).setCell ⟨rb+1,6,none⟩ (.slice xa xn xc)).setCell ⟨rb+1,7,none⟩ (.int .i64 s.n)).setCell ⟨rb+1,8,none⟩ (.int .i64 s.c)).setCell ⟨rb+1,9,none⟩ (.slice ya yn yc)) (some (rb+1)):=grown_trans (grown_trans (grown_trans (grown_trans (grown_trans (grown_trans (grown_trans (grown_trans (grown_trans (hg v 0 _) (hg _ 1 _)) (hg _ 2 _)) (hg _ 3 _)) (hg _ 4 _)) (hg _ 5 _)) (hg _ 6 _)) (hg _ 7 _)) (hg _ 8 _)) (hg _ 9 _);have hb:Below rb v _:=(Below.refl rb v).grown g10 (by have:=HE.out.1.sz; omega) (fun q e=>by have:=Option.some.inj e; omega)
   exact ⟨xa,xn,xc,ya,yn,yc,rfl,(HE.out.2.1.grown g10 (by omega)).weaken (by rw [HSz.out]; omega),(ownQ_grown HE.out.2.2 g10 (by omega)).weaken (by rw [HSz.out]; omega),by rw [HSz.out]; exact HE.out.1.bw.trans hb⟩)
  unfold snA at hend
  go_wp2_with fail
  refine bodyPost_ret (v:=.agg #[.int .i64 s.k,.int .i64 s.w,.int .i64 s.h,.int .i64 s.x,.int .i64 s.y,.string s.t,.slice xa xn xc,.int .i64 s.n,.int .i64 s.c,.slice ya yn yc]) (by rw [results_cell rfl]; go_simp) rfl ?_;exact hend.out
end Go.Proofs.YtagolklnjhpbdaaDoor.K
