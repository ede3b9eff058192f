import Derived.Test.YtagolklnjhpbdaaDoorMerged0
import Derived.Test.YtagolklnjhpbdaaDoorRows
import Derived.WalkKit
import Derived.WalkLawsBesides
import Derived.WalkSpells
import Derived.Outline
import Derived.Lib.Hide
import Derived.Below
import Derived.IntWalk
import Derived.OwnWalk
import Derived.Test.YtagolklnjhpbdaaDoorMerged6
import Derived.Test.YtagolklnjhpbdaaDoorMerged4
import Derived.Lib.AppendZeros
import Derived.Lib.Buffer
import Derived.Test.YtagolklnjhpbdaaDoorMerged1
import Derived.Lib.QuietBelow
import Derived.BigQuiet
namespace Go.Proofs.YtagolklnjhpbdaaDoor.W
def tab:List (Int × Int × Nat):=[(-2147483648,31,0),(127,159,0),(768,879,0),(4352,4447,2),(6832,6911,0),(7616,7679,0),(8203,8207,0),(8400,8447,0),(11904,12350,2),(12353,13311,2),(13312,19903,2),(19968,40959,2),(40960,42191,2),(44032,55203,2),(55296,57343,0),(63744,64255,2),(65024,65039,0),(65056,65071,0),(65072,65135,2),(65279,65279,0),(65280,65376,2),(65504,65510,2),(127744,128591,2),(129280,129535,2),(131072,262141,2),(917760,917999,0),(1114112,2147483647,0)]
def look:List (Int × Int × Nat)→Int→Nat
  | [],_=>1
  | (a,b,c)::t,r=>if r<a then 1 else if r≤b then c else look t r
def inL:List (Int × Int)→Int→Bool
  | [],_=>false
  | (a,b)::t,r=>(decide (a≤r) && decide (r≤b)) || inL t r
def rest (k:Nat) (r:Int):Nat:=look (tab.drop k) r
def marks:List Int:=[-2147483648,32,127,160,768,880,4352,4448,6832,6912,7616,7680,8203,8208,8400,8448,11904,12351,12353,13312,19904,19968,40960,42192,44032,55204,55296,57344,63744,64256,65024,65040,65056,65072,65136,65279,65280,65377,65504,65511,127744,128592,129280,129536,131072,262142,917760,918000,1114112,2147483648]
def pairs:List Int→List (Int × Int)
  | a::b::t=>(a,b)::pairs (b::t)
  | _=>[]
theorem between (r:Int):∀ (l:List Int) (a:Int),a≤r→r<(a::l).getLast (by simp)→∃ p ∈ pairs (a::l),p.1≤r∧r<p.2
  | [],a,h1,h2=>by simp at h2; omega
  | b::l,a,h1,h2=>by
   by_cases h:r<b
   · exact ⟨(a,b),by simp [pairs],h1,h⟩
   · obtain ⟨p,hp,h3⟩ := between r l b (by omega) (by simpa using h2);exact ⟨p,by simp only [pairs]; exact List.mem_cons_of_mem _ hp,h3⟩
end Go.Proofs.YtagolklnjhpbdaaDoor.W

namespace Go.Proofs.YtagolklnjhpbdaaDoor.W
open Go.RowKit
def Tab (w:World):Prop:=∀ k,k<27→w.cell? ⟨0,k*3,none⟩=some (.int .i32 (tab.getD k (0,0,0)).1)∧w.cell? ⟨0,k*3+1,none⟩=some (.int .i32 (tab.getD k (0,0,0)).2.1)∧w.cell? ⟨0,k*3+2,none⟩=some (.int .i64 ((tab.getD k (0,0,0)).2.2:Int))
theorem Tab.pos {w:World} (h:Tab w):0<w.heap.size:=World.block_lt_of_cell? w _ (h 0 (by decide)).1
theorem Tab.below {w w':World} (h:Tab w) {b:Nat} (hb:Below b w w') (h0:0<b):Tab w':=fun k hk =>
 ⟨(hb.cell (p:=⟨0,k*3,none⟩) h0).trans (h k hk).1,(hb.cell (p:=⟨0,k*3+1,none⟩) h0).trans (h k hk).2.1,(hb.cell (p:=⟨0,k*3+2,none⟩) h0).trans (h k hk).2.2⟩
theorem Tab.belowAll {w w':World} (h:Tab w) (hb:Below w.heap.size w w'):Tab w':=h.below hb h.pos
end Go.Proofs.YtagolklnjhpbdaaDoor.W

namespace Go.Proofs.YtagolklnjhpbdaaDoor.K
open Go.RowKit
theorem rep_cells (rk:IntKind) (n:Nat) (c:Cel):U.rep n (cCells rk c)=flatC rk (List.replicate n c):=by
 induction n with
 | zero=>rfl
 | succ n ih =>
  unfold U.rep at ih ⊢;rw [List.replicate_succ,List.flatten_cons,ih,List.replicate_succ]
  rfl
set_option maxRecDepth 100000 in
set_option maxHeartbeats 4000000 in
theorem blanks_any (n:Nat) (s:Int) (hn:(n:Int)≤1000000) (w:World):Calls Tryd.prog 57 #[.int .i64 (n:Int),.int .i64 s] w (CelPost 118 w.heap.size (blanks n s) w):=by
 obtain ⟨P,hP⟩ : ∃ P,CelPost 118 w.heap.size (blanks n s) w=P:=⟨_,rfl⟩;rw [hP];have HP:=hDx hP;have HBl:=hDx (fun (v:World)=>blank_any s v);clear hP
 go_enter Tryd.func57,Tryd.ntmps57
 go_wp2_with (go_at_call 81; refine (HBl.out _).mono ?_; rintro e w1 ⟨rfl,hb1⟩)
 obtain ⟨w2,hw2⟩ : ∃ w2,w1.alloc (.cells #[.int .i32 32,.int .i64 s,.int .i64 0] 118)=w2:=⟨_,rfl⟩;rw [hw2];obtain ⟨g,hg⟩ : ∃ g,w1.heap.size=g:=⟨_,rfl⟩;rw [hg];have hblk:w2.heap[g]?=some (.cells #[.int .i32 32,.int .i64 s,.int .i64 0] 118 (0,0)):=by rw [← hw2,← hg]; exact World.alloc_heap_new _ _
 have hb2:Below w.heap.size w w2:=by rw [← hw2]; exact hb1.alloc hb1.size _
 have hR:=repeat_cells g 0 1 n (cCells .i32 (blk s)) w2 rfl (fun j u hj=>by
  have hadd:((⟨g,0,none⟩ : Addr).add j)=⟨g,0+j,none⟩ := by unfold Addr.add; split <;> simp_all
  rw [hadd,Nat.zero_add];simp only [World.cell?,hblk]
  simpa [cCells,blk] using hj) ((gSx.1 hblk).1) (fun u hu=>flatC_one .i32 [blk s] u (by simpa [flatC] using hu)) hn
 rw [rep_cells] at hR;have HR:=hDx hR;have HB2:=hDx hb2;clear hblk hb2 hR hw2 hg hb1
 go_wp2_with fail
 refine HR.out.mono ?_;rintro e w3 ⟨rfl,ho3,hb3⟩;have HF:Hid (OwnC .i32 118 w.heap.size (.slice (some ⟨w2.heap.size,0,none⟩) n n) (blanks n s) w3∧Below w.heap.size w w3):=hDx ⟨by
  have h:OwnC .i32 118 w2.heap.size (.slice (some ⟨w2.heap.size,0,none⟩) n n) (blanks n s) w3:=by unfold OwnC; rw [blanks_length]; exact ho3
  exact h.weaken HB2.out.size,HB2.out.trans (hb3.mono HB2.out.size)⟩
 clear ho3 hb3 HR
 go_wp2_with fail
 rw [← HP.out];exact ⟨_,rfl,HF.out.1,HF.out.2⟩
theorem nearS_N (w:Int):nearS w 1000=(nearN w:Int):=by unfold nearS nearN; omega
set_option maxRecDepth 100000 in
set_option maxHeartbeats 4000000 in
theorem rowBlank_any (n s:Int) (w:World):Calls Tryd.prog 23 #[.int .i64 n,.int .i64 s] w (RowPost .i32 118 w.heap.size (blanks (nearN n) s) false w):=by
 obtain ⟨rb,hrb⟩ : ∃ rb,w.heap.size=rb:=⟨_,rfl⟩;rw [hrb];obtain ⟨N,hN⟩ : ∃ N,nearN n=N:=⟨_,rfl⟩;have hN1:N≤1000:=by rw [← hN]; exact nearN_le n
 obtain ⟨P,hP⟩ : ∃ P,RowPost .i32 118 rb (blanks N s) false w=P:=⟨_,rfl⟩;rw [hN,hP];have HP:=hDx hP;have HNear:=hDx (fun (v:World)=>nearest_any n 1000 v);rw [nearS_N,hN] at HNear;obtain ⟨w1,hw1⟩ : ∃ w1,w.alloc (.cells #[.slice none 0 0,.bool false] 57)=w1:=⟨_,rfl⟩;have hb1:Below rb w w1:=by rw [← hw1,← hrb]; exact (Below.refl _ _).alloc (Nat.le_refl _) _
 have hr1:RoB 57 rb (.slice none 0 0) false w1:=by rw [← hw1,← hrb]; exact RoB.new _ _ _ _
 have HBs:=hDx (blanks_any N s (by omega) w1);have hs1:w1.heap.size=rb+1:=by rw [← hw1,World.size_alloc,hrb]
 rw [hs1] at HBs;have HB1:=hDx hb1;have HR1:=hDx hr1;have HW1:=hDx hw1;have HRb:=hDx hrb;clear hP hN hw1 hb1 hr1 hrb hs1
 go_enter Tryd.func23,Tryd.ntmps23
 go_upto_region 1 with fail
 rw [HW1.out,HRb.out]
 go_wp2_with (go_at_call 58; refine (HNear.out _).mono ?_; rintro e w' ⟨rfl,rfl⟩)
 refine HBs.out.mono ?_;rintro e w2 ⟨v2,rfl,ho2,hb2⟩;obtain ⟨a2,c2,rfl,-⟩ := ho2.shape;have HO2:=hDx ho2;have HB2:Hid (Below rb w w2):=hDx (HB1.out.trans (hb2.mono (Nat.le_succ _)));have hr2:=HR1.out.below hb2 (Nat.lt_succ_self rb);have c0:=hr2.c0;have c1:=hr2.c1;have f0:=hr2.fr 0;have f1:=hr2.fr 1;clear ho2 hb2 hr2 HBs
 go_wp2_with fail
 refine bodyPost_ret (v:=.agg #[.slice a2 (blanks N s).length c2,.bool false]) (by rw [results_cell (fn:=Tryd.f23) rfl]; go_simp <;> rfl) rfl ?_;rw [← HP.out];exact ⟨_,rfl,(HO2.out.set2 (Nat.lt_succ_self rb) _ _).weaken (by omega),below_set2 HB2.out (Nat.le_refl _)⟩
end Go.Proofs.YtagolklnjhpbdaaDoor.K

namespace Go.Proofs.YtagolklnjhpbdaaDoor.K
open Go.RowKit
structure St0 (t t2:TypeId) (rb:Nat) (v:Value) (b:Bool) (w w2:World):Prop where
 below:Below rb w w2
 r:RoB t rb v b w2
 q:RoB t2 (rb+1) (.slice none 0 0) false w2
 size:rb+2≤w2.heap.size
theorem St0.start (t t2:TypeId) (w:World) (v:Value) (b:Bool):St0 t t2 w.heap.size v b w ((w.alloc (.cells #[v,.bool b] t)).alloc (.cells #[.slice none 0 0,.bool false] t2)):=by
 have h1:=RoB.new t w v b;have h2:=RoB.new t2 (w.alloc (.cells #[v,.bool b] t)) (.slice none 0 0) false;rw [World.size_alloc] at h2;exact ⟨((Below.refl _ _).alloc (Nat.le_refl _) _).alloc (by simp) _,h1.belowAll ((Below.refl _ _).alloc (Nat.le_refl _) _),h2,by simp⟩
theorem St0.more {t t2:TypeId} {rb:Nat} {v:Value} {b:Bool} {w w2 w3:World} (h:St0 t t2 rb v b w w2) (hb:Below (rb+2) w2 w3):St0 t t2 rb v b w w3 :=
 ⟨h.below.trans (hb.mono (by omega)),h.r.below hb (by omega),h.q.below hb (by omega),Nat.le_trans h.size hb.size⟩
theorem below_grew {base B:Nat} {T:TypeId} {v v':Value} {n:Nat} {out:List Value} {w0 w w':World} (h:Below B w0 w) (g:U.Grew base T 3 v n out w v' w') (hown:∀ q,v.ownBlock=some q→B≤q) (hs:B≤w.heap.size):Below B w0 w':=h.grown g.grown hs hown
end Go.Proofs.YtagolklnjhpbdaaDoor.K

namespace Go.Proofs.YtagolklnjhpbdaaDoor.K
open Go.RowKit
end Go.Proofs.YtagolklnjhpbdaaDoor.K

namespace Go.Proofs.YtagolklnjhpbdaaDoor.K
open Go.RowKit
end Go.Proofs.YtagolklnjhpbdaaDoor.K

namespace Go.Proofs.YtagolklnjhpbdaaDoor.K
open Go.RowKit
end Go.Proofs.YtagolklnjhpbdaaDoor.K

namespace Go.Proofs.YtagolklnjhpbdaaDoor.K
open Go.RowKit
end Go.Proofs.YtagolklnjhpbdaaDoor.K

namespace Go.Proofs.YtagolklnjhpbdaaDoor.K
open Go.RowKit
def SegAt (v:Value) (l:List Cel) (w:World):Prop:=∃ x n c,v=.slice x n c∧CelsIn .i32 x n l w∧(x=none→c=0)∧n≤c
theorem SegAt.belowAll {v:Value} {l:List Cel} {w w':World} (h:SegAt v l w) (hb:Below w.heap.size w w'):SegAt v l w':=by
 obtain ⟨x,n,c,rfl,h1,h2,h3⟩ := h;exact ⟨x,n,c,rfl,h1.belowAll hb,h2,h3⟩
theorem CelsIn.dropOf {rk:IntKind} {a:Option Addr} {n:Nat} {l:List Cel} {w:World} (h:CelsIn rk a n l w) {k:Nat} (hk:k≤n) (c:Nat) (hc:n≤c):CelsIn rk (if c=k then a else a.map (fun x=>x.add (k*3))) (n - k) (l.drop k) w:=by
 have hl:=h.len;rcases h.at_ with e | ⟨b,off,ha,hb,hi⟩
 · refine ⟨by rw [List.length_drop]; omega,.inl (by rw [e]; simp)⟩
 · by_cases hck:c=k
   · rw [if_pos hck];refine ⟨by rw [List.length_drop]; omega,.inl (List.eq_nil_of_length_eq_zero (by rw [List.length_drop]; omega))⟩
   · rw [if_neg hck,ha];have hadd:((⟨b,off,none⟩ : Addr).add (k*3))=⟨b,off+k*3,none⟩ := by unfold Addr.add; split <;> simp_all
     show CelsIn rk (some ((⟨b,off,none⟩ : Addr).add (k*3))) _ _ _;rw [hadd];rw [ha] at h;exact CelsIn.drop h hk
theorem SegAt.cut {a:Option Addr} {n c:Nat} {l:List Cel} {w:World} (h:CelsIn .i32 a n l w) (h0:a=none→c=0) (hc:n≤c) {lo hi:Nat} (h1:lo≤hi) (h2:hi≤n):SegAt (.slice (if c=lo then a else a.map (fun x=>x.add (lo*3))) (hi - lo) (c - lo)) ((l.take hi).drop lo) w:=by
 refine ⟨_,_,_,rfl,(h.take h2).dropOf h1 c (by omega),fun e=>?_,by omega⟩
 split at e
 · omega
 · cases a with
   | none=>have:=h0 rfl; omega
   | some x=>cases e
theorem SegAt.front {a:Option Addr} {n c:Nat} {l:List Cel} {w:World} (h:CelsIn .i32 a n l w) (h0:a=none→c=0) (hc:n≤c) {hi:Nat} (h2:hi≤n):SegAt (.slice a hi c) (l.take hi) w:=⟨_,_,_,rfl,h.take h2,h0,by omega⟩
theorem SegAt.back {a:Option Addr} {n c:Nat} {l:List Cel} {w:World} (h:CelsIn .i32 a n l w) (h0:a=none→c=0) (hc:n≤c) {lo:Nat} (h1:lo≤n):SegAt (.slice (if c=lo then a else a.map (fun x=>x.add (lo*3))) (n - lo) (c - lo)) (l.drop lo) w:=by
 have:=SegAt.cut h h0 hc h1 (Nat.le_refl n);rw [List.take_of_length_le (Nat.le_of_eq h.len.symm)] at this;exact this
end Go.Proofs.YtagolklnjhpbdaaDoor.K

namespace Go.Proofs.YtagolklnjhpbdaaDoor.K
open Go.RowKit
end Go.Proofs.YtagolklnjhpbdaaDoor.K

namespace Go.Proofs.YtagolklnjhpbdaaDoor.K
open Go.RowKit
end Go.Proofs.YtagolklnjhpbdaaDoor.K

namespace Go.Proofs.YtagolklnjhpbdaaDoor.K
open Go.RowKit
end Go.Proofs.YtagolklnjhpbdaaDoor.K

namespace Go.Proofs.YtagolklnjhpbdaaDoor.K
open Go.RowKit
theorem take_snoc1 {α:Type} (l:List α) (j:Nat) (h:j<l.length):l.take (j+1)=l.take j++[l[j]]:=by
 rw [List.take_add_one,List.getElem?_eq_getElem h]; rfl
end Go.Proofs.YtagolklnjhpbdaaDoor.K

namespace Go.Proofs.YtagolklnjhpbdaaDoor.K
open Go.RowKit
theorem RoB.set0 {t:TypeId} {p:Nat} {v v':Value} {b:Bool} {w:World} (h:RoB t p v b w):RoB t p v' b (w.setCell ⟨p,0,none⟩ v'):=by
 unfold RoB at h ⊢;simp [World.setCell,Array.getElem?_modify,h]
theorem RoB.setOther {t:TypeId} {p q:Nat} {v x:Value} {b:Bool} {w:World} {o:Nat} (h:RoB t p v b w) (hne:p≠q):RoB t p v b (w.setCell ⟨q,o,none⟩ x):=(Below.heap_setCell _ _ _ p (fun e=>hne e)).trans h
theorem OwnC.set1 {rk:IntKind} {T:TypeId} {base:Nat} {v:Value} {l:List Cel} {w:World} (h:OwnC rk T base v l w) {p:Nat} (hp:p<base) (o:Nat) (x:Value):OwnC rk T base v l (w.setCell ⟨p,o,none⟩ x):=by
 have g1:w.grownBy (w.setCell ⟨p,o,none⟩ x) (some p):=⟨rfl,rfl,rfl,(KeepsWalks.setCell w _ x).size,fun i _ hi=>Below.heap_setCell _ _ _ i (fun e=>hi (by rw [e]))⟩;exact h.kept g1 (fun q hq e=>by have:=(h.ownBlock q hq).1; have:=Option.some.inj e; omega)
structure ToldI (rb:Nat) (v0 v:Value) (b:Bool) (l:List Cel) (w wr:World):Prop where
 below:Below rb w wr
 r:RoB 57 rb v0 b wr
 q:RoB 63 (rb+1) (.slice none 0 0) false wr
 x:RoB 63 (rb+2) v b wr
 own:OwnC .i64 87 (rb+3) v l wr
theorem ToldI.size {rb:Nat} {v0 v:Value} {b:Bool} {l:List Cel} {w wr:World} (h:ToldI rb v0 v b l w wr):rb+3≤wr.heap.size:=h.x.lt
theorem ToldI.more {rb:Nat} {v0 v:Value} {b:Bool} {l:List Cel} {w wr w':World} (h:ToldI rb v0 v b l w wr) (hb:Below wr.heap.size wr w'):ToldI rb v0 v b l w w' :=
 ⟨h.below.trans (hb.mono (by have:=h.size; omega)),h.r.belowAll hb,h.q.belowAll hb,h.x.belowAll hb,h.own.belowAll hb⟩
theorem ToldI.next {rb:Nat} {v0 v v':Value} {b:Bool} {l l':List Cel} {w wr w':World} (h:ToldI rb v0 v b l w wr) (hb:Below (rb+3) wr w') (ho:OwnC .i64 87 (rb+3) v' l' w'):ToldI rb v0 v' b l' w (w'.setCell ⟨rb+2,0,none⟩ v'):=by
 have hb':Below rb w w':=h.below.trans (hb.mono (by omega));exact ⟨hb'.setCell (p:=⟨rb+2,0,none⟩) (by show rb≤rb+2; omega) _,(h.r.below hb (by omega)).setOther (by omega),(h.q.below hb (by omega)).setOther (by omega),(h.x.below hb (by omega)).set0,ho.set1 (by omega) _ _⟩
set_option maxRecDepth 100000 in
set_option maxHeartbeats 8000000 in
theorem told_any (a:Option Addr) (n c:Nat) (wr0:Bool) (l:List Cel) (w:World) (hI:CelsIn .i32 a n l w) (hr:AllC Rng l) (hn:(n:Int)≤1000000) :
    Calls Tryd.prog 26 #[.agg #[.slice a n c,.bool wr0]] w (RowPost .i64 87 w.heap.size l wr0 w):=by
 obtain ⟨rb,hrb⟩ : ∃ rb,w.heap.size=rb:=⟨_,rfl⟩;rw [hrb];obtain ⟨P,hP⟩ : ∃ P,RowPost .i64 87 rb l wr0 w=P:=⟨_,rfl⟩;rw [hP];have HP:=hDx hP;have hln:=hI.len;have hst:=St0.start 57 63 w (.slice a n c) wr0;obtain ⟨w2,hw2⟩ : ∃ w2,(w.alloc (.cells #[.slice a n c,.bool wr0] 57)).alloc (.cells #[.slice none 0 0,.bool false] 63)=w2:=⟨_,rfl⟩;rw [hw2,hrb] at hst;have hsz2:w2.heap.size=rb+2:=by rw [← hw2,World.size_alloc,World.size_alloc,hrb]
 obtain ⟨w3,hw3⟩ : ∃ w3,w2.alloc (.cells #[.slice none 0 0,.bool wr0] 63)=w3:=⟨_,rfl⟩;have ht3:ToldI rb (.slice a n c) (.slice none 0 0) wr0 [] w w3:=by
  have hb3:Below w2.heap.size w2 w3:=by rw [← hw3]; exact (Below.refl _ _).alloc (Nat.le_refl _) _
  have hx:=RoB.new 63 w2 (.slice none 0 0) wr0;rw [hw3,hsz2] at hx;exact ⟨hst.below.trans (hb3.mono (by omega)),hst.r.belowAll hb3,hst.q.belowAll hb3,hx,OwnC.nil _ _ _ _⟩
 have c1:=hst.r.c1;have c0:=ht3.r.c0;have HI:=hDx hI;have HLn:=hDx hln;have HRg:=hDx hr;have HW2:=hDx hw2;have HW3:=hDx hw3;have HRb:=hDx hrb;have HSz2:=hDx hsz2;have HT3:=hDx ht3;clear hP hI hr hln hst hw2 hw3 hrb hsz2 ht3
 go_enter Tryd.func26,Tryd.ntmps26
 go_upto_region 1 with fail
 rw [HW2.out,HRb.out]
 go_upto_region 2 with fail
 rw [HW3.out,HSz2.out]
 go_wp2_with fail
 clear c0 c1
 go_loopw [12] (fun i wr=>∃ j:Nat,i=.int .i64 (j:Int)∧j≤n∧Hid (∃ v,ToldI rb (.slice a n c) v wr0 (l.take j) w wr)) (fun i _=>n - (intOf i).toNat)
 case atStart=>exact ⟨0,rfl,by omega,hDx ⟨_,by rw [List.take_zero]; exact HT3.out⟩⟩
 case round =>
  obtain ⟨j,rfl,hj,HF⟩ := hrel;by_cases hlt:j<n
  · have hd:decide (j<n)=true:=by simp; omega
    have hjl:j<l.length:=by rw [← HLn.out]; exact hlt
    obtain ⟨v,hv⟩ := HF.out;obtain ⟨b,o,rfl,hb,hA⟩ := HI.out.at_.resolve_left (by intro e; rw [e] at hjl; simp at hjl);rw [HRb.out] at hb;have hat:=(hA j l[j] (List.getElem?_eq_getElem hjl)).block (hv.below.block b hb);have hsn:=take_snoc1 l j hjl;have hrg:=HRg.out l[j] (List.getElem_mem hjl);obtain ⟨k,hk⟩ : ∃ k,l[j]=k:=⟨_,rfl⟩;rw [hk] at hat hsn hrg;obtain ⟨x,s,t⟩ := k;have hwr:IntKind.i64.wrap x=x:=by rw [IntKind.wrap_i64]; have h1:=hrg.1; have h2:=hrg.2; simp only at h1 h2; omega
    have x0:=hat.c0;have x1:=hat.c1;have x2:=hat.c2;simp only at x0 x1 x2;obtain ⟨nb,hnb⟩ : ∃ nb,wr.heap.size=nb:=⟨_,rfl⟩;obtain ⟨w5,hw5⟩ : ∃ w5,wr.alloc (.cells #[.int .i32 x,.int .i64 s,.int .i64 t] 118)=w5:=⟨_,rfl⟩;have hblk5:w5.heap[nb]?=some (.cells #[.int .i32 x,.int .i64 s,.int .i64 t] 118 (0,0)):=by rw [← hw5,← hnb]; exact World.alloc_heap_new _ _
    have hb5:Below wr.heap.size wr w5:=by rw [← hw5]; exact (Below.refl _ _).alloc (Nat.le_refl _) _
    have e0:w5.cell? ⟨nb,0,none⟩=some (.int .i32 x):=by simp [World.cell?,hblk5]
    have e1:w5.cell? ⟨nb,1,none⟩=some (.int .i64 s):=by simp [World.cell?,hblk5]
    have e2:w5.cell? ⟨nb,2,none⟩=some (.int .i64 t):=by simp [World.cell?,hblk5]
    have HV5:=hDx (hv.more hb5);obtain ⟨a8,c8,he8,-⟩ := hv.own.shape;obtain ⟨n8,hn8⟩ : ∃ n8,(l.take j).length=n8:=⟨_,rfl⟩;rw [hn8] at he8;subst he8;have e3:=HV5.out.x.c0;have HO5:=hDx HV5.out.own;have HLen:Hid (((l.take j).length:Int)≤1000000):=hDx (by rw [List.length_take]; have:=HLn.out; omega);have HS5:Hid (rb+3≤w5.heap.size):=hDx HV5.out.size;have HSn:=hDx hsn;have HW5:=hDx hw5;have HNb:=hDx hnb;have hjn:(j:Int)<n:=by omega
    clear hv hA hat hsn hrg hk hw5 hnb hblk5 hb5 hb hn8
    go_upto_region 5 with fail
    rw [HW5.out,HNb.out];clear x0 x1 x2
    go_wp2_with (refine wpList_add_cell refT (rb+3) _ (l.take j) ⟨x,s,t⟩ rfl rfl rfl HO5.out HLen.out HS5.out ?_)
    intro v' w' hown hbel hlw';obtain ⟨a9,c9,he9,-⟩ := hown.shape;obtain ⟨n9,hn9⟩ : ∃ n9,(l.take j++[(⟨x,s,t⟩ : Cel)]).length=n9:=⟨_,rfl⟩;rw [hn9] at he9;subst he9;have hbw:Below (rb+3) w5 w':=hbel w5 (Below.refl _ _);have HV':Hid (ToldI rb (.slice (some ⟨b,o,none⟩) n c) (.slice a9 n9 c9) wr0 (l.take (j+1)) w (w'.setCell ⟨rb+2,0,none⟩ (.slice a9 n9 c9))):=hDx (HV5.out.next hbw (by rw [HSn.out]; exact hown));have hx:=HV5.out.x.below hbw (by omega);have x0:=hx.c0;have f0:=hx.fr 0;clear hown hbel hbw hx e0 e1 e2 e3 hn9
    go_wp2
    go_roundw
    case rel=>exact ⟨j+1,by go_num,by omega,hDx ⟨_,HV'.out⟩⟩
    case measure=>simp [intOf]; omega
  · obtain rfl:j=n:=by omega
    have hd:decide ((j:Int)<(j:Int))=false:=by simp
    obtain ⟨v,hv⟩ := HF.out;have hfin:l.take j=l:=List.take_of_length_le (Nat.le_of_eq HLn.out.symm);rw [hfin] at hv;obtain ⟨a9,c9,he9,-⟩ := hv.own.shape;obtain ⟨n9,hn9⟩ : ∃ n9,l.length=n9:=⟨_,rfl⟩;rw [hn9] at he9;subst he9;have HV:=hDx hv;have y0:=hv.x.c0;have y1:=hv.x.c1;have x0:=hv.q.c0;have x1:=hv.q.c1;have f0:=hv.q.fr 0;have f1:=hv.q.fr 1;clear hv hfin hn9
    go_wp2_with fail
    refine bodyPost_ret (v:=.agg #[.slice a9 n9 c9,.bool wr0]) (by rw [results_cell (fn:=Tryd.f26) rfl]; go_simp <;> rfl) rfl ?_;rw [← HP.out];exact ⟨_,rfl,(HV.out.own.set2 (by omega:rb+1<rb+3) _ _).weaken (by omega),below_set2 HV.out.below (by omega)⟩
set_option maxRecDepth 100000 in
set_option maxHeartbeats 8000000 in
theorem any_any (a:Option Addr) (n c:Nat) (wr0:Bool) (l:List Cel) (w:World) (hI:CelsIn .i32 a n l w) (hnil:a=none→c=0) (hcap:n≤c) (hmx:(c:Int)≤9223372036854775807) :
    Calls Tryd.prog 24 #[.slice a n c,.bool wr0] w (RowPost .i32 118 w.heap.size (l.take 40) wr0 w):=by
 obtain ⟨rb,hrb⟩ : ∃ rb,w.heap.size=rb:=⟨_,rfl⟩;rw [hrb];obtain ⟨P,hP⟩ : ∃ P,RowPost .i32 118 rb (l.take 40) wr0 w=P:=⟨_,rfl⟩;rw [hP];have HP:=hDx hP;have hln:=hI.len;obtain ⟨M,hM⟩ : ∃ M:Nat,min (n:Int) 40=(M:Int):=⟨min n 40,by omega⟩;have hMn:M≤n:=by omega
 have hMc:(M:Int)≤c:=by omega
 have hlt:l.take M=l.take 40:=by
  rcases Nat.le_total l.length 40 with h | h
  · rw [List.take_of_length_le (by omega),List.take_of_length_le h]
  · congr 1; omega
 have hM40:M≤40:=by omega
 obtain ⟨w1,hw1⟩ : ∃ w1,w.alloc (.cells #[.slice none 0 0,.bool false] 57)=w1:=⟨_,rfl⟩;have hb1:Below rb w w1:=by rw [← hw1,← hrb]; exact (Below.refl _ _).alloc (Nat.le_refl _) _
 have hr1:RoB 57 rb (.slice none 0 0) false w1:=by rw [← hw1,← hrb]; exact RoB.new _ _ _ _
 have hs1:rb+1≤w1.heap.size:=hr1.lt;have HO2:=hDx (OwnC.lit .i32 118 w1 (rb+1) hs1);have hb12:Below w1.heap.size w1 (w1.alloc (.cells #[] 118)):=(Below.refl _ _).alloc (Nat.le_refl _) _;have HI2:Hid (CelsIn .i32 a M (l.take 40) (w1.alloc (.cells #[] 118))):=hDx (by
  have h:=((hI.belowAll (by rw [hrb]; exact hb1)).belowAll hb12).take hMn;rw [hlt] at h;exact h)
 have HLz:Hid (((l.take 40).length:Int)≤1000000):=hDx (by rw [List.length_take]; omega);have HNil:=hDx hnil;have HB1:=hDx hb1;have HR1:=hDx hr1;have HW1:=hDx hw1;have HRb:=hDx hrb;have HS1:=hDx hs1;have HS2:Hid (rb+1≤(w1.alloc (.cells #[] 118)).heap.size):=hDx (by simp; omega);clear hP hI hln hnil hlt hb1 hr1 hw1 hrb hs1 hb12
 go_enter Tryd.func24,Tryd.ntmps24
 go_upto_region 1 with fail
 rw [HW1.out,HRb.out]
 go_wp2_with (at_builtin; refine wpList_append_cells rowT rfl _ _ rfl rfl (rb+1) _ [] a M c (l.take 40) rfl rfl HO2.out HI2.out HNil.out (by simp) HLz.out HS2.out ?_)
 intro v5 w5 hown hgr;have hb5:Below (rb+1) w1 w5:=below_grew ((Below.refl _ _).alloc HS1.out _) hgr (fun q hq=>by have:=(HO2.out.ownBlock q hq).1; omega) HS2.out;obtain ⟨a9,c9,he9,-⟩ := hown.shape;obtain ⟨n9,hn9⟩ : ∃ n9,(l.take 40).length=n9:=⟨_,rfl⟩;rw [hn9] at he9;subst he9;have hq:=HR1.out.below hb5 (Nat.lt_succ_self rb);have HO9:Hid (OwnC .i32 118 (rb+1) (.slice a9 n9 c9) (l.take 40) w5):=hDx hown;have HB9:Hid (Below rb w w5):=hDx (HB1.out.trans (hb5.mono (by omega)));have x0:=hq.c0;have x1:=hq.c1;have f0:=hq.fr 0;have f1:=hq.fr 1;clear hown hgr hb5 hn9 hq
 go_wp2_with fail
 refine bodyPost_ret (v:=.agg #[.slice a9 n9 c9,.bool wr0]) (by rw [results_cell (fn:=Tryd.f24) rfl]; go_simp <;> rfl) rfl ?_;rw [← HP.out];exact ⟨_,rfl,(HO9.out.set2 (Nat.lt_succ_self rb) _ _).weaken (by omega),below_set2 HB9.out (Nat.le_refl _)⟩
end Go.Proofs.YtagolklnjhpbdaaDoor.K
