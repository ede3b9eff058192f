import Derived.Test.YtagolklnjhpbdaaDoorMerged0
import Derived.Test.YtagolklnjhpbdaaDoorNCutS
import Derived.Test.YtagolklnjhpbdaaDoorMerged28
import Derived.Test.YtagolklnjhpbdaaDoorMerged7
import Derived.Test.YtagolklnjhpbdaaDoorMerged16
namespace Go.Proofs.YtagolklnjhpbdaaDoor.K
open Go.Proofs.YtagolklnjhpbdaaDoor.R (agree_frame mem_slots slot_same slotsP_all wp_region_due)
open Go.RowKit Go.Proofs.YtagolklnjhpbdaaDoor.I
def TolPostN (l:List (Int × Int)) (w:World) (e:Ending) (w':World):Prop:=∃ v,e=.returned v∧OwnP .i64 85 w.heap.size v l w'∧Below w.heap.size w w'
set_option maxRecDepth 100000 in
set_option maxHeartbeats 4000000 in
theorem told14_any (a:Option Addr) (n c:Nat) (l:List (Int × Int)) (w:World) (h:PairsIn .i32 a n c l w) (hr:RngG l) (hn:(n:Int)≤1000000) :
    Calls Tryd.prog 25 #[.slice a n c] w (TolPostN l w):=by
 obtain ⟨P,hP⟩ : ∃ P,TolPostN l w=P:=⟨_,rfl⟩;rw [hP];have HP:=hDx hP;have HL:=hDx h.len;have H1:=hDx h;have HR:=hDx hr;obtain ⟨rb,hrb⟩ : ∃ rb,w.heap.size=rb:=⟨_,rfl⟩;have HRb:=hDx hrb;clear hP h hrb hr
 go_enter Tryd.func25,Tryd.ntmps25
 go_wp2_with fail
 go_loopw [3,8] (fun s i wr=>∃ j:Nat,i=.int .i64 (j:Int)∧j≤n∧Hid (OwnP .i64 85 rb s (l.take j) wr∧Below rb w wr∧rb≤wr.heap.size)) (fun _ i _=>n - (intOf i).toNat)
 case atStart=>exact ⟨0,rfl,Nat.zero_le _,hDx ⟨OwnP.nil _ _ _ _,Below.refl _ _,by rw [HRb.out]; exact Nat.le_refl _⟩⟩
 case round =>
  obtain ⟨j,rfl,hj,HF⟩ := hrel;by_cases hlt:j<n
  · have hd:decide (j<n)=true:=decide_eq_true hlt;have hjI:(j:Int)<n:=by omega
    have hjl:j<l.length:=by rw [← HL.out]; exact hlt
    obtain ⟨b,off,rfl,hb,hA⟩ := H1.out.at_.resolve_left (by intro e; rw [e] at hjl; simp at hjl);have htk:=List.take_succ_eq_append_getElem hjl;have hrg:=HR.out l[j] (List.getElem_mem hjl);obtain ⟨⟨z,sty⟩,hg⟩ : ∃ g,l[j]=g:=⟨_,rfl⟩;rw [hg] at htk hrg;have hk:=hA j (z,sty) (by rw [List.getElem?_eq_getElem hjl,hg]);have hbb:Below w.heap.size w wr:=by rw [HRb.out]; exact HF.out.2.1
    have k0:=(hbb.cell (p:=⟨b,off+j*2,none⟩) hb).trans hk.1;have k1:=(hbb.cell (p:=⟨b,off+j*2+1,none⟩) hb).trans hk.2;simp only at k0 k1;have hwr:IntKind.i64.wrap z=z:=by rw [IntKind.wrap_i64]; have h1:=hrg.1; have h2:=hrg.2; simp only at h1 h2; omega
    have HTk:=hDx htk;have HLj:Hid ((l.take j).length≤1000000):=hDx (by rw [List.length_take]; omega);obtain ⟨w4,hw4⟩ : ∃ w4,(wr.alloc (.cells #[.int .i32 z,.int .i64 sty] 111)).alloc (.cells #[.int .i64 z,.int .i64 sty] 85)=w4:=⟨_,rfl⟩;have hb4:Below wr.heap.size wr w4:=by rw [← hw4]; exact ((Below.refl _ _).alloc (Nat.le_refl _) _).alloc (by simp) _
    have hn4:w4.heap[wr.heap.size+1]?=some (.cells #[.int .i64 z,.int .i64 sty] 85 (0,0)):=by
     have h:=World.alloc_heap_new (wr.alloc (.cells #[.int .i32 z,.int .i64 sty] 111)) (.cells #[.int .i64 z,.int .i64 sty] 85);rw [World.size_alloc,hw4] at h;exact h
    have m0:w4.cell? ⟨wr.heap.size+1,0,none⟩=some (.int .i64 z):=by rw [cell_block hn4]; rfl
    have m1:w4.cell? ⟨wr.heap.size+1,1,none⟩=some (.int .i64 sty):=by rw [cell_block hn4]; rfl
    have HM:=hDx (And.intro m0 m1);have HB4:=hDx hb4;have HW4:=hDx hw4;clear hA hjl htk hrg hg hk hbb hb hb4 hn4 m0 m1 hw4
    go_wp2_with (at_builtin; rw [HW4.out]; refine wpList_append_pair lineT rfl _ _ rfl rfl rb _ (l.take j) (z,sty) (wr.heap.size+1) rfl rfl (HF.out.1.belowAll HB4.out) HM.out.1 HM.out.2 (by have:=HLj.out; omega) (Nat.le_trans HF.out.2.2 HB4.out.size) ?_)
    intro v' w5 hown' hgr;rw [← HTk.out] at hown';have HE:Hid (OwnP .i64 85 rb v' (l.take (j+1)) w5∧Below rb w w5∧rb≤w5.heap.size):=hDx ⟨hown',(HF.out.2.1.trans (HB4.out.mono HF.out.2.2)).grown hgr (Nat.le_trans HF.out.2.2 HB4.out.size) (fun q hq=>(HF.out.1.ownBlock q hq).1),Nat.le_trans (Nat.le_trans HF.out.2.2 HB4.out.size) hgr.size⟩;clear hown' hgr k0 k1
    go_wp2_with fail
    go_roundw
    case rel=>exact ⟨j+1,by go_num,by omega,HE⟩
    case measure=>simp [intOf]; omega
  · obtain rfl:j=n:=by omega
    have hd:decide (j<j)=false:=by simp
    have hta:l.take j=l:=by rw [HL.out]; exact List.take_length
    have hend:Hid (P (.returned u3) wr):=hDx (by
     rw [← HP.out];have h:=HF.out;rw [hta] at h;refine ⟨_,rfl,?_⟩;rw [HRb.out];exact ⟨h.1,h.2.1⟩)
    clear hta HF hlt
    go_wp2_with fail
    exact hend.out
structure GatT (base:Nat) (v:Value) (rs:List Ro) (w:World):Prop where
 ex:∃ us,OwnV 63 base v us w∧RowsV .i64 us rs w∧∀ u ∈ us,∀ b o,u.a=some ⟨b,o,none⟩→∃ cs,w.heap[b]?=some (.cells cs 87 (0,0))
theorem GatT.nil (base:Nat) (w:World):GatT base (.slice none 0 0) [] w:=⟨[],OwnV.nil _ _ _,RowsV.nil _ _,fun u hu=>by cases hu⟩
theorem GatT.mv {base:Nat} {v:Value} {rs:List Ro} {w w':World} (h:GatT base v rs w) (hs:w.heap.size≤w'.heap.size) (hk:∀ (q:Nat) (cs:Array Value),(w.heap[q]?=some (Obj.cells cs 63 (0,0))∨w.heap[q]?=some (Obj.cells cs 87 (0,0)))→w'.heap[q]?=w.heap[q]?):GatT base v rs w':=by
 obtain ⟨us,h1,h2,h3⟩ := h;refine ⟨us,⟨h1.1,?_⟩,⟨h2.1,fun i u r hu hr=>(h2.2 i u r hu hr).moved hs (fun b o e _=>?_)⟩,fun u hu b o e=>?_⟩
 · rcases h1.2 with h0 | ⟨g',c',cur,he,hbase,hgb,hc,hmx,hsz,ht⟩
   · exact .inl h0
   · exact .inr ⟨g',c',cur,he,hbase,(hk g' _ (.inl hgb)).trans hgb,hc,hmx,hsz,ht⟩
 · obtain ⟨cs,h4⟩ := h3 u (List.mem_of_getElem? hu) b o e;exact hk b cs (.inr h4)
 · obtain ⟨cs,h4⟩ := h3 u hu b o e;exact ⟨cs,(hk b cs (.inr h4)).trans h4⟩
theorem GatT.below {base:Nat} {v:Value} {rs:List Ro} {w w':World} (h:GatT base v rs w) (hb:Below w.heap.size w w'):GatT base v rs w' :=
 h.mv hb.size (fun q cs hq=>by rcases hq with hq | hq <;> exact hb.block q (gSx.1 hq).1)
theorem GatT.own {base:Nat} {v:Value} {rs:List Ro} {w:World} (h:GatT base v rs w):∀ q,v.ownBlock=some q→base≤q∧q<w.heap.size:=fun q hq=>by
 obtain ⟨us,h1,-⟩ := h.ex;exact h1.ownBlock q hq
theorem GatT.shape {base:Nat} {v:Value} {rs:List Ro} {w:World} (h:GatT base v rs w):∃ a c,v=.slice a rs.length c:=by
 obtain ⟨us,h1,h2,-⟩ := h.ex;obtain ⟨a,c,e,-⟩ := h1.shape;rw [h2.1] at e;exact ⟨a,c,e⟩
theorem GatT.weaken {base base':Nat} {v:Value} {rs:List Ro} {w:World} (h:GatT base v rs w) (hb:base'≤base):GatT base' v rs w:=by
 obtain ⟨us,h1,h2,h3⟩ := h;exact ⟨us,h1.weaken hb,h2,h3⟩
theorem GatT.rowsL {base n c:Nat} {a:Option Addr} {rs:List Ro} {w:World} (h:GatT base (.slice a n c) rs w):RowsL .i64 [] a n c rs w:=by
 obtain ⟨us,h1,h2,-⟩ := h;obtain ⟨a',c',e,-⟩ := h1.shape;cases e;exact h1.rowsL h2 (fun u _ _ b o _ hb=>by cases hb) (fun p hp=>by cases hp)
theorem GatT.wrote {base p:Nat} {v:Value} {rs:List Ro} {w w':World} (h:GatT base v rs w) (hg:w.grownBy w' (some p)) {cs:Array Value} {T:TypeId} (hp:w.heap[p]?=some (.cells cs T (0,0))) (h1:T≠63) (h2:T≠87):GatT base v rs w' :=
 h.mv hg.size (fun q cs2 hq=>hg.block q (by rcases hq with hq | hq <;> exact (gSx.1 hq).1) (fun e=>by
  cases e;rcases hq with hq | hq
  · rw [hp] at hq; injection hq with hq; injection hq with a b; exact h1 b
  · rw [hp] at hq; injection hq with hq; injection hq with a b; exact h2 b))
theorem wp_append_rowT {bytes:Nat} (hI:RvT 28 63 bytes) {o:Oper} {z:Act} {w:World} {K:Act→World→Prop} {Q:Exit→Act→World→Prop} (s x:Operand)
    (ho:o.op=.call { callee:=.builtin .append,args:=#[s,x],argTypes:=#[28,28] }) (hty:o.type=28)
    (base:Nat) (v:Value) (rs:List Ro) (p:Nat) (a:Option Addr) (n c:Nat) (b:Bool) (r:Ro) (hs:z.eval s=v) (hxv:z.eval x=.slice (some ⟨p,0,none⟩) 1 1) (hG:GatT base v rs w)
    (hp:w.heap[p]?=some (.cells #[.slice a n c,.bool b] 63 (0,0))) (hr:RowV .i64 (.agg #[.slice a n c,.bool b]) r w) (hty0:∀ b' o',a=some ⟨b',o',none⟩→∃ cs,w.heap[b']?=some (.cells cs 87 (0,0)))
    (h1:rs.length≤1000) (hbase:base≤w.heap.size)
    (hK:∀ v' w',GatT base v' (rs++[r]) w'→w.grownBy w' v.ownBlock→K (z.put o.dst v') w'):o.wp Tryd.prog z w K Q:=by
 obtain ⟨us,g2,g3,g4⟩ := hG.ex;have hin:RvsIn (some ⟨p,0,none⟩) 1 1 [⟨a,n,c,b⟩] w:=⟨rfl,Nat.le_refl _,by decide,.inr ⟨p,0,rfl,(gSx.1 hp).1,fun i u hu=>by
  match i,hu with
  | 0,hu=>cases hu; exact ⟨by simp [World.cell?,hp],by simp [World.cell?,hp]⟩
  | i+1,hu=>simp at hu⟩⟩
 obtain ⟨v',w',hrun,k1,k2⟩ := run_append_rows hI base v us (some ⟨p,0,none⟩) 1 1 [⟨a,n,c,b⟩] w g2 hin (fun e=>by cases e) (by have:=g3.1; omega) (by simp) hbase;have hs2:=k2.grown.size;have hne:∀ b':Nat,(∃ cs:Array Value,w.heap[b']?=some (Obj.cells cs 87 (0,0)))→∀ q,v.ownBlock=some q→b'≠q:=fun b' ⟨cs,h⟩ q hq e=>by
  obtain ⟨cs2,h2,-⟩ := U.own_type g2 hq;rw [← e,h] at h2;injection h2 with h2
  injection h2 with h3 h4
  exact absurd h4 (by decide)
 have hmv:∀ b':Nat,(∃ cs:Array Value,w.heap[b']?=some (Obj.cells cs 87 (0,0)))→w'.heap[b']?=w.heap[b']?:=fun b' h=>by
  have h':=h;obtain ⟨cs,h1⟩ := h';exact k2.grown.block b' (gSx.1 h1).1 (fun e=>hne b' h b' e.symm rfl)
 have hG':GatT base v' (rs++[r]) w':=by
  refine ⟨us++[⟨a,n,c,b⟩],k1,RowsV.append ⟨g3.1,fun i d q hd hq=>(g3.2 i d q hd hq).moved hs2 (fun b' o' e _=>hmv b' (g4 d (List.mem_of_getElem? hd) b' o' e))⟩ ⟨rfl,fun i d q hd hq=>?_⟩,fun d hd b' o' e=>?_⟩
  · match i,hd,hq with
    | 0,hd,hq=>cases hd; cases hq; exact RowV.moved (u:=⟨a,n,c,b⟩) hr hs2 (fun b' o' e _=>hmv b' (hty0 b' o' e))
    | i+1,hd,_=>simp at hd
  · rcases List.mem_append.1 hd with hd | hd
    · have h:=g4 d hd b' o' e;have h2:=hmv b' h;obtain ⟨cs,h1⟩ := h;exact ⟨cs,h2.trans h1⟩
    · obtain rfl:d=⟨a,n,c,b⟩ := by simpa using hd
      have h:=hty0 b' o' e;have h2:=hmv b' h;obtain ⟨cs,h1⟩ := h;exact ⟨cs,h2.trans h1⟩
 unfold Oper.wp execOp;simp only [ho,hty,resolve,invoke,builtin,Sem.run_bind,Sem.run_pure,Result.andThen_ok,List.map_toArray,List.map_cons,List.map_nil,hs,hxv,hrun];exact hK v' w' hG' k2.grown
structure SnT (xa:Option Addr) (xn xc:Nat) (ya:Option Addr) (yn yc:Nat) (s:Sn) (w:World):Prop where
 g:GatT 0 (.slice xa xn xc) s.R w
 q:OwnP .i64 85 0 (.slice ya yn yc) s.B w
theorem SnT.snIn {xa:Option Addr} {xn xc:Nat} {ya:Option Addr} {yn yc:Nat} {s:Sn} {w:World} (h:SnT xa xn xc ya yn yc s w):SnIn .i64 xa xn xc ya yn yc s w:=by
 obtain ⟨a,c,e,h3,-,h4⟩ := h.q.shape;injection e with e1 e2 e3
 subst e1 e2 e3;exact ⟨h.g.rowsL,h3,h4⟩
theorem SnT.below {xa:Option Addr} {xn xc:Nat} {ya:Option Addr} {yn yc:Nat} {s:Sn} {w w':World} (h:SnT xa xn xc ya yn yc s w) (hb:Below w.heap.size w w'):SnT xa xn xc ya yn yc s w':=⟨h.g.below hb,h.q.belowAll hb⟩
theorem SnT.wrote {xa:Option Addr} {xn xc:Nat} {ya:Option Addr} {yn yc p:Nat} {s:Sn} {w w':World} (h:SnT xa xn xc ya yn yc s w) (hg:w.grownBy w' (some p)) {cs:Array Value} (hp:w.heap[p]?=some (.cells cs 32 (0,0))):SnT xa xn xc ya yn yc s w' :=
 ⟨h.g.wrote hg hp (by decide) (by decide),ownP_of h.q hg (fun q e=>.inr (by cases e; exact ⟨_,32,hp,by decide⟩))⟩
def TldPost (s:Sn) (w:World) (e:Ending) (w':World):Prop:=∃ xa xn xc ya yn yc,e=.returned (.agg (snA s xa xn xc ya yn yc))∧SnT xa xn xc ya yn yc s w'∧Below w.heap.size w w'
structure TdF (wg:World) (bs:Nat) (kk W h x y:Int) (t:ByteArray) (n c:Int) (B:List (Int × Int)) (xb:Nat) (ya:Option Addr) (yn yc:Nat) (u:World):Prop where
 b:Below bs wg u
 lo:bs≤xb
 x:u.heap[xb]?=some (.cells #[.int .i64 kk,.int .i64 W,.int .i64 h,.int .i64 x,.int .i64 y,.string t,.slice none 0 0,.int .i64 n,.int .i64 c,.slice ya yn yc] 32 (0,0))
 o:OwnP .i64 85 bs (.slice ya yn yc) B u
theorem TdF.mk9 {wg v v':World} {bs:Nat} {kk W h x y:Int} {t:ByteArray} {n c:Int} {B:List (Int × Int)} {xb:Nat} {ya:Option Addr} {yn yc:Nat} (hb:Below wg.heap.size wg v) (hbs:wg.heap.size=bs) (hlo:bs≤xb) (hx:v.heap[xb]?=some (.cells #[.int .i64 0,.int .i64 0,.int .i64 0,.int .i64 0,.int .i64 0,.string ⟨#[]⟩,.slice none 0 0,.int .i64 0,.int .i64 0,.slice none 0 0] 32 (0,0))) (ho:OwnP .i64 85 bs (.slice ya yn yc) B v) (gg:v.grownBy v' (some xb)) (e:v'=((((((((((v.setCell ⟨xb,0,none⟩ (.int .i64 kk)).setCell ⟨xb,1,none⟩ (.int .i64 W)).setCell ⟨xb,2,none⟩ (.int .i64 h)).setCell ⟨xb,3,none⟩ (.int .i64 x)).setCell ⟨xb,4,none⟩ (.int .i64 y)).setCell ⟨xb,5,none⟩ (.string t)).setCell ⟨xb,6,none⟩ (.slice none 0 0)).setCell ⟨xb,7,none⟩ (.int .i64 n)).setCell ⟨xb,8,none⟩ (.int .i64 c)).setCell ⟨xb,9,none⟩ (.slice ya yn yc)):=by rfl):TdF wg bs kk W h x y t n c B xb ya yn yc v':=by
 have hs:=hb.size;have hl:=(gSx.1 hx).1;refine ⟨by rw [← hbs]; exact hb.trans ((Below.refl wg.heap.size v).grown gg hs (fun q e=>by have:=Option.some.inj e; omega)),hlo,?_,ownP_of ho gg (fun q hq=>.inr (by cases hq; exact ⟨_,32,hx,by decide⟩))⟩;subst e;simp [World.setCell,Array.getElem?_modify,hx]
structure TdI (rb xb bs:Nat) (cs:Array Value) (v:Value) (rs:List Ro) (wS u:World):Prop where
 k:KeepB [xb] wS u
 x:u.heap[xb]?=some (.cells cs 32 (0,0))
 g:GatT bs v rs u
 m:bs≤u.heap.size
 l:rb+1<xb∧xb<bs
 z:wS.heap.size=bs
section
variable {rb xb bs:Nat} {cs cs':Array Value} {v v':Value} {rs:List Ro} {r:Ro} {wS u u':World}
theorem TdI.below (h:TdI rb xb bs cs v rs wS u) (hb:Below u.heap.size u u'):TdI rb xb bs cs v rs wS u' :=
 ⟨h.k.trans (KeepB.of_below hb),(hb.block xb (gSx.1 h.x).1).trans h.x,h.g.below hb,Nat.le_trans h.m hb.size,h.l,h.z⟩
theorem TdI.grows (h:TdI rb xb bs cs v rs wS u) (hg:GatT bs v' (rs++[r]) u') (hgr:u.grownBy u' v.ownBlock):TdI rb xb bs cs v' (rs++[r]) wS u':=by
 have hs:=hgr.size;have hl:=h.l;have hz:=h.z;refine ⟨⟨hgr.os.trans h.k.os,hgr.tape.trans h.k.tape,hgr.output.trans h.k.output,Nat.le_trans h.k.size hs,fun i hi hn=>?_⟩,(hgr.block xb (gSx.1 h.x).1 (fun e=>by have:=(h.g.own xb e.symm).1; omega)).trans h.x,hg,Nat.le_trans h.m hs,h.l,h.z⟩;exact (hgr.block i (Nat.lt_of_lt_of_le hi h.k.size) (fun e=>by have:=(h.g.own i e.symm).1; omega)).trans (h.k.block i hi hn)
theorem TdI.set (h:TdI rb xb bs cs v rs wS u) (hz:cs.setIfInBounds 6 v=cs'):TdI rb xb bs cs' v rs wS (u.setCell ⟨xb,6,none⟩ v):=by
 have hk:KeepB [xb] u (u.setCell ⟨xb,6,none⟩ v):=KeepB.setCell (q:=xb) (o:=6) _;have hl:=h.l;refine ⟨h.k.trans hk,?_,h.g.wrote (grown_set u xb 6 v) h.x (by decide) (by decide),by rw [World.size_setCell]; exact h.m,h.l,h.z⟩;have hx:=h.x;unfold World.setCell;simp only [Array.getElem?_modify,hx];simp [← hz]
end
def TrS (rb xb bs j:Nat) (C:Value→Array Value) (v0:Value) (rs:List Ro) (r:Ro) (rb0:Bool) (wS w5:World):Nat→(Nat→Value)→World→Prop
  | 0,_,u=>TdI rb xb bs (C v0) v0 rs wS u∧Below w5.heap.size w5 u
  | 1,f,u=>(TdI rb xb bs (C v0) v0 rs wS u∧Below w5.heap.size w5 u)∧∃ a c,f 36=.agg #[.slice a r.l.length c,.bool rb0]∧RowV .i64 (Rv.val ⟨a,r.l.length,c,rb0⟩) r u∧(∀ b o,a=some ⟨b,o,none⟩→∃ cs,u.heap[b]?=some (.cells cs 87 (0,0)))
  | 2,f,u=>(TdI rb xb bs (C v0) v0 rs wS u∧Below w5.heap.size w5 u)∧∃ q,f 37=.slice (some ⟨q,0,none⟩) 1 1∧∃ a n c b,RoB 63 q (.slice a n c) b u∧RowV .i64 (Rv.val ⟨a,n,c,b⟩) r u∧(∀ b9 o,a=some ⟨b9,o,none⟩→∃ cs,u.heap[b9]?=some (.cells cs 87 (0,0)))
  | 3,f,u=>∃ v,f 38=v∧TdI rb xb bs (C v0) v (rs++[r]) wS u
  | _,_,u=>∃ a c,TdI rb xb bs (C (.slice a (j+1) c)) (.slice a (j+1) c) (rs++[r]) wS u
section
variable {rb xb bs j:Nat} {C:Value→Array Value} {v0:Value} {rs:List Ro} {r:Ro} {rb0:Bool} {wS w5 u:World} {k:Nat} {f f2:Nat→Value}
theorem TrS.base (hk:k≤2) (h:TrS rb xb bs j C v0 rs r rb0 wS w5 k f u):TdI rb xb bs (C v0) v0 rs wS u∧Below w5.heap.size w5 u:=by
 match k,hk,h with
 | 0,_,h=>exact h
 | 1,_,h=>exact h.1
 | 2,_,h=>exact h.1
theorem TrS.cong (e1:k=1→f 36=f2 36) (e2:k=2→f 37=f2 37) (e3:k=3→f 38=f2 38) (h:TrS rb xb bs j C v0 rs r rb0 wS w5 k f u):TrS rb xb bs j C v0 rs r rb0 wS w5 k f2 u:=by
 match k,h,e1,e2,e3 with
 | 0,h,_,_,_=>exact h
 | 1,⟨h,a,c,e,h2⟩,e1,_,_=>exact ⟨h,a,c,by rw [← e1 rfl]; exact e,h2⟩
 | 2,⟨h,q,e,h2⟩,_,e2,_=>exact ⟨h,q,by rw [← e2 rfl]; exact e,h2⟩
 | 3,⟨v,e,h⟩,_,_,e3=>exact ⟨v,by rw [← e3 rfl]; exact e,h⟩
 | _+4,h,_,_,_=>exact h
end
def csT (kk W h x y:Int) (t:ByteArray) (n c:Int) (vb:Value) (v:Value):Array Value:=#[.int .i64 kk,.int .i64 W,.int .i64 h,.int .i64 x,.int .i64 y,.string t,v,.int .i64 n,.int .i64 c,vb]
def TgS (wg:World) (bs:Nat) (kk W h x y:Int) (t:ByteArray) (n c:Int) (B:List (Int × Int)):Nat→(Nat→Value)→World→Prop
  | 0,_,u=>Below wg.heap.size wg u
  | 1,f,u=>Below wg.heap.size wg u∧∃ xb,f 3=.pointer (some ⟨xb,0,none⟩)∧bs≤xb∧u.heap[xb]?=some (.cells #[.int .i64 0,.int .i64 0,.int .i64 0,.int .i64 0,.int .i64 0,.string ⟨#[]⟩,.slice none 0 0,.int .i64 0,.int .i64 0,.slice none 0 0] 32 (0,0))
  | _,f,u=>∃ xb ya yn yc,f 3=.pointer (some ⟨xb,0,none⟩)∧TdF wg bs kk W h x y t n c B xb ya yn yc u
section
variable {wg:World} {bs:Nat} {kk W h x y:Int} {t:ByteArray} {n c:Int} {B:List (Int × Int)} {i:Nat} {f f2:Nat→Value} {u u':World}
theorem TgS.base (hi:i≤1) (hh:TgS wg bs kk W h x y t n c B i f u):Below wg.heap.size wg u:=by
 match i,hi,hh with
 | 0,_,hh=>exact hh
 | 1,_,hh=>exact hh.1
theorem TgS.more (hi:i≤1) (hh:TgS wg bs kk W h x y t n c B i f u) (hb:Below u.heap.size u u'):TgS wg bs kk W h x y t n c B i f u':=by
 match i,hi,hh with
 | 0,_,hh=>exact Below.trans hh (hb.mono (Below.size hh))
 | 1,_,⟨h1,xb,h2,h3,h4⟩=>exact ⟨h1.trans (hb.mono h1.size),xb,h2,h3,(hb.block xb (gSx.1 h4).1).trans h4⟩
theorem TgS.cong (e:i=1→f 3=f2 3) (e2:2≤i→f 3=f2 3) (hh:TgS wg bs kk W h x y t n c B i f u):TgS wg bs kk W h x y t n c B i f2 u:=by
 match i,hh,e,e2 with
 | 0,hh,_,_=>exact hh
 | 1,⟨h1,xb,e1,h2⟩,e,_=>exact ⟨h1,xb,by rw [← e rfl]; exact e1,h2⟩
 | _+2,⟨xb,ya,yn,yc,e1,h1⟩,_,e2=>exact ⟨xb,ya,yn,yc,by rw [← e2 (by omega)]; exact e1,h1⟩
end
def GlK (u u2:World):Prop:=∀ (q:Nat) (cs:Array Value),u.heap[q]?=some (Obj.cells cs 85 (0,0))→u2.heap[q]?=u.heap[q]?
theorem ownP_mv {rk:IntKind} {T:TypeId} {base:Nat} {v:Value} {l:List (Int × Int)} {w w':World} (h:OwnP rk T base v l w) (hv:∀ q,v.ownBlock=some q→w'.heap[q]?=w.heap[q]?):OwnP rk T base v l w':=by
 unfold OwnP at h ⊢;refine ⟨h.1,?_⟩;rcases h.2 with h0 | ⟨g',c',cur,he,hbase,hgb,hc,hmx,hsz,ht⟩
 · exact .inl h0
 · exact .inr ⟨g',c',cur,he,hbase,(hv g' (by rw [he]; rfl)).trans hgb,hc,hmx,hsz,ht⟩
def TdOk (rb bs:Nat) (kk W h x y:Int) (t:ByteArray) (n c:Int) (ga:Option Addr) (gn gc:Nat) (B:List (Int × Int)):Nat→Value→World→Prop
  | 0,u,_=>u=.pointer (some ⟨rb,0,none⟩)
  | 1,u,_=>u=.int .i64 kk
  | 2,u,_=>u=.pointer (some ⟨rb,1,none⟩)
  | 3,u,_=>u=.int .i64 W
  | 4,u,_=>u=.pointer (some ⟨rb,2,none⟩)
  | 5,u,_=>u=.int .i64 h
  | 6,u,_=>u=.pointer (some ⟨rb,3,none⟩)
  | 7,u,_=>u=.int .i64 x
  | 8,u,_=>u=.pointer (some ⟨rb,4,none⟩)
  | 9,u,_=>u=.int .i64 y
  | 10,u,_=>u=.pointer (some ⟨rb,5,none⟩)
  | 11,u,_=>u=.string t
  | 12,u,_=>u=.pointer (some ⟨rb,7,none⟩)
  | 13,u,_=>u=.int .i64 n
  | 14,u,_=>u=.pointer (some ⟨rb,8,none⟩)
  | 15,u,_=>u=.int .i64 c
  | 16,u,_=>u=.pointer (some ⟨rb,9,none⟩)
  | 17,u,_=>u=.slice ga gn gc
  | 18,u,w=>∃ ya yn yc,u=.slice ya yn yc∧OwnP .i64 85 bs (.slice ya yn yc) B w
  | 19,u,w=>∃ ya yn yc,u=.agg #[.int .i64 kk,.int .i64 W,.int .i64 h,.int .i64 x,.int .i64 y,.string t,.slice none 0 0,.int .i64 n,.int .i64 c,.slice ya yn yc]∧OwnP .i64 85 bs (.slice ya yn yc) B w
  | 20,_,_=>True
  | 21,_,_=>True
  | _,_,_=>True
def TrOk (oa:Option Addr) (oc j xb:Nat) (xa:Option Addr) (xn xc:Nat) (rb0:Bool):Nat→Value→World→Prop
  | 0,u,_=>u=.pointer (some ⟨xb,6,none⟩)
  | 1,u,_=>u=.slice oa j oc
  | 2,u,_=>u=.agg #[.slice xa xn xc,.bool rb0]
  | 3,_,_=>True
  | 4,_,_=>True
  | 5,_,_=>True
  | 6,u,_=>u=.pointer (some ⟨xb,6,none⟩)
  | 7,_,_=>True
  | _,_,_=>True
set_option maxRecDepth 100000 in
set_option maxHeartbeats 16000000 in
theorem ntold_any (s:Sn) (ra:Option Addr) (rn rc:Nat) (ga:Option Addr) (gn gc:Nat) (w:World) (hI:SnIn .i32 ra rn rc ga gn gc s w) (hB:SnB s) :
    Calls Tryd.prog 9 #[.agg (snA s ra rn rc ga gn gc)] w (TldPost s w):=by
 obtain ⟨rb,hrb⟩ : ∃ rb,w.heap.size=rb:=⟨_,rfl⟩;obtain ⟨P,hP⟩ : ∃ P,TldPost s w=P:=⟨_,rfl⟩;rw [hP];have HP:=hDx hP;have hr0:=hI.rows;have hg0:=hI.beg;have hrr:=hB.rng;have hrl:=hB.cells;have hrn1:=hB.rows;have hgr:=hB.brng;have hgn1:=hB.beg;obtain ⟨kk,W,h,x,y,t,R,n,c,B⟩ := s;unfold snA;simp only at hr0 hg0 hrr hrl hrn1 hgr hgn1 ⊢;obtain ⟨wg,hwg⟩ : ∃ w1,(w.alloc (.cells #[.int .i64 kk,.int .i64 W,.int .i64 h,.int .i64 x,.int .i64 y,.string t,.slice ra rn rc,.int .i64 n,.int .i64 c,.slice ga gn gc] 25)).alloc (.cells #[.int .i64 0,.int .i64 0,.int .i64 0,.int .i64 0,.int .i64 0,.string ⟨#[]⟩,.slice none 0 0,.int .i64 0,.int .i64 0,.slice none 0 0] 32)=w1:=⟨_,rfl⟩;have b1:Below w.heap.size w (w.alloc (.cells #[.int .i64 kk,.int .i64 W,.int .i64 h,.int .i64 x,.int .i64 y,.string t,.slice ra rn rc,.int .i64 n,.int .i64 c,.slice ga gn gc] 25)):=(Below.refl _ _).alloc (Nat.le_refl _) _
 have hb1:Below rb w wg:=by rw [← hwg,← hrb]; exact b1.alloc (by rw [World.size_alloc]; omega) _
 have hz1:wg.heap[rb]?=some (.cells #[.int .i64 kk,.int .i64 W,.int .i64 h,.int .i64 x,.int .i64 y,.string t,.slice ra rn rc,.int .i64 n,.int .i64 c,.slice ga gn gc] 25 (0,0)):=by
  rw [← hwg,← hrb,Below.heap_alloc _ _ _ (by rw [World.size_alloc]; omega)];exact heap_alloc_new w _
 have ho1:wg.heap[rb+1]?=some (.cells #[.int .i64 0,.int .i64 0,.int .i64 0,.int .i64 0,.int .i64 0,.string ⟨#[]⟩,.slice none 0 0,.int .i64 0,.int .i64 0,.slice none 0 0] 32 (0,0)):=by
  have h:=heap_alloc_new (w.alloc (.cells #[.int .i64 kk,.int .i64 W,.int .i64 h,.int .i64 x,.int .i64 y,.string t,.slice ra rn rc,.int .i64 n,.int .i64 c,.slice ga gn gc] 25)) (.cells #[.int .i64 0,.int .i64 0,.int .i64 0,.int .i64 0,.int .i64 0,.string ⟨#[]⟩,.slice none 0 0,.int .i64 0,.int .i64 0,.slice none 0 0] 32);rw [World.size_alloc,hrb,hwg] at h;exact h
 obtain ⟨bs,hbs⟩ : ∃ b,wg.heap.size=b:=⟨_,rfl⟩;have hbs2:rb+2=bs:=by rw [← hbs,← hwg,World.size_alloc,World.size_alloc,hrb]
 have HRb:=hDx hrb;have HWg:=hDx hwg;have HBg:=hDx hb1;have HLt:Hid (rb<wg.heap.size):=hDx (by omega);have HC:Hid (wg.cell? ⟨rb,0,none⟩=some (.int .i64 kk)∧wg.cell? ⟨rb,1,none⟩=some (.int .i64 W)∧wg.cell? ⟨rb,2,none⟩=some (.int .i64 h)∧wg.cell? ⟨rb,3,none⟩=some (.int .i64 x)∧wg.cell? ⟨rb,4,none⟩=some (.int .i64 y)∧wg.cell? ⟨rb,5,none⟩=some (.string t)∧wg.cell? ⟨rb,7,none⟩=some (.int .i64 n)∧wg.cell? ⟨rb,8,none⟩=some (.int .i64 c)∧wg.cell? ⟨rb,9,none⟩=some (.slice ga gn gc)∧True):=hDx (by refine ⟨?_,?_,?_,?_,?_,?_,?_,?_,?_,trivial⟩ <;> (rw [cell_block hz1]; rfl));have HZ1:=hDx hz1;have HO1:=hDx ho1;have HBs:=hDx hbs;have HBs2:=hDx hbs2;have HR0:=hDx hr0;have HGp:=hDx (hg0.belowAll (show Below w.heap.size w wg from by rw [hrb]; exact hb1));have HRg:Hid (RngG B):=hDx hgr;have HGn:Hid ((gn:Int)≤1000000):=hDx (by have:=hg0.len; omega);have HRr:=hDx hrr;have HRlx:=hDx hrl;have HLn:=hDx hr0.len
 have hrnI:(rn:Int)≤1000000:=by have:=hr0.len; omega
 have HRn1:Hid (R.length≤1000):=hDx hrn1;clear hP hrb hwg hb1 hz1 ho1 hbs hbs2 b1 hr0 hg0 hgr hgn1 hrr hrl hrn1 hI hB
 go_enter Tryd.func9,Tryd.ntmps9
 go_upto_region 1 with fail
 rw [HWg.out,HRb.out];refine wp_region_due [20,21] [1,1,1,1,1,1,1,1,1,1,1,1,1,1,1,1,1,1,1,1,1,2] (by kernel_rfl) (TgS wg bs kk W h x y t n c B) GlK (TdOk rb bs kk W h x y t n c ga gn gc B) (by rfl) (by kernel_rfl) (by kernel_rfl) (by kernel_rfl) (by kernel_rfl) ?hcong ?hOk ?hop ?hdone ?h0
 case hcong=>exact fun k f f2 u hs hst=>TgS.cong (fun hk=>hs 3 (mem_slots (by subst hk; kernel_rfl))) (fun hk=>hs 3 (by rw [slotsP_all hk]; exact mem_slots (by kernel_rfl))) hst
 case hOk=>intro i u w1 w2 h hr; unfold TdOk at h ⊢; split <;> first | exact True.intro | exact h | (obtain ⟨a1,a2,a3,e1,e2⟩ := h; exact ⟨a1,a2,a3,e1,ownP_mv e2 (fun q hq=>by obtain ⟨cs,h1,-⟩ := U.own_type e2 hq; exact hr q cs h1)⟩)
 case h0=>exact (Below.refl _ _).drew
 case hop =>
  refine ⟨?_,?_,?_,?_,?_,?_,?_,?_,?_,?_,?_,?_,?_,?_,?_,?_,?_,?_,?_,?_,?_,?_,trivial⟩
  · intro k z v hk hst hag hdep;refine .inl ⟨rfl,fun K hK=>?_⟩;have d1:z.tmps.getD 1 undef=.pointer (some ⟨rb,0,none⟩):=hag.2.2 1 (by kernel_rfl);have e1:=gEx d1;have HSt:=hDx hst;clear hdep hag hst;go_simp;exact hK _ _ (fun _ _ _=>rfl) rfl HSt.out
  · intro k z v hk hst hag hdep;refine .inl ⟨rfl,fun K hK=>?_⟩;have d6:z.tmps.getD 6 undef=.pointer (some ⟨rb,0,none⟩):=hdep ⟨0,.data⟩ (by simp) rfl _ _ rfl rfl;have e6:=gEx d6;have hb:Below wg.heap.size wg v:=TgS.base hk hst;have l0:=(hb.cell (p:=⟨rb,0,none⟩) HLt.out).trans HC.out.1;clear hb;have HSt:=hDx hst;clear hdep hag hst;go_simp;exact hK _ _ (fun _ _ _=>rfl) rfl HSt.out
  · intro k z v hk hst hag hdep;refine .inl ⟨rfl,fun K hK=>?_⟩;have d1:z.tmps.getD 1 undef=.pointer (some ⟨rb,0,none⟩):=hag.2.2 1 (by kernel_rfl);have e1:=gEx d1;have HSt:=hDx hst;clear hdep hag hst;go_simp;exact hK _ _ (fun _ _ _=>rfl) rfl HSt.out
  · intro k z v hk hst hag hdep;refine .inl ⟨rfl,fun K hK=>?_⟩;have d8:z.tmps.getD 8 undef=.pointer (some ⟨rb,1,none⟩):=hdep ⟨2,.data⟩ (by simp) rfl _ _ rfl rfl;have e8:=gEx d8;have hb:Below wg.heap.size wg v:=TgS.base hk hst;have l1:=(hb.cell (p:=⟨rb,1,none⟩) HLt.out).trans HC.out.2.1;clear hb;have HSt:=hDx hst;clear hdep hag hst;go_simp;exact hK _ _ (fun _ _ _=>rfl) rfl HSt.out
  · intro k z v hk hst hag hdep;refine .inl ⟨rfl,fun K hK=>?_⟩;have d1:z.tmps.getD 1 undef=.pointer (some ⟨rb,0,none⟩):=hag.2.2 1 (by kernel_rfl);have e1:=gEx d1;have HSt:=hDx hst;clear hdep hag hst;go_simp;exact hK _ _ (fun _ _ _=>rfl) rfl HSt.out
  · intro k z v hk hst hag hdep;refine .inl ⟨rfl,fun K hK=>?_⟩;have d10:z.tmps.getD 10 undef=.pointer (some ⟨rb,2,none⟩):=hdep ⟨4,.data⟩ (by simp) rfl _ _ rfl rfl;have e10:=gEx d10;have hb:Below wg.heap.size wg v:=TgS.base hk hst;have l2:=(hb.cell (p:=⟨rb,2,none⟩) HLt.out).trans HC.out.2.2.1;clear hb;have HSt:=hDx hst;clear hdep hag hst;go_simp;exact hK _ _ (fun _ _ _=>rfl) rfl HSt.out
  · intro k z v hk hst hag hdep;refine .inl ⟨rfl,fun K hK=>?_⟩;have d1:z.tmps.getD 1 undef=.pointer (some ⟨rb,0,none⟩):=hag.2.2 1 (by kernel_rfl);have e1:=gEx d1;have HSt:=hDx hst;clear hdep hag hst;go_simp;exact hK _ _ (fun _ _ _=>rfl) rfl HSt.out
  · intro k z v hk hst hag hdep;refine .inl ⟨rfl,fun K hK=>?_⟩;have d12:z.tmps.getD 12 undef=.pointer (some ⟨rb,3,none⟩):=hdep ⟨6,.data⟩ (by simp) rfl _ _ rfl rfl;have e12:=gEx d12;have hb:Below wg.heap.size wg v:=TgS.base hk hst;have l3:=(hb.cell (p:=⟨rb,3,none⟩) HLt.out).trans HC.out.2.2.2.1;clear hb;have HSt:=hDx hst;clear hdep hag hst;go_simp;exact hK _ _ (fun _ _ _=>rfl) rfl HSt.out
  · intro k z v hk hst hag hdep;refine .inl ⟨rfl,fun K hK=>?_⟩;have d1:z.tmps.getD 1 undef=.pointer (some ⟨rb,0,none⟩):=hag.2.2 1 (by kernel_rfl);have e1:=gEx d1;have HSt:=hDx hst;clear hdep hag hst;go_simp;exact hK _ _ (fun _ _ _=>rfl) rfl HSt.out
  · intro k z v hk hst hag hdep;refine .inl ⟨rfl,fun K hK=>?_⟩;have d14:z.tmps.getD 14 undef=.pointer (some ⟨rb,4,none⟩):=hdep ⟨8,.data⟩ (by simp) rfl _ _ rfl rfl;have e14:=gEx d14;have hb:Below wg.heap.size wg v:=TgS.base hk hst;have l4:=(hb.cell (p:=⟨rb,4,none⟩) HLt.out).trans HC.out.2.2.2.2.1;clear hb;have HSt:=hDx hst;clear hdep hag hst;go_simp;exact hK _ _ (fun _ _ _=>rfl) rfl HSt.out
  · intro k z v hk hst hag hdep;refine .inl ⟨rfl,fun K hK=>?_⟩;have d1:z.tmps.getD 1 undef=.pointer (some ⟨rb,0,none⟩):=hag.2.2 1 (by kernel_rfl);have e1:=gEx d1;have HSt:=hDx hst;clear hdep hag hst;go_simp;exact hK _ _ (fun _ _ _=>rfl) rfl HSt.out
  · intro k z v hk hst hag hdep;refine .inl ⟨rfl,fun K hK=>?_⟩;have d16:z.tmps.getD 16 undef=.pointer (some ⟨rb,5,none⟩):=hdep ⟨10,.data⟩ (by simp) rfl _ _ rfl rfl;have e16:=gEx d16;have hb:Below wg.heap.size wg v:=TgS.base hk hst;have l5:=(hb.cell (p:=⟨rb,5,none⟩) HLt.out).trans HC.out.2.2.2.2.2.1;clear hb;have HSt:=hDx hst;clear hdep hag hst;go_simp;exact hK _ _ (fun _ _ _=>rfl) rfl HSt.out
  · intro k z v hk hst hag hdep;refine .inl ⟨rfl,fun K hK=>?_⟩;have d1:z.tmps.getD 1 undef=.pointer (some ⟨rb,0,none⟩):=hag.2.2 1 (by kernel_rfl);have e1:=gEx d1;have HSt:=hDx hst;clear hdep hag hst;go_simp;exact hK _ _ (fun _ _ _=>rfl) rfl HSt.out
  · intro k z v hk hst hag hdep;refine .inl ⟨rfl,fun K hK=>?_⟩;have d18:z.tmps.getD 18 undef=.pointer (some ⟨rb,7,none⟩):=hdep ⟨12,.data⟩ (by simp) rfl _ _ rfl rfl;have e18:=gEx d18;have hb:Below wg.heap.size wg v:=TgS.base hk hst;have l7:=(hb.cell (p:=⟨rb,7,none⟩) HLt.out).trans HC.out.2.2.2.2.2.2.1;clear hb;have HSt:=hDx hst;clear hdep hag hst;go_simp;exact hK _ _ (fun _ _ _=>rfl) rfl HSt.out
  · intro k z v hk hst hag hdep;refine .inl ⟨rfl,fun K hK=>?_⟩;have d1:z.tmps.getD 1 undef=.pointer (some ⟨rb,0,none⟩):=hag.2.2 1 (by kernel_rfl);have e1:=gEx d1;have HSt:=hDx hst;clear hdep hag hst;go_simp;exact hK _ _ (fun _ _ _=>rfl) rfl HSt.out
  · intro k z v hk hst hag hdep;refine .inl ⟨rfl,fun K hK=>?_⟩;have d20:z.tmps.getD 20 undef=.pointer (some ⟨rb,8,none⟩):=hdep ⟨14,.data⟩ (by simp) rfl _ _ rfl rfl;have e20:=gEx d20;have hb:Below wg.heap.size wg v:=TgS.base hk hst;have l8:=(hb.cell (p:=⟨rb,8,none⟩) HLt.out).trans HC.out.2.2.2.2.2.2.2.1;clear hb;have HSt:=hDx hst;clear hdep hag hst;go_simp;exact hK _ _ (fun _ _ _=>rfl) rfl HSt.out
  · intro k z v hk hst hag hdep;refine .inl ⟨rfl,fun K hK=>?_⟩;have d1:z.tmps.getD 1 undef=.pointer (some ⟨rb,0,none⟩):=hag.2.2 1 (by kernel_rfl);have e1:=gEx d1;have HSt:=hDx hst;clear hdep hag hst;go_simp;exact hK _ _ (fun _ _ _=>rfl) rfl HSt.out
  · intro k z v hk hst hag hdep;refine .inl ⟨rfl,fun K hK=>?_⟩;have d22:z.tmps.getD 22 undef=.pointer (some ⟨rb,9,none⟩):=hdep ⟨16,.data⟩ (by simp) rfl _ _ rfl rfl;have e22:=gEx d22;have hb:Below wg.heap.size wg v:=TgS.base hk hst;have l9:=(hb.cell (p:=⟨rb,9,none⟩) HLt.out).trans HC.out.2.2.2.2.2.2.2.2.1;clear hb;have HSt:=hDx hst;clear hdep hag hst;go_simp;exact hK _ _ (fun _ _ _=>rfl) rfl HSt.out
  · intro k z v hk hst hag hdep;refine .inl ⟨rfl,fun K hK=>?_⟩;have d23:z.tmps.getD 23 undef=.slice ga gn gc:=hdep ⟨17,.data⟩ (by simp) rfl _ _ rfl rfl;have e23:=gEx d23;have hb:Below wg.heap.size wg v:=TgS.base hk hst;have HCa:=hDx (told14_any ga gn gc B v (HGp.out.belowAll hb) HRg.out HGn.out);have HBv:=hDx hb;have HSt:=hDx hst;clear hdep hag hst hb;go_simp;refine HCa.out.mono ?_;rintro e w' ⟨v2,rfl,hO,hb2⟩;obtain ⟨ya,yc,rfl,-⟩ := hO.shape;exact hK _ _ (fun q cs h1=>hb2.block q (gSx.1 h1).1) ⟨ya,_,yc,rfl,hO.weaken (by have:=HBv.out.size; have:=HBs.out; omega)⟩ (TgS.more hk HSt.out hb2)
  · intro k z v hk hst hag hdep;refine .inl ⟨rfl,fun K hK=>?_⟩;have d7:z.tmps.getD 7 undef=.int .i64 kk:=hdep ⟨1,.data⟩ (by simp) rfl _ _ rfl rfl;have e7:=gEx d7;have d9:z.tmps.getD 9 undef=.int .i64 W:=hdep ⟨3,.data⟩ (by simp) rfl _ _ rfl rfl;have e9:=gEx d9;have d11:z.tmps.getD 11 undef=.int .i64 h:=hdep ⟨5,.data⟩ (by simp) rfl _ _ rfl rfl;have e11:=gEx d11;have d13:z.tmps.getD 13 undef=.int .i64 x:=hdep ⟨7,.data⟩ (by simp) rfl _ _ rfl rfl;have e13:=gEx d13;have d15:z.tmps.getD 15 undef=.int .i64 y:=hdep ⟨9,.data⟩ (by simp) rfl _ _ rfl rfl;have e15:=gEx d15;have d17:z.tmps.getD 17 undef=.string t:=hdep ⟨11,.data⟩ (by simp) rfl _ _ rfl rfl;have e17:=gEx d17;have d19:z.tmps.getD 19 undef=.int .i64 n:=hdep ⟨13,.data⟩ (by simp) rfl _ _ rfl rfl;have e19:=gEx d19;have d21:z.tmps.getD 21 undef=.int .i64 c:=hdep ⟨15,.data⟩ (by simp) rfl _ _ rfl rfl;have e21:=gEx d21
    have d24':TdOk rb bs kk W h x y t n c ga gn gc B 18 (z.tmps.getD 24 undef) v:=hdep ⟨18,.data⟩ (by simp) rfl _ _ rfl rfl;simp only [TdOk] at d24';obtain ⟨ya,yn,yc,d24,HO⟩ := d24';have e24:=gEx d24;have HSt:=hDx hst;have HOh:=hDx HO;clear hdep hag hst HO;go_simp;exact hK _ _ (fun _ _ _=>rfl) ⟨ya,yn,yc,rfl,HOh.out⟩ HSt.out
  · intro z v hst hag hdep;refine ⟨rfl,fun K hK=>?_⟩;have hb:Below wg.heap.size wg v:=hst;have hbs:=hb.size;have HBv:=hDx hb;have hsz3:3<z.tmps.size:=by rw [hag.2.1]; show 3<42; decide
    clear hdep hag hst hb;go_simp;have hb2:Below v.heap.size v (v.alloc (.cells #[.int .i64 0,.int .i64 0,.int .i64 0,.int .i64 0,.int .i64 0,.string ⟨#[]⟩,.slice none 0 0,.int .i64 0,.int .i64 0,.slice none 0 0] 32)):=(Below.refl _ _).alloc (Nat.le_refl _) _;exact hK _ _ (fun q cs h1=>hb2.block q (gSx.1 h1).1) True.intro ⟨HBv.out.trans (hb2.mono hbs),v.heap.size,slot_same hsz3,by have:=HBs.out; omega,heap_alloc_new v _⟩
  · intro z v hst hag hdep;refine ⟨rfl,fun K hK=>?_⟩;have d25':TdOk rb bs kk W h x y t n c ga gn gc B 19 (z.tmps.getD 25 undef) v:=hdep ⟨19,.data⟩ (by simp) rfl _ _ rfl rfl;simp only [TdOk] at d25';obtain ⟨ya2,yn2,yc2,d25,HO2⟩ := d25';have e25:=gEx d25;obtain ⟨hb,xb,f3s,hxb,hxz⟩ := hst;have d3:z.tmps.getD 3 undef=.pointer (some ⟨xb,0,none⟩):=f3s;have e3:=gEx d3;have hsz3:3<z.tmps.size:=by rw [hag.2.1]; show 3<42; decide
    have m0:v.cell? ⟨xb,0,none⟩=some (.int .i64 0):=by rw [cell_block hxz]; rfl
    have m1:v.cell? ⟨xb,1,none⟩=some (.int .i64 0):=by rw [cell_block hxz]; rfl
    have m2:v.cell? ⟨xb,2,none⟩=some (.int .i64 0):=by rw [cell_block hxz]; rfl
    have m3:v.cell? ⟨xb,3,none⟩=some (.int .i64 0):=by rw [cell_block hxz]; rfl
    have m4:v.cell? ⟨xb,4,none⟩=some (.int .i64 0):=by rw [cell_block hxz]; rfl
    have m5:v.cell? ⟨xb,5,none⟩=some (.string ⟨#[]⟩):=by rw [cell_block hxz]; rfl
    have m6:v.cell? ⟨xb,6,none⟩=some (.slice none 0 0):=by rw [cell_block hxz]; rfl
    have m7:v.cell? ⟨xb,7,none⟩=some (.int .i64 0):=by rw [cell_block hxz]; rfl
    have m8:v.cell? ⟨xb,8,none⟩=some (.int .i64 0):=by rw [cell_block hxz]; rfl
    have m9:v.cell? ⟨xb,9,none⟩=some (.slice none 0 0):=by rw [cell_block hxz]; rfl
    have f0:=frozen_block hxz 0;have f1:=frozen_block hxz 1;have f2:=frozen_block hxz 2;have f3:=frozen_block hxz 3;have f4:=frozen_block hxz 4;have f5:=frozen_block hxz 5;have f6:=frozen_block hxz 6;have f7:=frozen_block hxz 7;have f8:=frozen_block hxz 8;have f9:=frozen_block hxz 9;have HXz:=hDx hxz;have HXb:=hDx hxb;have HO2h:=hDx HO2;have HBv:=hDx hb;have HD3:=hDx d3;have hg:∀ (u:World) (o:Nat) (x:Value),u.grownBy (u.setCell ⟨xb,o,none⟩ x) (some xb):=fun u o x=>grown_set u xb o x
    have gg:v.grownBy ((((((((((v.setCell ⟨xb,0,none⟩ (.int .i64 kk)).setCell ⟨xb,1,none⟩ (.int .i64 W)).setCell ⟨xb,2,none⟩ (.int .i64 h)).setCell ⟨xb,3,none⟩ (.int .i64 x)).setCell ⟨xb,4,none⟩ (.int .i64 y)).setCell ⟨xb,5,none⟩ (.string t)).setCell ⟨xb,6,none⟩ (.slice none 0 0)).setCell ⟨xb,7,none⟩ (.int .i64 n)).setCell ⟨xb,8,none⟩ (.int .i64 c)).setCell ⟨xb,9,none⟩ (.slice ya2 yn2 yc2)) (some xb):=grown_trans (grown_trans (grown_trans (grown_trans (grown_trans (grown_trans (grown_trans (grown_trans (grown_trans (hg v 0 _) (hg _ 1 _)) (hg _ 2 _)) (hg _ 3 _)) (hg _ 4 _)) (hg _ 5 _)) (hg _ 6 _)) (hg _ 7 _)) (hg _ 8 _)) (hg _ 9 _)
    have hfin:TdF wg bs kk W h x y t n c B xb ya2 yn2 yc2 ((((((((((v.setCell ⟨xb,0,none⟩ (.int .i64 kk)).setCell ⟨xb,1,none⟩ (.int .i64 W)).setCell ⟨xb,2,none⟩ (.int .i64 h)).setCell ⟨xb,3,none⟩ (.int .i64 x)).setCell ⟨xb,4,none⟩ (.int .i64 y)).setCell ⟨xb,5,none⟩ (.string t)).setCell ⟨xb,6,none⟩ (.slice none 0 0)).setCell ⟨xb,7,none⟩ (.int .i64 n)).setCell ⟨xb,8,none⟩ (.int .i64 c)).setCell ⟨xb,9,none⟩ (.slice ya2 yn2 yc2)):=TdF.mk9 hb HBs.out hxb hxz HO2 gg
    have hty:GlK v ((((((((((v.setCell ⟨xb,0,none⟩ (.int .i64 kk)).setCell ⟨xb,1,none⟩ (.int .i64 W)).setCell ⟨xb,2,none⟩ (.int .i64 h)).setCell ⟨xb,3,none⟩ (.int .i64 x)).setCell ⟨xb,4,none⟩ (.int .i64 y)).setCell ⟨xb,5,none⟩ (.string t)).setCell ⟨xb,6,none⟩ (.slice none 0 0)).setCell ⟨xb,7,none⟩ (.int .i64 n)).setCell ⟨xb,8,none⟩ (.int .i64 c)).setCell ⟨xb,9,none⟩ (.slice ya2 yn2 yc2)):=fun q cs h1=>gg.block q (gSx.1 h1).1 (fun e=>by cases e; rw [hxz] at h1; injection h1 with h1; injection h1 with h1 h2; exact absurd h2 (by decide))
    have HTy:=hDx hty;have HFin:=hDx hfin;clear hdep hag hb hxz hxb HO2 hg gg hfin hty f3s;go_simp;exact hK undef _ HTy.out True.intro ⟨xb,ya2,yn2,yc2,HD3.out,HFin.out⟩
 case hdone =>
  intro z v hst hag hok;obtain ⟨xb,ya,yn,yc,f3,hF⟩ : ∃ xb ya yn yc,z.tmps.getD 3 undef=.pointer (some ⟨xb,0,none⟩)∧TdF wg bs kk W h x y t n c B xb ya yn yc v:=hst;have d3:z.tmps.getD 3 undef=.pointer (some ⟨xb,0,none⟩):=f3;have HF:=hDx hF;clear f3 hF;obtain ⟨uu,hu,hzz⟩ := agree_frame [6,7,8,9,10,11,12,13,14,15,16,17,18,19,20,21,22,23,24,25,3] rfl hag;have e3:=(hu 3).trans d3;subst hzz;simp only [List.foldl_cons,List.foldl_nil];rw [e3];clear e3 d3 hu hag hok
  try dsimp only [Exit.then]
  simp only [List.setIfInBounds_toArray,List.set_cons_succ,List.set_cons_zero];generalize uu 6=u6',uu 7=u7',uu 8=u8',uu 9=u9',uu 10=u10',uu 11=u11',uu 12=u12',uu 13=u13',uu 14=u14',uu 15=u15',uu 16=u16',uu 17=u17',uu 18=u18',uu 19=u19',uu 20=u20',uu 21=u21',uu 22=u22',uu 23=u23',uu 24=u24',uu 25=u25';clear uu;rename_i K hK;refine hK _ _ ?_;obtain ⟨wS,hwS⟩ : ∃ wS,v=wS:=⟨_,rfl⟩;subst hwS;have hzS:=(HF.out.b.block rb (by have:=HBs2.out; omega)).trans HZ1.out;have hoS:=(HF.out.b.block (rb+1) (by have:=HBs2.out; omega)).trans HO1.out;have hlx:=HF.out.lo;have hxl:=(gSx.1 HF.out.x).1;have HBS:Hid (Below rb w v):=hDx (HBg.out.trans (HF.out.b.mono (by have:=HBs2.out; omega)));have HZS:=hDx hzS;have HOS:=hDx hoS;have c6:v.cell? ⟨rb,6,none⟩=some (.slice ra rn rc):=by rw [cell_block hzS]; rfl
  obtain ⟨wS,hwS⟩ : ∃ wS,v=wS:=⟨_,rfl⟩;obtain ⟨bt,hbt⟩ : ∃ b,v.heap.size=b:=⟨_,rfl⟩;have HT0:Hid (TdI rb xb bt (csT kk W h x y t n c (.slice ya yn yc) (.slice none 0 0)) (.slice none 0 0) [] v v):=hDx ⟨KeepB.refl _ _,HF.out.x,GatT.nil _ _,by omega,by have:=HBs2.out; omega,hbt⟩;have HBt:=hDx hbt;have HXl:Hid (rb+1<xb∧xb<bt):=hDx (by have:=HBs2.out; omega);clear hzS hoS hlx hxl hbt;rw [hwS] at HT0 HF HBS HZS HOS HBt c6 ⊢;clear hwS
  go_wp2_with fail
  clear c6
  go_loopw [29] (fun i wr=>∃ j:Nat,i=.int .i64 (j:Int)∧j≤rn∧Hid (∃ oa oc,TdI rb xb bt (csT kk W h x y t n c (.slice ya yn yc) (.slice oa j oc)) (.slice oa j oc) (R.take j) wS wr)) (fun i _=>rn - (intOf i).toNat)
  case atStart=>exact ⟨0,rfl,Nat.zero_le _,hDx ⟨none,0,HT0.out⟩⟩
  case round =>
   obtain ⟨j,rfl,hj,HF0⟩ := hrel;obtain ⟨oa,oc,hT⟩ := HF0.out;have HT:=hDx hT;clear hT HF0;by_cases hlt:j<rn
   · have hd:decide (j<rn)=true:=decide_eq_true hlt;have hjI:(j:Int)<rn:=by omega
     have hjl:j<R.length:=by rw [← HLn.out]; exact hlt
     have hR1:=HR0.out.below (show Below w.heap.size w wr from by
      rw [HRb.out];exact HT.out.k.below (by intro i hi; have:=HXl.out; simp at hi; omega) HBS.out (by have:=HXl.out; have:=HBt.out; omega))
     obtain ⟨us0,hin,hrv,-⟩ := hR1.ex;have hju:j<us0.length:=by rw [hrv.1]; exact hjl
     obtain ⟨ab,ao,rfl,hab,hAt⟩ := hin.at_.resolve_left (by intro e; rw [e] at hju; simp at hju);have hat:=hAt j us0[j] (List.getElem?_eq_getElem hju);have hrj:=hrv.2 j us0[j] R[j] (List.getElem?_eq_getElem hju) (List.getElem?_eq_getElem hjl);have htk:=List.take_succ_eq_append_getElem hjl;have hrr:=HRr.out R[j] (List.getElem_mem hjl);have hrl:=HRlx.out R[j] (List.getElem_mem hjl);obtain ⟨⟨xa,xn,xc,rb0⟩,hu⟩ : ∃ u,us0[j]=u:=⟨_,rfl⟩;obtain ⟨r,hre⟩ : ∃ r,R[j]=r:=⟨_,rfl⟩;rw [hu] at hat hrj;rw [hre] at hrj htk hrr hrl;unfold Rv.val at hrj;simp only at hrj hat;obtain ⟨hxb,hcl,hnl,hft,htp,hxl⟩ := hrj.of;have k0:=hat.1;have k1:=hat.2;obtain ⟨r5,hr5⟩ : ∃ b,wr.heap.size=b:=⟨_,rfl⟩;obtain ⟨w5,hw5⟩ : ∃ w5,wr.alloc (.cells #[.slice xa xn xc,.bool rb0] 57)=w5:=⟨_,rfl⟩;have hb5:Below wr.heap.size wr w5:=by rw [← hw5]; exact (Below.refl _ _).alloc (Nat.le_refl _) _
     have hn5:w5.heap[r5]?=some (.cells #[.slice xa xn xc,.bool rb0] 57 (0,0)):=by rw [← hw5,← hr5]; exact heap_alloc_new wr _
     have HNx5:=hDx hn5;have HW5:=hDx hw5;have HR5:=hDx hr5;have HXb:=hDx hxb;have HCl:=hDx (hcl.belowAll hb5);have HRn:=hDx hrr;have HXn:Hid ((xn:Int)≤1000000):=hDx (by omega);obtain ⟨rs,hrs⟩ : ∃ rs,R.take j=rs:=⟨_,rfl⟩;have hnx:R.take (j+1)=rs++[r]:=by rw [htk,hrs]
     have hrsl:rs.length=j:=by rw [← hrs,List.length_take]; omega
     rw [hrs] at HT;have HRl:=hDx hrsl;have HJl:Hid (rs.length≤1000):=hDx (by rw [hrsl]; have:=HRn1.out; omega);have HNx:=hDx hnx;have H0:Hid (TdI rb xb bt (csT kk W h x y t n c (.slice ya yn yc) (.slice oa j oc)) (.slice oa j oc) rs wS w5∧Below w5.heap.size w5 w5):=hDx ⟨HT.out.below hb5,Below.refl _ _⟩;clear hjl hR1 hin hrv hju hab hAt hat hrj htk hrr hrl hu hre hxb hcl hnl hft htp hxl hr5 hw5 hb5 hn5 hrs hnx hrsl
     go_upto_region 5 with fail
     rw [HW5.out,HR5.out];clear k0 k1;refine wp_region_due [3,4,5,7] [2,2,0,1,2,3,3,4] (by kernel_rfl) (TrS rb xb bt j (csT kk W h x y t n c (.slice ya yn yc)) (.slice oa j oc) rs r rb0 wS w5) (fun _ _=>True) (TrOk oa oc j xb xa xn xc rb0) (by rfl) (by kernel_rfl) (by kernel_rfl) (by kernel_rfl) (by kernel_rfl) ?hcong ?hOk ?hop ?hdone ?h0
     case hcong=>exact fun k f f2 u hs hst=>TrS.cong (fun hk=>hs 36 (mem_slots (by subst hk; kernel_rfl))) (fun hk=>hs 37 (mem_slots (by subst hk; kernel_rfl))) (fun hk=>hs 38 (mem_slots (by subst hk; kernel_rfl))) hst
     case hOk=>intro i u w1 w2 h hr; unfold TrOk at h ⊢; split <;> first | exact True.intro | exact h
     case h0=>exact ⟨H0.out.1.below ((Below.refl _ _).drew),H0.out.2.trans (((Below.refl _ _).drew).mono H0.out.2.size)⟩
     case hop =>
      refine ⟨?_,?_,?_,?_,?_,?_,?_,?_,trivial⟩
      · intro k z v hk hst hag hdep;refine .inl ⟨rfl,fun K hK=>?_⟩;have d3:z.tmps.getD 3 undef=.pointer (some ⟨xb,0,none⟩):=hag.2.2 3 (by kernel_rfl);have e3:=gEx d3;have HSt:=hDx hst;clear hdep hag hst;go_simp;exact hK _ _ trivial rfl HSt.out
      · intro k z v hk hst hag hdep;refine .inl ⟨rfl,fun K hK=>?_⟩;have d33:z.tmps.getD 33 undef=.pointer (some ⟨xb,6,none⟩):=hdep ⟨0,.data⟩ (by simp) rfl _ _ rfl rfl;have e33:=gEx d33;have h0:=TrS.base (Nat.le_trans hk (by decide)) hst;have l6:v.cell? ⟨xb,6,none⟩=some (.slice oa j oc):=by rw [cell_block h0.1.x]; rfl
        have HSt:=hDx hst;clear hdep hag hst;go_simp;exact hK _ _ trivial rfl HSt.out
      · intro k z v hk hst hag hdep;refine .inl ⟨rfl,fun K hK=>?_⟩;have d5:z.tmps.getD 5 undef=.pointer (some ⟨r5,0,none⟩):=hag.2.2 5 (by kernel_rfl);have e5:=gEx d5;have h0:=TrS.base (Nat.le_trans hk (by decide)) hst;have hr5:=(h0.2.block r5 (gSx.1 HNx5.out).1).trans HNx5.out;have l50:v.cell? ⟨r5,0,none⟩=some (.slice xa xn xc):=by rw [cell_block hr5]; rfl
        have l51:v.cell? ⟨r5,1,none⟩=some (.bool rb0):=by rw [cell_block hr5]; rfl
        have HSt:=hDx hst;clear hdep hag hst;go_simp;exact hK _ _ trivial rfl HSt.out
      · intro z v hst hag hdep;refine ⟨rfl,fun K hK=>?_⟩;have d35:z.tmps.getD 35 undef=.agg #[.slice xa xn xc,.bool rb0]:=hdep ⟨2,.data⟩ (by simp) rfl _ _ rfl rfl;have e35:=gEx d35;have h0:TdI rb xb bt (csT kk W h x y t n c (.slice ya yn yc) (.slice oa j oc)) (.slice oa j oc) rs wS v∧Below w5.heap.size w5 v:=hst;have HCa:=hDx (told_any xa xn xc rb0 r.l v (HCl.out.belowAll h0.2) HRn.out HXn.out);have hsz:36<z.tmps.size:=by rw [hag.2.1]; show 36<42; decide
        have HSt:=hDx h0;clear hdep hag h0 hst;go_simp;refine HCa.out.mono ?_;rintro e w' ⟨v2,rfl,hO,hb⟩;obtain ⟨a4,c4,rfl,hi4,hlo4,hn4,hf4,hx4⟩ := hO.shape;have hty4:∀ b o,a4=some ⟨b,o,none⟩→∃ cs,w'.heap[b]?=some (.cells cs 87 (0,0)):=fun b o e=>(by obtain ⟨cs,h1,-⟩ := U.own_type hO (g:=b) (by rw [e]; have h2:=(hlo4 b o e).2.2; subst h2; rfl); exact ⟨cs,h1⟩)
        exact hK _ _ trivial True.intro ⟨⟨HSt.out.1.below hb,HSt.out.2.trans (hb.mono HSt.out.2.size)⟩,a4,c4,slot_same hsz,⟨a4,c4,by rw [HXb.out]; rfl,hi4,hn4,hf4,hx4⟩,hty4⟩
      · intro z v hst hag hdep;refine ⟨rfl,fun K hK=>?_⟩;obtain ⟨h0,a4,c4,f36,hrow,hty4⟩ := hst;have d36:z.tmps.getD 36 undef=.agg #[.slice a4 r.l.length c4,.bool rb0]:=f36;have e36:=gEx d36;have hsz:37<z.tmps.size:=by rw [hag.2.1]; show 37<42; decide
        have HSt:=hDx h0;have HTy4:=hDx hty4;obtain ⟨n4,hn4⟩ : ∃ n,r.l.length=n:=⟨_,rfl⟩;rw [hn4] at hrow;have HRow:=hDx hrow;rw [hn4] at e36 d36;clear hdep hag h0 f36 hrow hty4 hn4;go_simp;have hb:Below v.heap.size v (v.alloc (.cells #[.slice a4 n4 c4,.bool rb0] 63)):=(Below.refl _ _).alloc (Nat.le_refl _) _;exact hK _ _ trivial True.intro ⟨⟨HSt.out.1.below hb,HSt.out.2.trans (hb.mono HSt.out.2.size)⟩,v.heap.size,slot_same hsz,a4,n4,c4,rb0,RoB.new _ _ _ _,HRow.out.belowAll hb,fun b9 o e=>(by obtain ⟨cs,h1⟩ := HTy4.out b9 o e; exact ⟨cs,(hb.block b9 (gSx.1 h1).1).trans h1⟩)⟩
      · intro z v hst hag hdep;refine ⟨rfl,fun K hK=>?_⟩;have d34:z.tmps.getD 34 undef=.slice oa j oc:=hdep ⟨1,.data⟩ (by simp) rfl _ _ rfl rfl;have e34:=gEx d34;obtain ⟨h0,q,f37,hR⟩ := hst;have d37:z.tmps.getD 37 undef=.slice (some ⟨q,0,none⟩) 1 1:=f37;have hsz:38<z.tmps.size:=by rw [hag.2.1]; show 38<42; decide
        have HSt:=hDx h0;obtain ⟨a4,n4,c4,b4,hq4,hrow,hty4⟩ := hR;refine wp_append_rowT refRowsT _ _ rfl rfl bt (.slice oa j oc) rs q a4 n4 c4 b4 r d34 d37 HSt.out.1.g hq4 hrow hty4 HJl.out HSt.out.1.m ?_;intro v' w' k1 k2;exact hK _ _ trivial True.intro ⟨v',slot_same hsz,HSt.out.1.grows k1 k2⟩
      · intro k z v hk hst hag hdep;refine .inl ⟨rfl,fun K hK=>?_⟩;have d3:z.tmps.getD 3 undef=.pointer (some ⟨xb,0,none⟩):=hag.2.2 3 (by kernel_rfl);have e3:=gEx d3;have HSt:=hDx hst;clear hdep hag hst;go_simp;exact hK _ _ trivial rfl HSt.out
      · intro z v hst hag hdep;refine ⟨rfl,fun K hK=>?_⟩;have d39:z.tmps.getD 39 undef=.pointer (some ⟨xb,6,none⟩):=hdep ⟨6,.data⟩ (by simp) rfl _ _ rfl rfl;have e39:=gEx d39;obtain ⟨v7,f38,h7⟩ := hst;obtain ⟨a7,c7,hv7⟩ := h7.g.shape;rw [List.length_append,HRl.out] at hv7;subst hv7;have d38:z.tmps.getD 38 undef=.slice a7 (j+1) c7:=f38;have e38:=gEx d38;have l6:v.cell? ⟨xb,6,none⟩=some (.slice oa j oc):=by rw [cell_block h7.x]; rfl
        have f6:=frozen_block h7.x 6;have HSt:=hDx h7;clear hdep hag h7 f38;go_simp;exact hK undef _ trivial True.intro ⟨a7,c7,HSt.out.set rfl⟩
     case hdone =>
      intro z v hst hag hok;obtain ⟨a7,c7,hE⟩ : ∃ a0 c0,TdI rb xb bt (csT kk W h x y t n c (.slice ya yn yc) (.slice a0 (j+1) c0)) (.slice a0 (j+1) c0) (rs++[r]) wS v:=hst;have HE:Hid (∃ oa oc,TdI rb xb bt (csT kk W h x y t n c (.slice ya yn yc) (.slice oa (j+1) oc)) (.slice oa (j+1) oc) (R.take (j+1)) wS v):=hDx ⟨a7,c7,by rw [HNx.out]; exact hE⟩;clear hE;obtain ⟨uu,hu,hzz⟩ := agree_frame [33,34,35,36,37,38,39] rfl hag;subst hzz;simp only [List.foldl_cons,List.foldl_nil];rw [];clear  hu hag hok
      try dsimp only [Exit.then]
      simp only [List.setIfInBounds_toArray,List.set_cons_succ,List.set_cons_zero];generalize uu 33=u33',uu 34=u34',uu 35=u35',uu 36=u36',uu 37=u37',uu 38=u38',uu 39=u39';clear uu;rename_i K2 hK2;refine hK2 _ _ ?_
      go_wp2_with fail
      go_roundw
      case rel=>exact ⟨j+1,by go_num,by omega,HE⟩
      case measure=>simp [intOf]; omega
   · obtain rfl:j=rn:=by omega
     have hd:decide (j<j)=false:=by simp
     have hx:=HT.out.x;have ho:=(HT.out.k.block (rb+1) (by have:=HXl.out; have:=HBt.out; omega) (by have:=HXl.out; simp; omega)).trans HOS.out;obtain ⟨oj,hoj⟩ : ∃ q,q=j:=⟨_,rfl⟩;rw [← hoj] at hx;unfold csT at hx;have hend:Hid (P (.returned (.agg #[.int .i64 kk,.int .i64 W,.int .i64 h,.int .i64 x,.int .i64 y,.string t,.slice oa oj oc,.int .i64 n,.int .i64 c,.slice ya yn yc])) ((((((((((wr.setCell ⟨rb+1,0,none⟩ (.int .i64 kk)).setCell ⟨rb+1,1,none⟩ (.int .i64 W)).setCell ⟨rb+1,2,none⟩ (.int .i64 h)).setCell ⟨rb+1,3,none⟩ (.int .i64 x)).setCell ⟨rb+1,4,none⟩ (.int .i64 y)).setCell ⟨rb+1,5,none⟩ (.string t)).setCell ⟨rb+1,6,none⟩ (.slice oa oj oc)).setCell ⟨rb+1,7,none⟩ (.int .i64 n)).setCell ⟨rb+1,8,none⟩ (.int .i64 c)).setCell ⟨rb+1,9,none⟩ (.slice ya yn yc))):=hDx (by
      rw [← HP.out];have hg:∀ (u:World) (o:Nat) (x:Value),u.grownBy (u.setCell ⟨rb+1,o,none⟩ x) (some (rb+1)):=fun u o x=>grown_set u (rb+1) o x
      have gg:wr.grownBy ((((((((((wr.setCell ⟨rb+1,0,none⟩ (.int .i64 kk)).setCell ⟨rb+1,1,none⟩ (.int .i64 W)).setCell ⟨rb+1,2,none⟩ (.int .i64 h)).setCell ⟨rb+1,3,none⟩ (.int .i64 x)).setCell ⟨rb+1,4,none⟩ (.int .i64 y)).setCell ⟨rb+1,5,none⟩ (.string t)).setCell ⟨rb+1,6,none⟩ (.slice oa oj oc)).setCell ⟨rb+1,7,none⟩ (.int .i64 n)).setCell ⟨rb+1,8,none⟩ (.int .i64 c)).setCell ⟨rb+1,9,none⟩ (.slice ya yn yc)) (some (rb+1)):=grown_trans (grown_trans (grown_trans (grown_trans (grown_trans (grown_trans (grown_trans (grown_trans (grown_trans (hg wr 0 _) (hg _ 1 _)) (hg _ 2 _)) (hg _ 3 _)) (hg _ 4 _)) (hg _ 5 _)) (hg _ 6 _)) (hg _ 7 _)) (hg _ 8 _)) (hg _ 9 _);have hbw:Below rb w wr:=HT.out.k.below (by intro i hi; have:=HXl.out; simp at hi; omega) HBS.out (by have:=HXl.out; have:=HBt.out; omega)
      have hb:Below rb wr _:=(Below.refl rb wr).grown gg (by have:=HXl.out; have:=HBt.out; have:=HT.out.m; omega) (fun q e=>by have:=Option.some.inj e; omega);have hgk:=HT.out.g.wrote gg ho (by decide) (by decide);have hq1:=ownP_keepB HF.out.o HT.out.k (fun q hq hm=>by
       obtain ⟨cs,h1,-⟩ := U.own_type HF.out.o hq;simp at hm;subst hm;rw [HF.out.x] at h1;injection h1 with h1
       injection h1 with h1 h2
       exact absurd h2 (by decide))
      have hq2:=ownP_of hq1 gg (fun q e=>.inl (by have:=Option.some.inj e; have:=HBs2.out; omega));rw [List.take_of_length_le (by rw [HLn.out]; exact Nat.le_refl _)] at hgk;exact ⟨oa,j,oc,ya,yn,yc,by rw [hoj]; rfl,⟨hgk.weaken (Nat.zero_le _),hq2.weaken (Nat.zero_le _)⟩,by rw [HRb.out]; exact hbw.trans hb⟩)
     rw [← hoj] at hd;obtain ⟨c0,c1,c2,c3,c4,c5,c6,c7,c8,c9⟩ := ten_cells (s:=⟨kk,W,h,x,y,t,[],n,c,[]⟩) (ra:=oa) (rn:=oj) (rc:=oc) (ga:=ya) (gn:=yn) (gc:=yc) hx;obtain ⟨d0,d1,d2,d3,d4,d5,d6,d7,d8,d9⟩ := ten_cells (s:=emptyN) (ra:=none) (rn:=0) (rc:=0) (ga:=none) (gn:=0) (gc:=0) ho;have f0:=frozen_block ho 0;have f1:=frozen_block ho 1;have f2:=frozen_block ho 2;have f3:=frozen_block ho 3;have f4:=frozen_block ho 4;have f5:=frozen_block ho 5;have f6:=frozen_block ho 6;have f7:=frozen_block ho 7;have f8:=frozen_block ho 8;have f9:=frozen_block ho 9;unfold emptyN at d0 d1 d2 d3 d4 d5 d7 d8;simp only at c0 c1 c2 c3 c4 c5 c7 c8 d0 d1 d2 d3 d4 d5 d7 d8;have HOj:=hDx hoj;clear hx ho HT hlt hoj;rw [← HOj.out];have hd2:decide (oj<oj)=false:=by simp
     go_wp2_with fail
     refine bodyPost_ret (v:=.agg #[.int .i64 kk,.int .i64 W,.int .i64 h,.int .i64 x,.int .i64 y,.string t,.slice oa oj oc,.int .i64 n,.int .i64 c,.slice ya yn yc]) (by rw [results_cell (fn:=Tryd.f9) rfl]; go_simp <;> rfl) rfl ?_;exact hend.out
end Go.Proofs.YtagolklnjhpbdaaDoor.K
