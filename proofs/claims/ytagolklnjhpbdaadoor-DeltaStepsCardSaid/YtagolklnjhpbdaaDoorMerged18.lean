import Derived.Test.YtagolklnjhpbdaaDoorMerged0
import Derived.Test.YtagolklnjhpbdaaDoorMerged10
import Derived.Test.YtagolklnjhpbdaaDoorMerged7
import Derived.Test.YtagolklnjhpbdaaDoorMerged17
import Derived.Test.YtagolklnjhpbdaaDoorMerged11
import Derived.Test.YtagolklnjhpbdaaDoorNRdRow
import Derived.Test.YtagolklnjhpbdaaDoorMerged4
namespace Go.Proofs.YtagolklnjhpbdaaDoor.K
open Go.RowKit
theorem RowV.apart9 {rk:IntKind} {u:Rv} {r:Ro} {w w':World} {row:Option Nat} (h:RowV rk u.val r w) (hg:w.grownBy w' row) (hne:u.n≠0→∀ b off,u.a=some ⟨b,off,none⟩→row≠some b):RowV rk u.val r w':=by
 by_cases hn:u.n=0
 · obtain ⟨a,c,e,hi,h3⟩ := h;have e2:=Rv.val_inj (v:=⟨a,r.l.length,c,r.wrapped⟩) e;subst e2;exact ⟨a,c,rfl,⟨rfl,.inl (List.eq_nil_of_length_eq_zero hn)⟩,h3⟩
 · exact h.moved hg.size (fun b off e hl=>hg.block b hl (fun e'=>hne hn b off e e'.symm))
def cutR (r:Ro):Ro:=⟨r.l.take 40,r.wrapped⟩
theorem cutR_len40 (r:Ro):(cutR r).l.length≤40:=by show (r.l.take 40).length≤40; rw [List.length_take]; omega
structure GatR (base:Nat) (v:Value) (rs:List Ro) (w:World):Prop where
 ex:∃ us,OwnV 57 base v us w∧RowsV .i32 us rs w∧∀ u ∈ us,∀ b o,u.a=some ⟨b,o,none⟩→(∀ q,v.ownBlock=some q→b≠q)∧base≤b∧b<w.heap.size
theorem GatR.nil (base:Nat) (w:World):GatR base (.slice none 0 0) [] w:=⟨[],OwnV.nil _ _ _,RowsV.nil _ _,fun u hu=>by cases hu⟩
theorem GatR.below {base:Nat} {v:Value} {rs:List Ro} {w w':World} (h:GatR base v rs w) (hb:Below w.heap.size w w'):GatR base v rs w':=by
 obtain ⟨us,h1,h2,h3⟩ := h;exact ⟨us,h1.belowAll hb,h2.belowAll hb,fun u hu b o e=>⟨(h3 u hu b o e).1,(h3 u hu b o e).2.1,Nat.lt_of_lt_of_le (h3 u hu b o e).2.2 hb.size⟩⟩
theorem GatR.own {base:Nat} {v:Value} {rs:List Ro} {w:World} (h:GatR base v rs w):∀ q,v.ownBlock=some q→base≤q∧q<w.heap.size:=fun q hq=>by
 obtain ⟨us,h1,-⟩ := h.ex;exact h1.ownBlock q hq
theorem GatR.shape {base:Nat} {v:Value} {rs:List Ro} {w:World} (h:GatR base v rs w):∃ a c,v=.slice a rs.length c:=by
 obtain ⟨us,h1,h2,-⟩ := h.ex;obtain ⟨a,c,e,-⟩ := h1.shape;rw [h2.1] at e;exact ⟨a,c,e⟩
theorem GatR.rowsL {base n c:Nat} {a:Option Addr} {rs:List Ro} {w:World} {M:List Nat} (h:GatR base (.slice a n c) rs w) (hM:∀ p ∈ M,p<base∨w.heap.size≤p):RowsL .i32 M a n c rs w:=by
 obtain ⟨us,h1,h2,h3⟩ := h;obtain ⟨a',c',e,h4,h5,h6⟩ := h1.shape;injection e with e1 e2 e3
 subst e1 e2 e3;refine ⟨⟨us,h4,h2,fun u hu _ b o e hm=>?_⟩,h6,fun _ b o e hm=>?_⟩
 · have:=(h3 u hu b o e).2;rcases hM b hm with h | h <;> omega
 · have:=h5 b o e;rcases hM b hm with h | h <;> omega
theorem wp_append_row {bytes:Nat} (hI:RvT 22 57 bytes) {o:Oper} {z:Act} {w:World} {K:Act→World→Prop} {Q:Exit→Act→World→Prop} (s x:Operand)
    (ho:o.op=.call { callee:=.builtin .append,args:=#[s,x],argTypes:=#[22,22] }) (hty:o.type=22)
    (base:Nat) (v:Value) (rs:List Ro) (p:Nat) (a:Option Addr) (n c:Nat) (b:Bool) (r:Ro) (hs:z.eval s=v) (hxv:z.eval x=.slice (some ⟨p,0,none⟩) 1 1) (hG:GatR base v rs w)
    (hp:w.heap[p]?=some (.cells #[.slice a n c,.bool b] 57 (0,0))) (hr:RowV .i32 (.agg #[.slice a n c,.bool b]) r w) (hlt:∀ b' o',a=some ⟨b',o',none⟩→(∀ q,v.ownBlock=some q→b'≠q)∧base≤b'∧b'<w.heap.size)
    (h1:rs.length≤1000) (hbase:base≤w.heap.size)
    (hK:∀ v' w',GatR base v' (rs++[r]) w'→w.grownBy w' v.ownBlock→K (z.put o.dst v') w'):o.wp Tryd.prog z w K Q:=by
 obtain ⟨us,g2,g3,g4⟩ := hG.ex;have hin:RvsIn (some ⟨p,0,none⟩) 1 1 [⟨a,n,c,b⟩] w:=⟨rfl,Nat.le_refl _,by decide,.inr ⟨p,0,rfl,(gSx.1 hp).1,fun i u hu=>by
  match i,hu with
  | 0,hu=>cases hu; exact ⟨by simp [World.cell?,hp],by simp [World.cell?,hp]⟩
  | i+1,hu=>simp at hu⟩⟩
 obtain ⟨v',w',hrun,k1,k2⟩ := run_append_rows hI base v us (some ⟨p,0,none⟩) 1 1 [⟨a,n,c,b⟩] w g2 hin (fun e=>by cases e) (by have:=g3.1; omega) (by simp) hbase;have hs2:=k2.grown.size;have hapart:∀ d:Rv,(∀ q,v.ownBlock=some q→∀ b' o',d.a=some ⟨b',o',none⟩→b'≠q)→∀ (q0:Ro),RowV .i32 d.val q0 w→RowV .i32 d.val q0 w':=fun d hd q0 hq0=>hq0.apart9 k2.grown (fun hn b off e e'=>hd b e' b off e rfl)
 have hrv:RowsV .i32 us rs w':=⟨g3.1,fun i d q hd hq=>hapart d (fun q' hq' b' o' e=>(g4 d (List.mem_of_getElem? hd) b' o' e).1 q' hq') q (g3.2 i d q hd hq)⟩;have hr':RowV .i32 (Rv.val ⟨a,n,c,b⟩) r w':=hapart ⟨a,n,c,b⟩ (fun q hq b' o' e=>(hlt b' o' e).1 q hq) r hr;have hG':GatR base v' (rs++[r]) w':=by
  refine ⟨us++[⟨a,n,c,b⟩],k1,hrv.append ⟨rfl,fun i d q hd hq=>?_⟩,fun d hd b' o' e=>?_⟩
  · match i,hd,hq with
    | 0,hd,hq=>cases hd; cases hq; exact hr'
    | i+1,hd,_=>simp at hd
  · have hnew:∀ q,v'.ownBlock=some q→v.ownBlock=some q∨w.heap.size≤q:=k2.block
    rcases List.mem_append.1 hd with hd | hd
    · obtain ⟨e1,e2,e3⟩ := g4 d hd b' o' e;refine ⟨fun q hq=>?_,e2,Nat.lt_of_lt_of_le e3 hs2⟩;rcases hnew q hq with h | h
      · exact e1 q h
      · omega
    · obtain rfl:d=⟨a,n,c,b⟩ := by simpa using hd
      obtain ⟨e1,e2,e3⟩ := hlt b' o' e;refine ⟨fun q hq=>?_,e2,Nat.lt_of_lt_of_le e3 hs2⟩;rcases hnew q hq with h | h
      · exact e1 q h
      · omega
 unfold Oper.wp execOp;simp only [ho,hty,resolve,invoke,builtin,Sem.run_bind,Sem.run_pure,Result.andThen_ok,List.map_toArray,List.map_cons,List.map_nil,hs,hxv,hrun];exact hK v' w' hG' k2.grown
structure Rw0 (rb:Nat) (v:Value) (rs:List Ro) (w u:World):Prop where
 g:GatR rb v rs u
 b:Below rb w u
 m:rb≤u.heap.size
section
variable {rb:Nat} {v v':Value} {rs:List Ro} {r:Ro} {w u u':World}
theorem Rw0.below (h:Rw0 rb v rs w u) (hb:Below u.heap.size u u'):Rw0 rb v rs w u':=⟨h.g.below hb,h.b.trans (hb.mono h.m),Nat.le_trans h.m hb.size⟩
theorem Rw0.own (h:Rw0 rb v rs w u):∀ q,v.ownBlock=some q→rb≤q∧q<u.heap.size:=h.g.own
theorem Rw0.cell (h:Rw0 rb v rs w u) {ab o:Nat} (hab:ab<rb):u.cell? ⟨ab,o,none⟩=w.cell? ⟨ab,o,none⟩ := h.b.cell (p:=⟨ab,o,none⟩) hab
theorem Rw0.cell1 (h:Rw0 rb v rs w u) {ab o:Nat} (hab:ab<rb):u.cell? ⟨ab,o,none⟩=w.cell? ⟨ab,o,none⟩ := h.b.cell (p:=⟨ab,o,none⟩) hab
theorem Rw0.grows (h:Rw0 rb v rs w u) (hg:GatR rb v' (rs++[r]) u') (hgr:u.grownBy u' v.ownBlock):Rw0 rb v' (rs++[r]) w u':=⟨hg,h.b.grown hgr h.m (fun q hq=>(h.own q hq).1),Nat.le_trans h.m hgr.size⟩
end
def RwS (rb:Nat) (v0:Value) (rs:List Ro) (r:Ro) (xb:Bool) (w:World):Nat→(Nat→Value)→World→Prop
  | 0,_,u=>Rw0 rb v0 rs w u
  | 1,f,u=>Rw0 rb v0 rs w u∧∃ a c,f 29=.agg #[.slice a (r.l.take 40).length c,.bool xb]∧RowV .i32 (.agg #[.slice a (r.l.take 40).length c,.bool xb]) (cutR r) u∧∀ b o,a=some ⟨b,o,none⟩→(∀ q,v0.ownBlock=some q→b≠q)∧rb≤b∧b<u.heap.size
  | 2,f,u=>Rw0 rb v0 rs w u∧∃ q,f 30=.slice (some ⟨q,0,none⟩) 1 1∧∃ a n c b,u.heap[q]?=some (.cells #[.slice a n c,.bool b] 57 (0,0))∧RowV .i32 (.agg #[.slice a n c,.bool b]) (cutR r) u∧∀ b o,a=some ⟨b,o,none⟩→(∀ q,v0.ownBlock=some q→b≠q)∧rb≤b∧b<u.heap.size
  | 3,f,u=>∃ v,f 31=v∧Rw0 rb v (rs++[cutR r]) w u
  | _,f,u=>∃ v,f 5=v∧Rw0 rb v (rs++[cutR r]) w u
section
variable {rb:Nat} {v0:Value} {rs:List Ro} {r:Ro} {xb:Bool} {w u:World} {k:Nat} {f f2:Nat→Value}
theorem RwS.base (hk:k≤2) (h:RwS rb v0 rs r xb w k f u):Rw0 rb v0 rs w u:=by
 match k,hk,h with
 | 0,_,h=>exact h
 | 1,_,h=>exact h.1
 | 2,_,h=>exact h.1
theorem RwS.cong (e1:k=1→f 29=f2 29) (e2:k=2→f 30=f2 30) (e3:k=3→f 31=f2 31) (e4:4≤k→f 5=f2 5) (h:RwS rb v0 rs r xb w k f u):RwS rb v0 rs r xb w k f2 u:=by
 match k,h,e1,e2,e3,e4 with
 | 0,h,_,_,_,_=>exact h
 | 1,⟨h,a,c,e,h2⟩,e1,_,_,_=>exact ⟨h,a,c,by rw [← e1 rfl]; exact e,h2⟩
 | 2,⟨h,q,e,h2⟩,_,e2,_,_=>exact ⟨h,q,by rw [← e2 rfl]; exact e,h2⟩
 | 3,⟨v,e,h⟩,_,_,e3,_=>exact ⟨v,by rw [← e3 rfl]; exact e,h⟩
 | _+4,⟨v,e,h⟩,_,_,_,e4=>exact ⟨v,by rw [← e4 (by omega)]; exact e,h⟩
end
end Go.Proofs.YtagolklnjhpbdaaDoor.K

namespace Go.Proofs.YtagolklnjhpbdaaDoor.K
open Go.Proofs.YtagolklnjhpbdaaDoor.R (agree_frame mem_slots slot_same slotsP_all wp_region_kept)
open Go.RowKit Go.Proofs.YtagolklnjhpbdaaDoor.I
def Cs5 (rb:Nat) (v0:Value) (rs:List Ro) (r:Ro) (xb:Bool) (w:World):Nat→(Nat→Value)→World→Prop
  | 0,_,u=>Rw0 rb v0 rs w u
  | 1,f,u=>Rw0 rb v0 rs w u∧∃ a c,f 15=.slice a r.l.length c∧RowV .i32 (.agg #[.slice a r.l.length c,.bool xb]) r u∧∀ b o,a=some ⟨b,o,none⟩→(∀ q,v0.ownBlock=some q→b≠q)∧rb≤b∧b<u.heap.size
  | 2,f,u=>Rw0 rb v0 rs w u∧∃ a n c,f 18=.agg #[.slice a n c,.bool xb]∧RowV .i32 (.agg #[.slice a n c,.bool xb]) r u∧∀ b o,a=some ⟨b,o,none⟩→(∀ q,v0.ownBlock=some q→b≠q)∧rb≤b∧b<u.heap.size
  | 3,f,u=>Rw0 rb v0 rs w u∧∃ q,f 19=.slice (some ⟨q,0,none⟩) 1 1∧∃ a n c,u.heap[q]?=some (.cells #[.slice a n c,.bool xb] 57 (0,0))∧RowV .i32 (.agg #[.slice a n c,.bool xb]) r u∧∀ b o,a=some ⟨b,o,none⟩→(∀ q,v0.ownBlock=some q→b≠q)∧rb≤b∧b<u.heap.size
  | 4,f,u=>∃ v,f 20=v∧Rw0 rb v (rs++[r]) w u
  | _,f,u=>∃ v,f 3=v∧Rw0 rb v (rs++[r]) w u
theorem Cs5.cong {rb:Nat} {v0:Value} {rs:List Ro} {r:Ro} {xb:Bool} {w u:World} {k:Nat} {f f2:Nat→Value} (e1:k=1→f 15=f2 15) (e2:k=2→f 18=f2 18) (e3:k=3→f 19=f2 19) (e4:k=4→f 20=f2 20) (e5:5≤k→f 3=f2 3) (h:Cs5 rb v0 rs r xb w k f u):Cs5 rb v0 rs r xb w k f2 u:=by
 match k,h,e1,e2,e3,e4,e5 with
 | 0,h,_,_,_,_,_=>exact h
 | 1,⟨h,a,c,e,h2⟩,e1,_,_,_,_=>exact ⟨h,a,c,by rw [← e1 rfl]; exact e,h2⟩
 | 2,⟨h,a,n,c,e,h2⟩,_,e2,_,_,_=>exact ⟨h,a,n,c,by rw [← e2 rfl]; exact e,h2⟩
 | 3,⟨h,q,e,h2⟩,_,_,e3,_,_=>exact ⟨h,q,by rw [← e3 rfl]; exact e,h2⟩
 | 4,⟨v,e,h⟩,_,_,_,e4,_=>exact ⟨v,by rw [← e4 rfl]; exact e,h⟩
 | _+5,⟨v,e,h⟩,_,_,_,_,e5=>exact ⟨v,by rw [← e5 (by omega)]; exact e,h⟩
def CoOk5 (oa:Option Addr) (oc j gb:Nat) (xa:Option Addr) (xn xc:Nat) (xb:Bool):Nat→Value→World→Prop
  | 0,u,_=>u=.slice oa j oc
  | 1,u,_=>u=.pointer (some ⟨gb,0,none⟩)
  | 2,u,_=>u=.slice xa xn xc
  | 3,_,_=>True
  | 4,u,_=>u=.pointer (some ⟨gb,1,none⟩)
  | 5,u,_=>u=.bool xb
  | 6,_,_=>True
  | 7,_,_=>True
  | 8,_,_=>True
  | 9,_,_=>True
  | _,_,_=>True
set_option maxRecDepth 100000 in
set_option maxHeartbeats 16000000 in
theorem ncopied_any (aa:Option Addr) (na ca:Nat) (l0:List Ro) (w:World) (hA:RowsL .i32 [] aa na ca l0 w) (hm:l0.length≤1000) (hcs:∀ r ∈ l0,r.l.length≤1000000) :
    Calls Tryd.prog 94 #[.slice aa na ca] w fun e w'=>∃ v,e=.returned v∧GatR w.heap.size v l0 w'∧Below w.heap.size w w':=by
 obtain ⟨rb,hrb⟩ : ∃ rb,w.heap.size=rb:=⟨_,rfl⟩;rw [hrb];obtain ⟨P,hP⟩ : ∃ P:Ending→World→Prop,(fun e w'=>∃ v,e=.returned v∧GatR rb v l0 w'∧Below rb w w')=P:=⟨_,rfl⟩;rw [hP];have HP:=hDx hP;have HRb:=hDx hrb;have hlen:=hA.len;have HLn:=hDx hlen;have hnI:(na:Int)≤1000:=by omega
 have HA:=hDx hA;have HCs:=hDx hcs;have HM:=hDx hm;clear hP hrb hA hlen hcs hm
 go_enter Tryd.func94,Tryd.ntmps94
 go_wp2_with fail
 go_loopw [3,8] (fun u i wr=>∃ j:Nat,i=.int .i64 (j:Int)∧j≤na∧Hid (Rw0 rb u (l0.take j) w wr)) (fun _ i _=>na - (intOf i).toNat)
 case atStart=>exact ⟨0,rfl,Nat.zero_le _,hDx ⟨GatR.nil _ _,Below.refl _ _,by rw [HRb.out]; exact Nat.le_refl _⟩⟩
 case round =>
  obtain ⟨j,rfl,hj,HF⟩ := hrel;by_cases hlt:j<na
  · have hd:decide (j<na)=true:=decide_eq_true hlt;have hjI:(j:Int)<na:=by omega
    have hjl:j<l0.length:=by rw [← HLn.out]; exact hlt
    obtain ⟨us0,hin,hrv,-⟩ := HA.out.ex;have hju:j<us0.length:=by rw [hrv.1]; exact hjl
    obtain ⟨ab,ao,rfl,hab,hAt⟩ := hin.at_.resolve_left (by intro e; rw [e] at hju; simp at hju);have hat:=hAt j us0[j] (List.getElem?_eq_getElem hju);have hrj:=hrv.2 j us0[j] l0[j] (List.getElem?_eq_getElem hju) (List.getElem?_eq_getElem hjl);have hcj:=HCs.out l0[j] (List.getElem_mem hjl);have htk:=List.take_succ_eq_append_getElem hjl;obtain ⟨⟨xa,xn,xc,xb⟩,hu⟩ : ∃ u,us0[j]=u:=⟨_,rfl⟩;obtain ⟨r,hre⟩ : ∃ r,l0[j]=r:=⟨_,rfl⟩;rw [hu] at hat hrj;rw [hre] at hrj htk hcj;unfold Rv.val at hrj;simp only at hrj hat;obtain ⟨hxb,hcl,hnl,hft,htp,hxl⟩ := hrj.of;have hab':ab<rb:=by rw [← HRb.out]; exact hab
    have k0:wr.cell? ⟨ab,ao+j*2,none⟩=some (.slice xa xn xc):=(HF.out.b.cell (p:=⟨ab,ao+j*2,none⟩) hab').trans hat.1;have k1:wr.cell? ⟨ab,ao+j*2+1,none⟩=some (.bool xb):=(HF.out.b.cell (p:=⟨ab,ao+j*2+1,none⟩) hab').trans hat.2;have HCl:=hDx hcl;have HNl:=hDx hnl;have HXb:=hDx hxb;have HXn:Hid ((xn:Int)≤1000000):=hDx (by omega);obtain ⟨rs,hrs⟩ : ∃ rs,l0.take j=rs:=⟨_,rfl⟩;have hrl:rs.length=j:=by rw [← hrs,List.length_take]; omega
    rw [hrs] at HF htk;obtain ⟨oa,oc,rfl⟩ := HF.out.g.shape;rw [hrl] at HF ⊢;have HJl:Hid (rs.length≤1000):=hDx (by rw [hrl]; have:=HM.out; omega);have HNx:=hDx htk;obtain ⟨gb,hgb⟩ : ∃ gb,wr.heap.size=gb:=⟨_,rfl⟩;obtain ⟨w5,hw5⟩ : ∃ w5,wr.alloc (.cells #[.slice xa xn xc,.bool xb] 57)=w5:=⟨_,rfl⟩;have hn5:w5.heap[gb]?=some (.cells #[.slice xa xn xc,.bool xb] 57 (0,0)):=by rw [← hw5,← hgb]; exact heap_alloc_new wr _
    have hb5:Below wr.heap.size wr w5:=by rw [← hw5]; exact (Below.refl _ _).alloc (Nat.le_refl _) _
    have h0:=HF.out.below hb5;have HGo:Hid ((Value.slice oa j oc).ownBlock≠some gb):=hDx (fun e=>by have:=(HF.out.own gb e).2; omega);have H0:=hDx h0;have HW5:=hDx hw5;have HGb:=hDx hgb;have HN5:=hDx hn5;clear hjl hin hrv hju hAt hat hrj hcj htk hu hre hcl hnl hft htp hxl hxb hab hab' hrs hrl hgb hw5 hn5 hb5 h0 HF
    go_upto_region 5 with fail
    rw [HW5.out,HGb.out];clear k0 k1;refine wp_region_kept [3,6,7,8,9] [3,0,0,1,1,1,2,3,4,5] (by kernel_rfl) (fun k f u=>Cs5 rb (.slice oa j oc) rs r xb w k f u∧u.heap[gb]?=some (.cells #[.slice xa xn xc,.bool xb] 57 (0,0))) (fun _ _=>True) (CoOk5 oa oc j gb xa xn xc xb) (by rfl) (by kernel_rfl) (by kernel_rfl) (by kernel_rfl) (by kernel_rfl) ?hcong ?hOk ?hop ?hdone ?h0
    case hcong=>exact fun k f f2 u hs hst=>⟨Cs5.cong (fun hk=>hs 15 (mem_slots (by subst hk; kernel_rfl))) (fun hk=>hs 18 (mem_slots (by subst hk; kernel_rfl))) (fun hk=>hs 19 (mem_slots (by subst hk; kernel_rfl))) (fun hk=>hs 20 (mem_slots (by subst hk; kernel_rfl))) (fun hk=>hs 3 (by rw [slotsP_all hk]; exact mem_slots (by kernel_rfl))) hst.1,hst.2⟩
    case hOk=>intro i u w1 w2 h hr; unfold CoOk5 at h ⊢; split <;> first | exact True.intro | exact h
    case h0=>exact ⟨H0.out.below ((Below.refl _ _).drew),HN5.out⟩
    case hop =>
     refine ⟨?_,?_,?_,?_,?_,?_,?_,?_,?_,?_,trivial⟩
     · intro k z v hk hst hag hdep hfr;refine .inl ⟨rfl,fun K hK=>?_⟩;have d3:z.tmps.getD 3 undef=.slice oa j oc:=hfr 3 (by kernel_rfl);have e3:=gEx d3;have HSt:=hDx hst;clear hdep hfr hag hst;go_simp;exact hK _ _ trivial rfl HSt.out
     · intro k z v hk hst hag hdep hfr;refine .inl ⟨rfl,fun K hK=>?_⟩;have d5:z.tmps.getD 5 undef=.pointer (some ⟨gb,0,none⟩):=hag.2.2 5 (by kernel_rfl);have e5:=gEx d5;have HSt:=hDx hst;clear hdep hfr hag hst;go_simp;exact hK _ _ trivial rfl HSt.out
     · intro k z v hk hst hag hdep hfr;refine .inl ⟨rfl,fun K hK=>?_⟩;have d13:z.tmps.getD 13 undef=.pointer (some ⟨gb,0,none⟩):=hdep ⟨1,.data⟩ (by simp) rfl _ _ rfl rfl;have e13:=gEx d13;have l0:v.cell? ⟨gb,0,none⟩=some (.slice xa xn xc):=by rw [cell_block hst.2]; rfl
       have HSt:=hDx hst;clear hdep hfr hag hst;go_simp;exact hK _ _ trivial rfl HSt.out
     · intro z v hst hag hdep hfr;refine ⟨rfl,fun K hK=>?_⟩;have d14:z.tmps.getD 14 undef=.slice xa xn xc:=hdep ⟨2,.data⟩ (by simp) rfl _ _ rfl rfl;have e14:=gEx d14;have h0:Rw0 rb (.slice oa j oc) rs w v:=hst.1;have HGk:=hDx hst.2;have HC:=hDx (clone_any xa xn xc r.l v (HCl.out.belowAll (by rw [HRb.out]; exact h0.b)) HNl.out HXn.out);have hsz:15<z.tmps.size:=by rw [hag.2.1]; show 15<23; decide
       have HSt:=hDx h0;clear hdep hfr hag h0 hst;go_simp;refine HC.out.mono ?_;rintro e w' ⟨v2,rfl,hO,hb⟩;obtain ⟨a4,c4,rfl,hi4,hlo4,hn4,hf4,hx4⟩ := hO.shape;exact hK _ _ trivial True.intro ⟨⟨HSt.out.below hb,a4,c4,slot_same hsz,⟨a4,c4,by rw [HXb.out],hi4,hn4,hf4,hx4⟩,fun b o e=>⟨fun q hq e2=>by have h1:=(hlo4 b o e).1; have h2:=(HSt.out.own q hq).2; omega,by have h1:=(hlo4 b o e).1; have h2:=HSt.out.m; omega,(hlo4 b o e).2.1⟩⟩,(hb.block gb (gSx.1 HGk.out).1).trans HGk.out⟩
     · intro k z v hk hst hag hdep hfr;refine .inl ⟨rfl,fun K hK=>?_⟩;have d5:z.tmps.getD 5 undef=.pointer (some ⟨gb,0,none⟩):=hag.2.2 5 (by kernel_rfl);have e5:=gEx d5;have HSt:=hDx hst;clear hdep hfr hag hst;go_simp;exact hK _ _ trivial rfl HSt.out
     · intro k z v hk hst hag hdep hfr;refine .inl ⟨rfl,fun K hK=>?_⟩;have d16:z.tmps.getD 16 undef=.pointer (some ⟨gb,1,none⟩):=hdep ⟨4,.data⟩ (by simp) rfl _ _ rfl rfl;have e16:=gEx d16;have l1:v.cell? ⟨gb,1,none⟩=some (.bool xb):=by rw [cell_block hst.2]; rfl
       have HSt:=hDx hst;clear hdep hfr hag hst;go_simp;exact hK _ _ trivial rfl HSt.out
     · intro z v hst hag hdep hfr;refine ⟨rfl,fun K hK=>?_⟩;have d17:z.tmps.getD 17 undef=.bool xb:=hdep ⟨5,.data⟩ (by simp) rfl _ _ rfl rfl;have e17:=gEx d17;obtain ⟨⟨h0,a4,c4,f15,hrow,hlt4⟩,hgk⟩ := hst;have HGk:=hDx hgk;obtain ⟨n4,hn4⟩ : ∃ n,r.l.length=n:=⟨_,rfl⟩;rw [hn4] at f15 hrow;have d15:z.tmps.getD 15 undef=.slice a4 n4 c4:=f15;have e15:=gEx d15;have hsz:18<z.tmps.size:=by rw [hag.2.1]; show 18<23; decide
       have HSt:=hDx h0;have HLt:=hDx hlt4;have HRow:=hDx hrow;clear hdep hfr hag h0 f15 hrow hlt4 hn4 hgk;go_simp;exact hK _ _ trivial True.intro ⟨⟨HSt.out,a4,n4,c4,slot_same hsz,HRow.out,HLt.out⟩,HGk.out⟩
     · intro z v hst hag hdep hfr;refine ⟨rfl,fun K hK=>?_⟩;obtain ⟨⟨h0,a4,n4,c4,f18,hrow,hlt4⟩,hgk⟩ := hst;have HGk:=hDx hgk;have d18:z.tmps.getD 18 undef=.agg #[.slice a4 n4 c4,.bool xb]:=f18;have e18:=gEx d18;have hsz:19<z.tmps.size:=by rw [hag.2.1]; show 19<23; decide
       have HSt:=hDx h0;have HLt:=hDx hlt4;have HRow:=hDx hrow;clear hdep hfr hag h0 f18 hrow hlt4 hgk;go_simp;have hb:Below v.heap.size v (v.alloc (.cells #[.slice a4 n4 c4,.bool xb] 57)):=(Below.refl _ _).alloc (Nat.le_refl _) _;exact hK _ _ trivial True.intro ⟨⟨HSt.out.below hb,v.heap.size,slot_same hsz,a4,n4,c4,heap_alloc_new v _,HRow.out.belowAll hb,fun b o e=>⟨(HLt.out b o e).1,(HLt.out b o e).2.1,Nat.lt_of_lt_of_le (HLt.out b o e).2.2 hb.size⟩⟩,(hb.block gb (gSx.1 HGk.out).1).trans HGk.out⟩
     · intro z v hst hag hdep hfr;refine ⟨rfl,fun K hK=>?_⟩;have d12:z.tmps.getD 12 undef=.slice oa j oc:=hdep ⟨0,.data⟩ (by simp) rfl _ _ rfl rfl;have e12:=gEx d12;obtain ⟨⟨h0,q,f19,hR⟩,hgk⟩ := hst;have HGk:=hDx hgk;have d19:z.tmps.getD 19 undef=.slice (some ⟨q,0,none⟩) 1 1:=f19;have hsz:20<z.tmps.size:=by rw [hag.2.1]; show 20<23; decide
       have HSt:=hDx h0;obtain ⟨a4,n4,c4,hq4,hrow,hlt4⟩ := hR;refine wp_append_row rowsT _ _ rfl rfl rb (.slice oa j oc) rs q a4 n4 c4 xb r d12 d19 HSt.out.g hq4 hrow hlt4 HJl.out HSt.out.m ?_;intro v' w' k1 k2;exact hK _ _ trivial True.intro ⟨⟨v',slot_same hsz,HSt.out.grows k1 k2⟩,(k2.block gb (gSx.1 HGk.out).1 (fun e=>by
        obtain ⟨us,h1,-⟩ := HSt.out.g.ex;exact HGo.out e.symm)).trans HGk.out⟩
     · intro z v hst hag hdep hfr;refine ⟨rfl,fun K hK=>?_⟩;obtain ⟨⟨v7,f20,h7⟩,hgk⟩ := hst;have HGk:=hDx hgk;have d20:z.tmps.getD 20 undef=v7:=f20;have e20:=gEx d20;have hsz:3<z.tmps.size:=by rw [hag.2.1]; show 3<23; decide
       have HSt:=hDx h7;clear hdep hfr hag h7 f20 hgk;go_simp;exact hK _ _ trivial True.intro ⟨⟨_,slot_same hsz,HSt.out⟩,HGk.out⟩
    case hdone =>
     intro z v hst hag hok;obtain ⟨v9,f9,h9⟩ : ∃ v9,z.tmps.getD 3 undef=v9∧Rw0 rb v9 (rs++[r]) w v:=hst.1;have d3:z.tmps.getD 3 undef=v9:=f9;have HE:Hid (Rw0 rb v9 (l0.take (j+1)) w v):=hDx (by rw [HNx.out]; exact h9);clear f9 h9 hst;obtain ⟨uu,hu,hzz⟩ := agree_frame [12,13,14,15,16,17,18,19,20,3] rfl hag;have e3:=(hu 3).trans d3;subst hzz;simp only [List.foldl_cons,List.foldl_nil];rw [e3];clear e3 d3 hu hag hok
     try dsimp only [Exit.then]
     simp only [List.setIfInBounds_toArray,List.set_cons_succ,List.set_cons_zero];generalize uu 12=u12',uu 13=u13',uu 14=u14',uu 15=u15',uu 16=u16',uu 17=u17',uu 18=u18',uu 19=u19',uu 20=u20';clear uu;rename_i K hK;refine hK _ _ ?_
     go_wp2_with fail
     go_roundw
     case rel=>exact ⟨j+1,by go_num,by omega,HE⟩
     case measure=>simp [intOf]; omega
  · obtain rfl:j=na:=by omega
    have hd:decide (j<j)=false:=by simp
    have hall:l0.take j=l0:=by rw [HLn.out,List.take_length]
    rw [hall] at HF;obtain ⟨oa,oc,rfl⟩ := HF.out.g.shape;have hend:Hid (P (.returned (.slice oa l0.length oc)) wr):=hDx (by rw [← HP.out]; exact ⟨_,rfl,HF.out.g,HF.out.b⟩);clear HF hlt hall
    go_wp2_with fail
    exact hend.out
end Go.Proofs.YtagolklnjhpbdaaDoor.K
