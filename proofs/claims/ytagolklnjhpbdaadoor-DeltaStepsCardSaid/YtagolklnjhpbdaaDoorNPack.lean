import Derived.Test.YtagolklnjhpbdaaDoorMerged0
import Derived.Test.YtagolklnjhpbdaaDoorMerged14
import Derived.Test.YtagolklnjhpbdaaDoorNPkRow
import Derived.Test.YtagolklnjhpbdaaDoorMerged16
namespace Go.Proofs.YtagolklnjhpbdaaDoor.K
open Go.Proofs.YtagolklnjhpbdaaDoor.R (agree_frame wp_region_due)
open Go.RowKit Go.Proofs.YtagolklnjhpbdaaDoor.I
def pgB (s:Sn):ByteArray:=⟨(packG s.B).toArray⟩
def hB1 (s:Sn):List UInt8:=numB s.k++(numB s.w++(numB s.h++(numB s.x++numB s.y)))
def hB2 (s:Sn):List UInt8:=hB1 s++textB s.t
def hB3 (s:Sn):List UInt8:=hB2 s++(numB s.n++numB s.c)
def hB4 (s:Sn):List UInt8:=hB3 s++packG s.B
theorem hB4_head (s:Sn):hB4 s=headB s:=by unfold hB4 hB3 hB2 hB1 headB; simp only [List.append_assoc]
def hBk (s:Sn):Nat→List UInt8
  | 0=>[]
  | 1=>hB1 s
  | 2=>hB2 s
  | 3=>hB3 s
  | _=>hB4 s
theorem hbk_len {s:Sn} (h:s.t.size≤200∧s.B.length≤1024) (k:Nat):(hBk s k).length≤20000:=by
 have h0:=headB_len h.1 h.2;rw [← hB4_head] at h0;have h4:(hB4 s).length=(hB3 s).length+(packG s.B).length:=by unfold hB4; rw [List.length_append]
 have h3:(hB3 s).length=(hB2 s).length+(numB s.n++numB s.c).length:=by unfold hB3; rw [List.length_append]
 have h2:(hB2 s).length=(hB1 s).length+(textB s.t).length:=by unfold hB2; rw [List.length_append]
 unfold hBk
 split
 · simp
 · omega
 · omega
 · omega
 · omega
structure PkSt (rb B:Nat) (s:Sn) (ra:Option Addr) (rn rc:Nat) (ga:Option Addr) (gn gc:Nat) (w w2:World) (k:Nat) (v:World):Prop where
 o:OutAt rb B (hBk s k) v
 bx:v.heap[rb]?=some (.cells (snA s ra rn rc ga gn gc) 25 (0,0))
 b:Below rb w v
 sz:rb≤v.heap.size
 ne:rb≠B
 h0:w.heap.size=rb
theorem PkSt.below {rb B:Nat} {s:Sn} {ra:Option Addr} {rn rc:Nat} {ga:Option Addr} {gn gc:Nat} {w w2:World} {k:Nat} {v v':World} (h:PkSt rb B s ra rn rc ga gn gc w w2 k v) (hb:Below v.heap.size v v'):PkSt rb B s ra rn rc ga gn gc w w2 k v' :=
 ⟨outAt_below h.o hb,(hb.block rb (gSx.1 h.bx).1).trans h.bx,h.b.trans (hb.mono h.sz),Nat.le_trans h.sz hb.size,h.ne,h.h0⟩
theorem PkSt.wrote {rb B:Nat} {s:Sn} {ra:Option Addr} {rn rc:Nat} {ga:Option Addr} {gn gc:Nat} {w w2:World} {k k2:Nat} {v v':World} (h:PkSt rb B s ra rn rc ga gn gc w w2 k v) (hO:OutAt rb B (hBk s k2) v') (hb:Below rb v v') (hk:Keeps B v v'):PkSt rb B s ra rn rc ga gn gc w w2 k2 v' :=
 ⟨hO,hk.block rb _ h.bx h.ne (fun cur fr e=>by injection e with _ e2; revert e2; decide),h.b.trans hb,Nat.le_trans h.sz hk.size,h.ne,h.h0⟩
theorem PkSt.beg {rb B:Nat} {s:Sn} {ra:Option Addr} {rn rc:Nat} {ga:Option Addr} {gn gc:Nat} {w w2:World} {k:Nat} {v:World} (h:PkSt rb B s ra rn rc ga gn gc w w2 k v) (hI:PairsIn .i32 ga gn gc s.B w):PairsIn .i32 ga gn gc s.B v:=hI.belowAll (by rw [h.h0]; exact h.b)
def PkOk4 (rb B:Nat) (s:Sn) (ga:Option Addr) (gn gc:Nat):Nat→Value→World→Prop
  | 0,u,_=>u=.pointer (some ⟨rb,0,none⟩)
  | 1,u,_=>u=.int .i64 s.k
  | 2,u,_=>u=.pointer (some ⟨rb,1,none⟩)
  | 3,u,_=>u=.int .i64 s.w
  | 4,u,_=>u=.pointer (some ⟨rb,2,none⟩)
  | 5,u,_=>u=.int .i64 s.h
  | 6,u,_=>u=.pointer (some ⟨rb,3,none⟩)
  | 7,u,_=>u=.int .i64 s.x
  | 8,u,_=>u=.pointer (some ⟨rb,4,none⟩)
  | 9,u,_=>u=.int .i64 s.y
  | 10,u,w=>∃ X,u=.slice (some ⟨X,0,none⟩) 5 5∧X≠B∧w.heap[X]?=some (.cells #[.int .i64 s.k,.int .i64 s.w,.int .i64 s.h,.int .i64 s.x,.int .i64 s.y] 3 (0,0))
  | 11,u,_=>u=.pointer (some ⟨B,0,none⟩)
  | 12,u,_=>u=.pointer (some ⟨rb,5,none⟩)
  | 13,u,_=>u=.string s.t
  | 14,u,w=>∃ X,u=.slice (some ⟨X,0,none⟩) 1 1∧X≠B∧w.heap[X]?=some (.cells #[.string s.t] 9 (0,0))
  | 15,u,_=>u=.pointer (some ⟨B,0,none⟩)
  | 16,u,_=>u=.pointer (some ⟨rb,7,none⟩)
  | 17,u,_=>u=.int .i64 s.n
  | 18,u,_=>u=.pointer (some ⟨rb,8,none⟩)
  | 19,u,_=>u=.int .i64 s.c
  | 20,u,w=>∃ X,u=.slice (some ⟨X,0,none⟩) 2 2∧X≠B∧w.heap[X]?=some (.cells #[.int .i64 s.n,.int .i64 s.c] 3 (0,0))
  | 21,u,_=>u=.pointer (some ⟨B,0,none⟩)
  | 22,u,_=>u=.pointer (some ⟨rb,9,none⟩)
  | 23,u,_=>u=.slice ga gn gc
  | 24,u,_=>u=.string (pgB s)
  | 25,u,w=>∃ X,u=.slice (some ⟨X,0,none⟩) 1 1∧X≠B∧w.heap[X]?=some (.cells #[.string (pgB s)] 9 (0,0))
  | 26,u,_=>u=.pointer (some ⟨B,0,none⟩)
  | _,_,_=>True
set_option maxRecDepth 100000 in
set_option maxHeartbeats 16000000 in
theorem npack_any (s:Sn) (ra:Option Addr) (rn rc:Nat) (ga:Option Addr) (gn gc:Nat) (w:World) (h:SnIn .i32 ra rn rc ga gn gc s w) (hB:SnB s) :
    Calls Tryd.prog 69 #[.agg (snA s ra rn rc ga gn gc)] w fun e w'=>e=.returned (.string ⟨(packN s).toArray⟩)∧Below w.heap.size w w':=by
 obtain ⟨rb,hrb⟩ : ∃ rb,w.heap.size=rb:=⟨_,rfl⟩;rw [hrb];obtain ⟨w1,hw1⟩ : ∃ w1,w.alloc (.cells (snA s ra rn rc ga gn gc) 25)=w1:=⟨_,rfl⟩;have hb1:Below rb w w1:=by rw [← hw1,← hrb]; exact (Below.refl _ _).alloc (Nat.le_refl _) _
 have h1:w1.heap[rb]?=some (.cells (snA s ra rn rc ga gn gc) 25 (0,0)):=by rw [← hw1,← hrb]; exact heap_alloc_new w _
 obtain ⟨P,hP⟩ : ∃ P:Ending→World→Prop,(fun e w'=>e=.returned (.string ⟨(packN s).toArray⟩)∧Below rb w w')=P:=⟨_,rfl⟩;rw [hP];have HP:=hDx hP;have HKp:Hid (∀ w2 w3,Below rb w w2→w2.heap[rb]?=some (.cells (snA s ra rn rc ga gn gc) 25 (0,0))→Below w2.heap.size w2 w3→Below rb w w3∧w3.heap[rb]?=some (.cells (snA s ra rn rc ga gn gc) 25 (0,0))):=hDx (fun w2 w3 b h2 hb=>by
  have hlt:=(gSx.1 h2).1;exact ⟨b.trans (hb.mono (by omega)),(hb.block rb hlt).trans h2⟩)
 have HIn:Hid (∀ w2,Below rb w w2→SnIn .i32 ra rn rc ga gn gc s w2):=hDx (fun w2 b=>h.belowAll (by rw [hrb]; exact b));have HB:=hDx hB;have HI:=hDx h;have H1:=hDx h1;have HW1:=hDx hw1;have HRb:=hDx hrb;have HB1:=hDx hb1;obtain ⟨c0,c1,c2,c3,c4,c5,c6,c7,c8,c9⟩ := ten_cells h1;have HE:=nempty_any s ra rn rc ga gn gc w1 (HIn.out w1 hb1) hB;have HC:Hid (∀ w2,Below rb w w2→Calls Tryd.prog 27 #[.agg (snA s ra rn rc ga gn gc)] w2 fun e w'=>e=.returned (.int .i64 (chkN s:Int))∧Below w2.heap.size w2 w'):=hDx (fun w2 b=>ncheck_any s ra rn rc ga gn gc w2 (HIn.out w2 b) HB.out);have HNil:Hid (packN s=[]→∀ w2,Below rb w w2→P (.returned (.string ⟨#[]⟩)) w2):=hDx (fun hn w2 b=>by rw [← hP,hn]; exact ⟨rfl,b⟩);clear hP h hB h1 hw1 hb1 hrb;by_cases m0:s=emptyN
 · rw [decide_eq_true m0] at HE;have HE':=hDx HE;have hend:=hDx (HNil.out ((packN_nil s).2 (.inl m0)));clear HE m0;unfold snA at HKp H1 HW1 HE' ⊢
   go_enter Tryd.func69,Tryd.ntmps69
   go_upto_region 1 with fail
   rw [HW1.out,HRb.out]
   go_wp2_with fail
   refine HE'.out.mono ?_;rintro e w2 ⟨rfl,hb2⟩;obtain ⟨b2,h2⟩ := HKp.out w1 w2 HB1.out H1.out hb2;have hfin:=hend.out w2 b2;clear hb2 b2 h2 c0 c1 c2 c3 c4 c5 c6 c7 c8 c9
   go_wp2_with fail
   exact hfin
 rw [decide_eq_false m0] at HE;have HE':=hDx HE;have HM0:=hDx m0;clear HE m0;by_cases hm:MayN s
 rotate_left
 · have hend:=hDx (HNil.out ((packN_nil s).2 (.inr hm)));have hc1:((chkN s:Nat):Int)=1:=by unfold chkN; rw [if_neg hm]; rfl
   rw [hc1] at HC;clear hm hc1;unfold snA at HKp H1 HW1 HE' HC ⊢
   go_enter Tryd.func69,Tryd.ntmps69
   go_upto_region 1 with fail
   rw [HW1.out,HRb.out]
   go_wp2_with fail
   refine HE'.out.mono ?_;rintro e w2 ⟨rfl,hb2⟩;obtain ⟨b2,h2⟩ := HKp.out w1 w2 HB1.out H1.out hb2;clear hb2 c0 c1 c2 c3 c4 c5 c6 c7 c8 c9;obtain ⟨c0,c1,c2,c3,c4,c5,c6,c7,c8,c9⟩ := ten_cells (s:=s) h2;have HC2:=hDx (HC.out w2 b2);have B2:=hDx b2;have H2:=hDx h2;clear b2 h2
   go_wp2_with fail
   refine HC2.out.mono ?_;rintro e w3 ⟨rfl,hb3⟩;obtain ⟨b3,h3⟩ := HKp.out w2 w3 B2.out H2.out hb3;have hfin:=hend.out w3 b3;clear hb3 b3 h3 c0 c1 c2 c3 c4 c5 c6 c7 c8 c9
   go_wp2_with fail
   exact hfin
 have hc1:((chkN s:Nat):Int)=0:=by unfold chkN; rw [if_pos hm]; rfl
 rw [hc1] at HC;have hpk:packN s=rawN s:=by unfold packN; rw [if_pos ⟨HM0.out,hm⟩]
 obtain ⟨hst,hct,hsh,hbg⟩ := hm.resolve_left HM0.out;have HPk:=hDx hpk;have HSh:=hDx hsh;have HBd:Hid (s.t.size≤200∧s.B.length≤1024):=hDx ⟨hct.2.2.2,hbg.2⟩;have HBeg:=hDx HI.out.beg;have HRng:Hid (RngG s.B):=hDx HB.out.brng;have HGn:Hid (gn≤1024):=hDx (by rw [HI.out.beg.len]; exact hbg.2);have HWd:Hid (∀ r ∈ s.R,AllC okC r.l∧r.l.length≤1000):=hDx (fun r hr=>⟨(hsh.2 r hr).2,HB.out.cells r hr⟩);clear hc1 hm hpk hst hct hsh hbg HNil;unfold snA at HW1 HE' HC ⊢
 go_enter Tryd.func69,Tryd.ntmps69
 go_upto_region 1 with fail
 rw [HW1.out,HRb.out]
 go_wp2_with fail
 refine HE'.out.mono ?_;rintro e w2 ⟨rfl,hb2⟩;obtain ⟨b2,h2⟩ := HKp.out w1 w2 HB1.out H1.out hb2;clear hb2 c0 c1 c2 c3 c4 c5 c6 c7 c8 c9;obtain ⟨c0,c1,c2,c3,c4,c5,c6,c7,c8,c9⟩ := ten_cells h2;have HC2:=hDx (HC.out w2 b2);have B2:=hDx b2;have H2:=hDx h2;clear b2 h2 HE' HW1
 go_wp2_with fail
 refine HC2.out.mono ?_;rintro e w3 ⟨rfl,hb3⟩;obtain ⟨b3,h3⟩ := HKp.out w2 w3 B2.out H2.out hb3;clear hb3 c0 c1 c2 c3 c4 c5 c6 c7 c8 c9 HC2 HC;obtain ⟨B,hBn⟩ : ∃ B,w3.heap.size=B:=⟨_,rfl⟩;obtain ⟨w4,hw4⟩ : ∃ w4,w3.alloc (.cells #[.slice none 0 0] 68)=w4:=⟨_,rfl⟩;have hO4:OutAt rb B [] w4:=by have:=out_new rb w3; rw [hw4,hBn] at this; exact this
 have hlt3:=(gSx.1 h3).1;have ha4:Below w3.heap.size w3 w4:=by rw [← hw4]; exact (Below.refl _ _).alloc (Nat.le_refl _) _
 have hx4:=(ha4.block rb hlt3).trans h3;have hP4:PkSt rb B s ra rn rc ga gn gc w w2 0 w4:=⟨hO4,hx4,b3.trans (ha4.mono (by omega)),by have:=ha4.size; omega,by omega,HRb.out⟩;have HP4:=hDx hP4;have HRB:Hid (rb≤B):=hDx (by omega);have HW4:=hDx hw4;have HBn:=hDx hBn;clear b3 h3 hBn hw4 hO4 hlt3 ha4 hx4 hP4
 go_upto_region 4 with fail
 rw [HW4.out,HBn.out];refine wp_region_due [11,15,21,26] [0,0,0,0,0,0,0,0,0,0,0,1,1,1,1,2,2,2,2,2,2,3,3,3,3,3,4] (by kernel_rfl) (fun k _ u=>PkSt rb B s ra rn rc ga gn gc w w2 k u) (fun u v=>Keeps B u v) (PkOk4 rb B s ga gn gc) (by rfl) (by kernel_rfl) (by kernel_rfl) (by kernel_rfl) (by kernel_rfl) ?hcong ?hOk ?hop ?hdone ?h0
 case hcong=>exact fun k f f2 u hs hst=>hst
 case hOk=>intro i u w3 w4 h hr; unfold PkOk4 at h ⊢; split <;> first | exact True.intro | exact h | (obtain ⟨X,e,hn,hc⟩ := h; exact ⟨X,e,hn,hr.block X _ hc hn (fun cur fr e=>by injection e with _ e2; revert e2; decide)⟩)
 case h0=>exact HP4.out.below ((Below.refl _ _).drew)
 case hop =>
  refine ⟨?_,?_,?_,?_,?_,?_,?_,?_,?_,?_,?_,?_,?_,?_,?_,?_,?_,?_,?_,?_,?_,?_,?_,?_,?_,?_,?_,trivial⟩
  · intro k z v hk hst hag hdep;refine .inl ⟨rfl,fun K hK=>?_⟩;have d1:z.tmps.getD 1 undef=.pointer (some ⟨rb,0,none⟩):=hag.2.2 1 (by kernel_rfl);have e1:=gEx d1;have HSt:=hDx hst;clear hdep hag hst;go_simp;exact hK _ _ (Keeps.refl _ _) rfl HSt.out
  · intro k z v hk hst hag hdep;refine .inl ⟨rfl,fun K hK=>?_⟩;have d13:z.tmps.getD 13 undef=.pointer (some ⟨rb,0,none⟩):=hdep ⟨0,.data⟩ (by simp) rfl _ _ rfl rfl;have e13:=gEx d13;have h0:PkSt rb B s ra rn rc ga gn gc w w2 k v:=hst;obtain ⟨l0,l1,l2,l3,l4,l5,l6,l7,l8,l9⟩ := ten_cells h0.bx;have HSt:=hDx hst;clear hdep hag hst;go_simp;exact hK _ _ (Keeps.refl _ _) rfl HSt.out
  · intro k z v hk hst hag hdep;refine .inl ⟨rfl,fun K hK=>?_⟩;have d1:z.tmps.getD 1 undef=.pointer (some ⟨rb,0,none⟩):=hag.2.2 1 (by kernel_rfl);have e1:=gEx d1;have HSt:=hDx hst;clear hdep hag hst;go_simp;exact hK _ _ (Keeps.refl _ _) rfl HSt.out
  · intro k z v hk hst hag hdep;refine .inl ⟨rfl,fun K hK=>?_⟩;have d15:z.tmps.getD 15 undef=.pointer (some ⟨rb,1,none⟩):=hdep ⟨2,.data⟩ (by simp) rfl _ _ rfl rfl;have e15:=gEx d15;have h0:PkSt rb B s ra rn rc ga gn gc w w2 k v:=hst;obtain ⟨l0,l1,l2,l3,l4,l5,l6,l7,l8,l9⟩ := ten_cells h0.bx;have HSt:=hDx hst;clear hdep hag hst;go_simp;exact hK _ _ (Keeps.refl _ _) rfl HSt.out
  · intro k z v hk hst hag hdep;refine .inl ⟨rfl,fun K hK=>?_⟩;have d1:z.tmps.getD 1 undef=.pointer (some ⟨rb,0,none⟩):=hag.2.2 1 (by kernel_rfl);have e1:=gEx d1;have HSt:=hDx hst;clear hdep hag hst;go_simp;exact hK _ _ (Keeps.refl _ _) rfl HSt.out
  · intro k z v hk hst hag hdep;refine .inl ⟨rfl,fun K hK=>?_⟩;have d17:z.tmps.getD 17 undef=.pointer (some ⟨rb,2,none⟩):=hdep ⟨4,.data⟩ (by simp) rfl _ _ rfl rfl;have e17:=gEx d17;have h0:PkSt rb B s ra rn rc ga gn gc w w2 k v:=hst;obtain ⟨l0,l1,l2,l3,l4,l5,l6,l7,l8,l9⟩ := ten_cells h0.bx;have HSt:=hDx hst;clear hdep hag hst;go_simp;exact hK _ _ (Keeps.refl _ _) rfl HSt.out
  · intro k z v hk hst hag hdep;refine .inl ⟨rfl,fun K hK=>?_⟩;have d1:z.tmps.getD 1 undef=.pointer (some ⟨rb,0,none⟩):=hag.2.2 1 (by kernel_rfl);have e1:=gEx d1;have HSt:=hDx hst;clear hdep hag hst;go_simp;exact hK _ _ (Keeps.refl _ _) rfl HSt.out
  · intro k z v hk hst hag hdep;refine .inl ⟨rfl,fun K hK=>?_⟩;have d19:z.tmps.getD 19 undef=.pointer (some ⟨rb,3,none⟩):=hdep ⟨6,.data⟩ (by simp) rfl _ _ rfl rfl;have e19:=gEx d19;have h0:PkSt rb B s ra rn rc ga gn gc w w2 k v:=hst;obtain ⟨l0,l1,l2,l3,l4,l5,l6,l7,l8,l9⟩ := ten_cells h0.bx;have HSt:=hDx hst;clear hdep hag hst;go_simp;exact hK _ _ (Keeps.refl _ _) rfl HSt.out
  · intro k z v hk hst hag hdep;refine .inl ⟨rfl,fun K hK=>?_⟩;have d1:z.tmps.getD 1 undef=.pointer (some ⟨rb,0,none⟩):=hag.2.2 1 (by kernel_rfl);have e1:=gEx d1;have HSt:=hDx hst;clear hdep hag hst;go_simp;exact hK _ _ (Keeps.refl _ _) rfl HSt.out
  · intro k z v hk hst hag hdep;refine .inl ⟨rfl,fun K hK=>?_⟩;have d21:z.tmps.getD 21 undef=.pointer (some ⟨rb,4,none⟩):=hdep ⟨8,.data⟩ (by simp) rfl _ _ rfl rfl;have e21:=gEx d21;have h0:PkSt rb B s ra rn rc ga gn gc w w2 k v:=hst;obtain ⟨l0,l1,l2,l3,l4,l5,l6,l7,l8,l9⟩ := ten_cells h0.bx;have HSt:=hDx hst;clear hdep hag hst;go_simp;exact hK _ _ (Keeps.refl _ _) rfl HSt.out
  · intro k z v hk hst hag hdep;refine .inl ⟨rfl,fun K hK=>?_⟩;have d14:z.tmps.getD 14 undef=.int .i64 s.k:=hdep ⟨1,.data⟩ (by simp) rfl _ _ rfl rfl;have e14:=gEx d14;have d16:z.tmps.getD 16 undef=.int .i64 s.w:=hdep ⟨3,.data⟩ (by simp) rfl _ _ rfl rfl;have e16:=gEx d16;have d18:z.tmps.getD 18 undef=.int .i64 s.h:=hdep ⟨5,.data⟩ (by simp) rfl _ _ rfl rfl;have e18:=gEx d18;have d20:z.tmps.getD 20 undef=.int .i64 s.x:=hdep ⟨7,.data⟩ (by simp) rfl _ _ rfl rfl;have e20:=gEx d20;have d22:z.tmps.getD 22 undef=.int .i64 s.y:=hdep ⟨9,.data⟩ (by simp) rfl _ _ rfl rfl;have e22:=gEx d22;have HSt:=hDx hst;clear hdep hag hst;go_simp;have hb:Below v.heap.size v (v.alloc (.cells #[.int .i64 s.k,.int .i64 s.w,.int .i64 s.h,.int .i64 s.x,.int .i64 s.y] 3)):=(Below.refl _ _).alloc (Nat.le_refl _) _
    exact hK _ _ (Keeps.alloc _ _ _) ⟨v.heap.size,rfl,(by have:=HSt.out.o.lt; omega),heap_alloc_new v _⟩ (HSt.out.below hb)
  · intro z v hst hag hdep;refine ⟨rfl,fun K hK=>?_⟩;have d3:z.tmps.getD 3 undef=.pointer (some ⟨B,0,none⟩):=hag.2.2 3 (by kernel_rfl);have e3:=gEx d3;have d23':PkOk4 rb B s ga gn gc 10 (z.tmps.getD 23 undef) v:=hdep ⟨10,.data⟩ (by simp) rfl _ _ rfl rfl;simp only [PkOk4] at d23';obtain ⟨X23,d23,hn23,hc23⟩ := d23';have e23:=gEx d23;have h0:PkSt rb B s ra rn rc ga gn gc w w2 0 v:=hst;have hll:=hbk_len HBd.out 0;have HC:=hDx (num_any rb B X23 0 5 [s.k,s.w,s.h,s.x,s.y] _ v (by have:=hll; simp; omega) HRB.out h0.o (fun w' _ hk i hi=>by
     rw [cell_block (hk.block X23 _ hc23 hn23 (fun cur fr e=>by injection e with _ e2; revert e2; decide))]
     match i,hi with
     | 0,_=>rfl
     | 1,_=>rfl
     | 2,_=>rfl
     | 3,_=>rfl
     | 4,_=>rfl
     | i+5,hi=>simp at hi; omega) h0.sz)
    have HSt:=hDx h0;clear hdep hag hst h0;go_simp;refine HC.out.mono ?_;rintro e w' ⟨rfl,hO',hB',hK'⟩;exact hK _ _ hK' rfl (HSt.out.wrote (k2:=1) (by simpa [hBk,hB1,numsOf,numB] using hO') hB' hK')
  · intro k z v hk hst hag hdep;refine .inl ⟨rfl,fun K hK=>?_⟩;have d1:z.tmps.getD 1 undef=.pointer (some ⟨rb,0,none⟩):=hag.2.2 1 (by kernel_rfl);have e1:=gEx d1;have HSt:=hDx hst;clear hdep hag hst;go_simp;exact hK _ _ (Keeps.refl _ _) rfl HSt.out
  · intro k z v hk hst hag hdep;refine .inl ⟨rfl,fun K hK=>?_⟩;have d25:z.tmps.getD 25 undef=.pointer (some ⟨rb,5,none⟩):=hdep ⟨12,.data⟩ (by simp) rfl _ _ rfl rfl;have e25:=gEx d25;have h0:PkSt rb B s ra rn rc ga gn gc w w2 k v:=hst;obtain ⟨l0,l1,l2,l3,l4,l5,l6,l7,l8,l9⟩ := ten_cells h0.bx;have HSt:=hDx hst;clear hdep hag hst;go_simp;exact hK _ _ (Keeps.refl _ _) rfl HSt.out
  · intro k z v hk hst hag hdep;refine .inl ⟨rfl,fun K hK=>?_⟩;have d26:z.tmps.getD 26 undef=.string s.t:=hdep ⟨13,.data⟩ (by simp) rfl _ _ rfl rfl;have e26:=gEx d26;have HSt:=hDx hst;clear hdep hag hst;go_simp;have hb:Below v.heap.size v (v.alloc (.cells #[.string s.t] 9)):=(Below.refl _ _).alloc (Nat.le_refl _) _;exact hK _ _ (Keeps.alloc _ _ _) ⟨v.heap.size,rfl,(by have:=HSt.out.o.lt; omega),heap_alloc_new v _⟩ (HSt.out.below hb)
  · intro z v hst hag hdep;refine ⟨rfl,fun K hK=>?_⟩;have d24:z.tmps.getD 24 undef=.pointer (some ⟨B,0,none⟩):=hdep ⟨11,.data⟩ (by simp) rfl _ _ rfl rfl;have e24:=gEx d24;have d27':PkOk4 rb B s ga gn gc 14 (z.tmps.getD 27 undef) v:=hdep ⟨14,.data⟩ (by simp) rfl _ _ rfl rfl;simp only [PkOk4] at d27';obtain ⟨X27,d27,hn27,hc27⟩ := d27';have e27:=gEx d27;have h0:PkSt rb B s ra rn rc ga gn gc w w2 1 v:=hst;have hll:=hbk_len HBd.out 1;have HC:=hDx (text_any rb B X27 0 1 [s.t] _ v (by simp) (fun j hj=>by
     match j,hj with
     | 0,_=>have:=hll; simp [textsOf]; omega
     | 1,_=>have h1:=hll; have h2:=textB_len s.t; have h3:=HBd.out.1; simp [textsOf]; omega
     | j+2,hj=>simp at hj) HRB.out h0.o (fun w' _ hk i hi=>by
     rw [cell_block (hk.block X27 _ hc27 hn27 (fun cur fr e=>by injection e with _ e2; revert e2; decide))]
     match i,hi with
     | 0,_=>rfl
     | i+1,hi=>simp at hi) h0.sz)
    have HSt:=hDx h0;clear hdep hag hst h0;go_simp;refine HC.out.mono ?_;rintro e w' ⟨rfl,hO',hB',hK'⟩;exact hK _ _ hK' rfl (HSt.out.wrote (k2:=2) (by simpa [hBk,hB1,hB2,textsOf,numB] using hO') hB' hK')
  · intro k z v hk hst hag hdep;refine .inl ⟨rfl,fun K hK=>?_⟩;have d1:z.tmps.getD 1 undef=.pointer (some ⟨rb,0,none⟩):=hag.2.2 1 (by kernel_rfl);have e1:=gEx d1;have HSt:=hDx hst;clear hdep hag hst;go_simp;exact hK _ _ (Keeps.refl _ _) rfl HSt.out
  · intro k z v hk hst hag hdep;refine .inl ⟨rfl,fun K hK=>?_⟩;have d29:z.tmps.getD 29 undef=.pointer (some ⟨rb,7,none⟩):=hdep ⟨16,.data⟩ (by simp) rfl _ _ rfl rfl;have e29:=gEx d29;have h0:PkSt rb B s ra rn rc ga gn gc w w2 k v:=hst;obtain ⟨l0,l1,l2,l3,l4,l5,l6,l7,l8,l9⟩ := ten_cells h0.bx;have HSt:=hDx hst;clear hdep hag hst;go_simp;exact hK _ _ (Keeps.refl _ _) rfl HSt.out
  · intro k z v hk hst hag hdep;refine .inl ⟨rfl,fun K hK=>?_⟩;have d1:z.tmps.getD 1 undef=.pointer (some ⟨rb,0,none⟩):=hag.2.2 1 (by kernel_rfl);have e1:=gEx d1;have HSt:=hDx hst;clear hdep hag hst;go_simp;exact hK _ _ (Keeps.refl _ _) rfl HSt.out
  · intro k z v hk hst hag hdep;refine .inl ⟨rfl,fun K hK=>?_⟩;have d31:z.tmps.getD 31 undef=.pointer (some ⟨rb,8,none⟩):=hdep ⟨18,.data⟩ (by simp) rfl _ _ rfl rfl;have e31:=gEx d31;have h0:PkSt rb B s ra rn rc ga gn gc w w2 k v:=hst;obtain ⟨l0,l1,l2,l3,l4,l5,l6,l7,l8,l9⟩ := ten_cells h0.bx;have HSt:=hDx hst;clear hdep hag hst;go_simp;exact hK _ _ (Keeps.refl _ _) rfl HSt.out
  · intro k z v hk hst hag hdep;refine .inl ⟨rfl,fun K hK=>?_⟩;have d30:z.tmps.getD 30 undef=.int .i64 s.n:=hdep ⟨17,.data⟩ (by simp) rfl _ _ rfl rfl;have e30:=gEx d30;have d32:z.tmps.getD 32 undef=.int .i64 s.c:=hdep ⟨19,.data⟩ (by simp) rfl _ _ rfl rfl;have e32:=gEx d32;have HSt:=hDx hst;clear hdep hag hst;go_simp;have hb:Below v.heap.size v (v.alloc (.cells #[.int .i64 s.n,.int .i64 s.c] 3)):=(Below.refl _ _).alloc (Nat.le_refl _) _;exact hK _ _ (Keeps.alloc _ _ _) ⟨v.heap.size,rfl,(by have:=HSt.out.o.lt; omega),heap_alloc_new v _⟩ (HSt.out.below hb)
  · intro z v hst hag hdep;refine ⟨rfl,fun K hK=>?_⟩;have d28:z.tmps.getD 28 undef=.pointer (some ⟨B,0,none⟩):=hdep ⟨15,.data⟩ (by simp) rfl _ _ rfl rfl;have e28:=gEx d28;have d33':PkOk4 rb B s ga gn gc 20 (z.tmps.getD 33 undef) v:=hdep ⟨20,.data⟩ (by simp) rfl _ _ rfl rfl;simp only [PkOk4] at d33';obtain ⟨X33,d33,hn33,hc33⟩ := d33';have e33:=gEx d33;have h0:PkSt rb B s ra rn rc ga gn gc w w2 2 v:=hst;have hll:=hbk_len HBd.out 2;have HC:=hDx (num_any rb B X33 0 2 [s.n,s.c] _ v (by have:=hll; simp; omega) HRB.out h0.o (fun w' _ hk i hi=>by
     rw [cell_block (hk.block X33 _ hc33 hn33 (fun cur fr e=>by injection e with _ e2; revert e2; decide))]
     match i,hi with
     | 0,_=>rfl
     | 1,_=>rfl
     | i+2,hi=>simp at hi; omega) h0.sz)
    have HSt:=hDx h0;clear hdep hag hst h0;go_simp;refine HC.out.mono ?_;rintro e w' ⟨rfl,hO',hB',hK'⟩;exact hK _ _ hK' rfl (HSt.out.wrote (k2:=3) (by simpa [hBk,hB1,hB2,hB3,numsOf,numB] using hO') hB' hK')
  · intro k z v hk hst hag hdep;refine .inl ⟨rfl,fun K hK=>?_⟩;have d1:z.tmps.getD 1 undef=.pointer (some ⟨rb,0,none⟩):=hag.2.2 1 (by kernel_rfl);have e1:=gEx d1;have HSt:=hDx hst;clear hdep hag hst;go_simp;exact hK _ _ (Keeps.refl _ _) rfl HSt.out
  · intro k z v hk hst hag hdep;refine .inl ⟨rfl,fun K hK=>?_⟩;have d35:z.tmps.getD 35 undef=.pointer (some ⟨rb,9,none⟩):=hdep ⟨22,.data⟩ (by simp) rfl _ _ rfl rfl;have e35:=gEx d35;have h0:PkSt rb B s ra rn rc ga gn gc w w2 k v:=hst;obtain ⟨l0,l1,l2,l3,l4,l5,l6,l7,l8,l9⟩ := ten_cells h0.bx;have HSt:=hDx hst;clear hdep hag hst;go_simp;exact hK _ _ (Keeps.refl _ _) rfl HSt.out
  · intro k z v hk hst hag hdep;refine .inl ⟨rfl,fun K hK=>?_⟩;have d36:z.tmps.getD 36 undef=.slice ga gn gc:=hdep ⟨23,.data⟩ (by simp) rfl _ _ rfl rfl;have e36:=gEx d36;have h0:PkSt rb B s ra rn rc ga gn gc w w2 k v:=hst;have HC:=hDx (pack_any ga gn gc s.B v (h0.beg HBeg.out) HRng.out HGn.out);have HSt:=hDx h0;clear hdep hag hst h0;go_simp;refine HC.out.mono ?_;rintro e w' ⟨tq,rfl,htq,hbq⟩;obtain rfl:tq=pgB s:=bytes_eqN (by rw [htq]; simp [pgB]);exact hK _ _ (keeps_below hbq) rfl (HSt.out.below hbq)
  · intro k z v hk hst hag hdep;refine .inl ⟨rfl,fun K hK=>?_⟩;have d37:z.tmps.getD 37 undef=.string (pgB s):=hdep ⟨24,.data⟩ (by simp) rfl _ _ rfl rfl;have e37:=gEx d37;have HSt:=hDx hst;clear hdep hag hst;go_simp;have hb:Below v.heap.size v (v.alloc (.cells #[.string (pgB s)] 9)):=(Below.refl _ _).alloc (Nat.le_refl _) _;exact hK _ _ (Keeps.alloc _ _ _) ⟨v.heap.size,rfl,(by have:=HSt.out.o.lt; omega),heap_alloc_new v _⟩ (HSt.out.below hb)
  · intro z v hst hag hdep;refine ⟨rfl,fun K hK=>?_⟩;have d34:z.tmps.getD 34 undef=.pointer (some ⟨B,0,none⟩):=hdep ⟨21,.data⟩ (by simp) rfl _ _ rfl rfl;have e34:=gEx d34;have d38':PkOk4 rb B s ga gn gc 25 (z.tmps.getD 38 undef) v:=hdep ⟨25,.data⟩ (by simp) rfl _ _ rfl rfl;simp only [PkOk4] at d38';obtain ⟨X38,d38,hn38,hc38⟩ := d38';have e38:=gEx d38;have h0:PkSt rb B s ra rn rc ga gn gc w w2 3 v:=hst;have hll:=hbk_len HBd.out 3;have HC:=hDx (raw_any rb B X38 0 1 [pgB s] _ v (by simp) (fun j hj=>by
     match j,hj with
     | 0,_=>have:=hll; simp [bytesOf]; omega
     | 1,_=>have h1:=hll; have h2:=packG_len s.B; have h3:=HBd.out.2; simp [bytesOf,pgB]; omega
     | j+2,hj=>simp at hj) HRB.out h0.o (fun w' _ hk i hi=>by
     rw [cell_block (hk.block X38 _ hc38 hn38 (fun cur fr e=>by injection e with _ e2; revert e2; decide))]
     match i,hi with
     | 0,_=>rfl
     | i+1,hi=>simp at hi) h0.sz)
    have HSt:=hDx h0;clear hdep hag hst h0;go_simp;refine HC.out.mono ?_;rintro e w' ⟨rfl,hO',hB',hK'⟩;exact hK _ _ hK' rfl (HSt.out.wrote (k2:=4) (by simpa [hBk,hB1,hB2,hB3,hB4,bytesOf,pgB,numB] using hO') hB' hK')
 case hdone =>
  intro z v hst hag hok;have hst:PkSt rb B s ra rn rc ga gn gc w w2 4 v:=hst;have H5:=hDx hst;clear hst;obtain ⟨uu,hu,hzz⟩ := agree_frame [13,14,15,16,17,18,19,20,21,22,23,24,25,26,27,28,29,30,31,32,33,34,35,36,37,38,39] rfl hag;subst hzz;simp only [List.foldl_cons,List.foldl_nil];clear hu hag hok
  try dsimp only [Exit.then]
  simp only [List.setIfInBounds_toArray,List.set_cons_succ,List.set_cons_zero];generalize uu 13=u13',uu 14=u14',uu 15=u15',uu 16=u16',uu 17=u17',uu 18=u18',uu 19=u19',uu 20=u20',uu 21=u21',uu 22=u22',uu 23=u23',uu 24=u24',uu 25=u25',uu 26=u26',uu 27=u27',uu 28=u28',uu 29=u29',uu 30=u30',uu 31=u31',uu 32=u32',uu 33=u33',uu 34=u34',uu 35=u35',uu 36=u36',uu 37=u37',uu 38=u38',uu 39=u39';clear uu;rename_i K hK;refine hK _ _ ?_;have c6:=(ten_cells H5.out.bx).2.2.2.2.2.2.1;have hlen:=HI.out.rows.len;have hex:=HI.out.rows.ex;have hnI:(rn:Int)≤9223372036854775807:=by obtain ⟨vs,h1,-⟩ := hex; have h2:=h1.fit; have h3:=h1.top; omega
  have HLn:=hDx hlen;have HX:=hDx hex;have h5o:OutAt rb B (headB s) v:=by rw [← hB4_head]; exact H5.out.o
  have HF5:Hid (OutAt rb B (headB s++(s.R.take 0).flatMap packR) v∧Below rb w v∧rb≤v.heap.size):=hDx ⟨by simpa using h5o,H5.out.b,H5.out.sz⟩;have HHd:Hid ((headB s).length≤20000):=hDx (headB_len HBd.out.1 HBd.out.2);have HRl:Hid (s.R.length≤1000):=hDx HB.out.rows;clear hlen hex h5o
  go_wp2_with fail
  clear c6
  go_loopw [43] (fun i wr=>∃ j:Nat,i=.int .i64 (j:Int)∧j≤rn∧Hid (OutAt rb B (headB s++(s.R.take j).flatMap packR) wr∧Below rb w wr∧rb≤wr.heap.size)) (fun i _=>rn - (intOf i).toNat)
  case atStart=>exact ⟨0,rfl,Nat.zero_le _,HF5⟩
  case round =>
   obtain ⟨j,rfl,hj,HF⟩ := hrel;by_cases hlt:j<rn
   · have hd:decide (j<rn)=true:=decide_eq_true hlt;have hjI:(j:Int)<rn:=by omega
     have hjl:j<s.R.length:=by rw [← HLn.out]; exact hlt
     obtain ⟨us0,hin,hrv,-⟩ := HX.out;have hju:j<us0.length:=by rw [hrv.1]; exact hjl
     obtain ⟨ab,ao,rfl,hab,hAt⟩ := hin.at_.resolve_left (by intro e; rw [e] at hju; simp at hju);have hat:=hAt j us0[j] (List.getElem?_eq_getElem hju);have hrj:=hrv.2 j us0[j] s.R[j] (List.getElem?_eq_getElem hju) (List.getElem?_eq_getElem hjl);have hsn:=packN_rows s.R j hjl;have hwd:=HWd.out s.R[j] (List.getElem_mem hjl);have hpl:=packR_len s.R[j];have hml:((s.R.take j).flatMap packR).length≤36009000:=by
      have h1:=rows_len (s.R.take j) 1000 (fun r hr=>(HWd.out r (List.mem_of_mem_take hr)).2);have h2:(s.R.take j).length≤1000:=by rw [List.length_take]; have:=HRl.out; omega
      omega
     obtain ⟨⟨xa,xn,xc,xb⟩,hu⟩ : ∃ u,us0[j]=u:=⟨_,rfl⟩;obtain ⟨r,hre⟩ : ∃ r,s.R[j]=r:=⟨_,rfl⟩;rw [hu] at hat hrj;rw [hre] at hrj hsn hwd hpl;unfold Rv.val at hrj;simp only at hrj hat;have hxl:=hrj.of.2.2.2.2.2;have hab':ab<rb:=by rw [← HRb.out]; exact hab
     have k0:wr.cell? ⟨ab,ao+j*2,none⟩=some (.slice xa xn xc):=(HF.out.2.1.cell (p:=⟨ab,ao+j*2,none⟩) hab').trans hat.1;have k1:wr.cell? ⟨ab,ao+j*2+1,none⟩=some (.bool xb):=(HF.out.2.1.cell (p:=⟨ab,ao+j*2+1,none⟩) hab').trans hat.2;obtain ⟨gb,hgb⟩ : ∃ gb,wr.heap.size=gb:=⟨_,rfl⟩;obtain ⟨w5,hw5⟩ : ∃ w5,wr.alloc (.cells #[.slice xa xn xc,.bool xb] 57)=w5:=⟨_,rfl⟩;have hnew:w5.heap[gb]?=some (.cells #[.slice xa xn xc,.bool xb] 57 (0,0)):=by rw [← hw5,← hgb]; exact heap_alloc_new wr _
     have m0:w5.cell? ⟨gb,0,none⟩=some (.slice xa xn xc):=by rw [cell_block hnew]; rfl
     have m1:w5.cell? ⟨gb,1,none⟩=some (.bool xb):=by rw [cell_block hnew]; rfl
     have hb5:Below wr.heap.size wr w5:=by rw [← hw5]; exact (Below.refl _ _).alloc (Nat.le_refl _) _
     have hO5:=outAt_below HF.out.1 hb5;have hb05:Below rb w w5:=HF.out.2.1.trans (hb5.mono HF.out.2.2);have hs5:rb≤w5.heap.size:=Nat.le_trans HF.out.2.2 hb5.size;have HPR:=hDx (packRow_any xa xn xc xb r w5 (hrj.belowAll (by rw [HRb.out]; exact hb05)) hwd.1 (by have:=hwd.2; omega));have H5:Hid (OutAt rb B (headB s++(s.R.take j).flatMap packR) w5∧Below rb w w5∧rb≤w5.heap.size):=hDx ⟨hO5,hb05,hs5⟩;have HW5:=hDx hw5;have HGb:=hDx hgb;have HSn:=hDx hsn;have HLen:Hid ((headB s++(s.R.take j).flatMap packR).length+(packR r).length≤90000000):=hDx (by
      rw [List.length_append];have:=HHd.out;have:=hwd.2;omega)
     clear hjl hin hrv hju hAt hat hrj hsn hwd hpl hml hu hre hxl hab hab' hgb hw5 hnew hb5 hO5 hb05 hs5 HF
     go_upto_region 8 with fail
     rw [HW5.out,HGb.out];clear k0 k1
     go_wp2_with fail
     refine HPR.out.mono ?_;rintro e w6 ⟨rfl,hb6⟩;have hO6:=outAt_below H5.out.1 hb6;have hb06:Below rb w w6:=H5.out.2.1.trans (hb6.mono H5.out.2.2);have hs6:rb≤w6.heap.size:=Nat.le_trans H5.out.2.2 hb6.size;have hsz:(⟨(packR r).toArray⟩ : ByteArray).size=(packR r).length:=by show ((packR r).toArray).size=_; simp
     have hR:=raw_one rb B ⟨(packR r).toArray⟩ _ w6 (by have:=HLen.out; rw [hsz]; omega) HRB.out hO6 hs6;have HR:=hDx hR;have ha:Below w6.heap.size w6 (w6.alloc (.cells #[.string ⟨(packR r).toArray⟩] 9)):=(Below.refl _ _).alloc (Nat.le_refl _) _;have H6:Hid (Below rb w (w6.alloc (.cells #[.string ⟨(packR r).toArray⟩] 9))∧rb≤(w6.alloc (.cells #[.string ⟨(packR r).toArray⟩] 9)).heap.size):=hDx ⟨hb06.trans (ha.mono hs6),Nat.le_trans hs6 ha.size⟩;clear hb6 hO6 hb06 hs6 hsz hR ha m0 m1 HPR H5
     go_wp2_with fail
     refine HR.out.mono ?_;rintro e w7 ⟨rfl,hO7,hb7,hk7⟩;have HE:Hid (OutAt rb B (headB s++(s.R.take (j+1)).flatMap packR) w7∧Below rb w w7∧rb≤w7.heap.size):=hDx ⟨by
      rw [HSn.out,← List.append_assoc]
      simpa using hO7,H6.out.1.trans hb7,Nat.le_trans H6.out.2 hk7.size⟩
     clear hO7 hb7 hk7 HR H6
     go_wp2_with fail
     go_roundw
     case rel=>exact ⟨j+1,by go_num,by omega,HE⟩
     case measure=>simp [intOf]; omega
   · obtain rfl:j=rn:=by omega
     have hd:decide (j<j)=false:=by simp
     have hraw:headB s++(s.R.take j).flatMap packR=rawN s:=by rw [HLn.out,List.take_length]; rfl
     have hO:=HF.out.1;rw [hraw] at hO;have HBy:=hDx (bytes_any rb B _ wr hO);have hend:Hid (P (.returned (.string ⟨(rawN s).toArray⟩)) wr):=hDx (by rw [← HP.out,HPk.out]; exact ⟨rfl,HF.out.2.1⟩);clear HF hraw hO hlt
     go_wp2_with fail
     refine HBy.out.mono ?_;rintro e w8 ⟨rfl,rfl⟩
     go_wp2_with fail
     exact hend.out
end Go.Proofs.YtagolklnjhpbdaaDoor.K
