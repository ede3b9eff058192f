import Derived.Test.YtagolklnjhpbdaaDoorMerged0
import Derived.Test.YtagolklnjhpbdaaDoorMerged27
import Derived.Test.YtagolklnjhpbdaaDoorMerged29
import Derived.Test.YtagolklnjhpbdaaDoorDtAp
import Derived.Test.YtagolklnjhpbdaaDoorMerged25
import Derived.Test.YtagolklnjhpbdaaDoorMerged13
import Derived.Test.YtagolklnjhpbdaaDoorNRfP
namespace Go.Proofs.YtagolklnjhpbdaaDoor.K
open Go.Proofs.YtagolklnjhpbdaaDoor.R (agree_frame mem_slots slot_put slot_same wanted_of wp_region_due)
open Go.RowKit Go.Proofs.YtagolklnjhpbdaaDoor.I
theorem snIn_zero (rk:IntKind) (w:World):SnIn rk none 0 0 none 0 0 emptyN w:=⟨⟨⟨[],⟨rfl,Nat.le_refl _,by decide,.inl rfl⟩,RowsV.nil _ _,fun u hu=>by cases hu⟩,fun _=>rfl,fun h=>absurd rfl h⟩,⟨rfl,Nat.le_refl _,by decide,.inl rfl⟩,fun _=>rfl⟩
def LiF (m:Nat) (S1 S2 S3:Sn) (v:Value) (u:World):Prop:=∃ lb lo ln lc c1 c2 c3 c4 c5 c6 g1 g2 g3 g4 g5 g6 i1 i2 i3 i4 i5 i6,v=.slice (some ⟨lb,lo,none⟩) ln lc∧(lo=0∧ln=4∧lc=4)∧u.heap[lb]?=some (.cells #[.int .i64 0,.int .i64 0,.int .i64 0,.int .i64 0,.int .i64 0,.string ⟨#[]⟩,.slice none 0 0,.int .i64 0,.int .i64 0,.slice none 0 0,.int .i64 S1.k,.int .i64 S1.w,.int .i64 S1.h,.int .i64 S1.x,.int .i64 S1.y,.string S1.t,.slice c1 c2 c3,.int .i64 S1.n,.int .i64 S1.c,.slice c4 c5 c6,.int .i64 S2.k,.int .i64 S2.w,.int .i64 S2.h,.int .i64 S2.x,.int .i64 S2.y,.string S2.t,.slice g1 g2 g3,.int .i64 S2.n,.int .i64 S2.c,.slice g4 g5 g6,.int .i64 S3.k,.int .i64 S3.w,.int .i64 S3.h,.int .i64 S3.x,.int .i64 S3.y,.string S3.t,.slice i1 i2 i3,.int .i64 S3.n,.int .i64 S3.c,.slice i4 i5 i6] 25 (0,0))∧m≤lb∧SnO m c1 c2 c3 c4 c5 c6 S1 u∧SnO m g1 g2 g3 g4 g5 g6 S2 u∧SnO m i1 i2 i3 i4 i5 i6 S3 u
def C4 (m:Nat) (S1 S2 S3:Sn) (wB:World):Nat→(Nat→Value)→World→Prop
  | 0,_,u=>Below m wB u
  | 1,f,u=>Below m wB u∧AV m (f 16) S1 u
  | 2,f,u=>Below m wB u∧AV m (f 16) S1 u∧AV m (f 18) S2 u
  | 3,f,u=>Below m wB u∧AV m (f 16) S1 u∧AV m (f 18) S2 u∧AV m (f 20) S3 u
  | 4,f,u=>Below m wB u∧LiF m S1 S2 S3 (f 21) u
  | 5,f,u=>Below m wB u∧LiF m S1 S2 S3 (f 7) u
  | _,_,_=>False
theorem C4.base {m k:Nat} {S1 S2 S3:Sn} {wB u:World} {f:Nat→Value} (h:C4 m S1 S2 S3 wB k f u):Below m wB u:=by
 match k,h with
 | 0,h=>exact h
 | 1,h=>exact h.1
 | 2,h=>exact h.1
 | 3,h=>exact h.1
 | 4,h=>exact h.1
 | 5,h=>exact h.1
 | _+6,h=>exact h.elim
theorem C4.cong {m k:Nat} {S1 S2 S3:Sn} {wB u:World} {f f2:Nat→Value} (ea:k=1∨k=2∨k=3→f 16=f2 16) (eb:k=2∨k=3→f 18=f2 18) (ec:k=3→f 20=f2 20) (ed:k=4→f 21=f2 21) (ee:k=5→f 7=f2 7) (h:C4 m S1 S2 S3 wB k f u):C4 m S1 S2 S3 wB k f2 u:=by
 match k,h,ea,eb,ec,ed,ee with
 | 0,h,_,_,_,_,_=>exact h
 | 1,⟨h,h1⟩,ea,_,_,_,_=>exact ⟨h,by rw [← ea (.inl rfl)]; exact h1⟩
 | 2,⟨h,h1,h2⟩,ea,eb,_,_,_=>exact ⟨h,by rw [← ea (.inr (.inl rfl))]; exact h1,by rw [← eb (.inl rfl)]; exact h2⟩
 | 3,⟨h,h1,h2,h3⟩,ea,eb,ec,_,_=>exact ⟨h,by rw [← ea (.inr (.inr rfl))]; exact h1,by rw [← eb (.inr rfl)]; exact h2,by rw [← ec rfl]; exact h3⟩
 | 4,⟨h,h1⟩,_,_,_,ed,_=>exact ⟨h,by rw [← ed rfl]; exact h1⟩
 | 5,⟨h,h1⟩,_,_,_,_,ee=>exact ⟨h,by rw [← ee rfl]; exact h1⟩
 | _+6,h,_,_,_,_,_=>exact h.elim
def SnK (s:Sn) (u u2:World):Prop:=∀ xa xn xc ya yn yc,SnIn .i32 xa xn xc ya yn yc s u→SnIn .i32 xa xn xc ya yn yc s u2
theorem SnK.refl (s:Sn) (u:World):SnK s u u:=fun _ _ _ _ _ _ h=>h
theorem SnK.below {s:Sn} {u u2:World} (hb:Below u.heap.size u u2):SnK s u u2:=fun _ _ _ _ _ _ h=>h.belowAll hb
def AzN (m:Nat) (f:Nat→Value) (u:World):Prop:=∃ z,f 10=.pointer (some ⟨z,0,none⟩)∧m≤z∧u.heap[z]?=some (.cells #[.int .i64 0,.int .i64 0,.int .i64 0,.int .i64 0,.int .i64 0,.string ⟨#[]⟩,.slice none 0 0,.int .i64 0,.int .i64 0,.slice none 0 0] 25 (0,0))
def FiN (m:Nat) (s:Sn) (f:Nat→Value) (u:World):Prop:=∃ z ka kn kc la ln lc,f 10=.pointer (some ⟨z,0,none⟩)∧m≤z∧u.heap[z]?=some (.cells (snA s ka kn kc la ln lc) 25 (0,0))∧SnIn .i32 ka kn kc la ln lc s u
def G10 (m:Nat) (s:Sn) (wg:World) (k:Nat) (L:Nat→Bool) (f:Nat→Value) (u:World):Prop:=Below m wg u∧(k≤2→L 11=true→AzN m f u)∧(3≤k→FiN m s f u)
theorem G10.keep {m k:Nat} {s:Sn} {wg u:World} {L L2:Nat→Bool} {f f2:Nat→Value} (e:L2 11=L 11) (g:f2 10=f 10) (h:G10 m s wg k L f u):G10 m s wg k L2 f2 u:=by
 unfold G10 AzN FiN at h ⊢;rw [e,g];exact h
theorem G10.call {m k:Nat} {s:Sn} {wg u u2:World} {L L2:Nat→Bool} {f f2:Nat→Value} (hm:m≤wg.heap.size) (hk:k+1≤2) (e:L2 11=L 11) (g:f2 10=f 10) (hb:Below u.heap.size u u2) (h:G10 m s wg k L f u):G10 m s wg (k+1) L2 f2 u2:=by
 refine ⟨h.1.trans (hb.mono (Nat.le_trans hm h.1.size)),fun _ hL=>?_,fun h3=>by omega⟩;obtain ⟨z,h1,h2,h3⟩ := h.2.1 (by omega) (e ▸ hL);exact ⟨z,g.trans h1,h2,(hb.block z (gSx.1 h3).1).trans h3⟩
theorem G10.made {m k:Nat} {s:Sn} {wg u:World} {L L2:Nat→Bool} {f f2:Nat→Value} (hm:m≤wg.heap.size) (hk:k≤2) (g:f2 10=.pointer (some ⟨u.heap.size,0,none⟩)) (h:G10 m s wg k L f u):G10 m s wg k L2 f2 (u.alloc (.cells #[.int .i64 0,.int .i64 0,.int .i64 0,.int .i64 0,.int .i64 0,.string ⟨#[]⟩,.slice none 0 0,.int .i64 0,.int .i64 0,.slice none 0 0] 25)):=by
 have hb:Below u.heap.size u (u.alloc (.cells #[.int .i64 0,.int .i64 0,.int .i64 0,.int .i64 0,.int .i64 0,.string ⟨#[]⟩,.slice none 0 0,.int .i64 0,.int .i64 0,.slice none 0 0] 25)):=(Below.refl _ _).alloc (Nat.le_refl _) _;exact ⟨h.1.trans (hb.mono (Nat.le_trans hm h.1.size)),fun _ _=>⟨u.heap.size,g,Nat.le_trans hm h.1.size,heap_alloc_new u _⟩,fun h3=>by omega⟩
structure StI (ab:Nat) (wD u:World):Prop where
 b:Below wD.heap.size wD u
 a:∃ cur xa xn xc ya yn yc,u.heap[ab]?=some (.cells (snA cur xa xn xc ya yn yc) 25 (0,0))∧SnIn .i32 xa xn xc ya yn yc cur u∧SnB cur∧MayN cur
theorem list_cells {u:World} {b:Nat} {cs:Array Value} {T:TypeId} (h:u.heap[b]?=some (.cells cs T (0,0))) (o:Nat):u.cell? ⟨b,o,none⟩=cs[o]?:=cell_block h o
def SsOk3 (s1 s2 s3:Sn) (a1:Option Addr) (a2 a3:Nat) (a4:Option Addr) (a5 a6:Nat) (b1:Option Addr) (b2 b3:Nat) (b4:Option Addr) (b5 b6:Nat) (j1:Option Addr) (j2 j3:Nat) (j4:Option Addr) (j5 j6:Nat):Nat→Value→World→Prop
  | 0,u,_=>u=.agg #[.int .i64 0,.int .i64 0,.int .i64 0,.int .i64 0,.int .i64 0,.string ⟨#[]⟩,.slice none 0 0,.int .i64 0,.int .i64 0,.slice none 0 0]
  | 1,u,_=>u=.agg #[.int .i64 s1.k,.int .i64 s1.w,.int .i64 s1.h,.int .i64 s1.x,.int .i64 s1.y,.string s1.t,.slice a1 a2 a3,.int .i64 s1.n,.int .i64 s1.c,.slice a4 a5 a6]
  | 2,_,_=>True
  | 3,u,_=>u=.agg #[.int .i64 s2.k,.int .i64 s2.w,.int .i64 s2.h,.int .i64 s2.x,.int .i64 s2.y,.string s2.t,.slice b1 b2 b3,.int .i64 s2.n,.int .i64 s2.c,.slice b4 b5 b6]
  | 4,_,_=>True
  | 5,u,_=>u=.agg #[.int .i64 s3.k,.int .i64 s3.w,.int .i64 s3.h,.int .i64 s3.x,.int .i64 s3.y,.string s3.t,.slice j1 j2 j3,.int .i64 s3.n,.int .i64 s3.c,.slice j4 j5 j6]
  | 6,_,_=>True
  | 7,_,_=>True
  | 8,_,_=>True
  | _,_,_=>True
def SsOk10 (s cur:Sn) (q1:Option Addr) (q2 q3:Nat) (q4:Option Addr) (q5 q6:Nat) (x1:Option Addr) (x2 x3:Nat) (x4:Option Addr) (x5 x6:Nat) (lb lo ln lc j:Nat) (d:ByteArray):Nat→Value→World→Prop
  | 0,u,_=>u=.agg #[.int .i64 cur.k,.int .i64 cur.w,.int .i64 cur.h,.int .i64 cur.x,.int .i64 cur.y,.string cur.t,.slice x1 x2 x3,.int .i64 cur.n,.int .i64 cur.c,.slice x4 x5 x6]
  | 1,u,_=>u=.agg #[.int .i64 cur.k,.int .i64 cur.w,.int .i64 cur.h,.int .i64 cur.x,.int .i64 cur.y,.string cur.t,.slice x1 x2 x3,.int .i64 cur.n,.int .i64 cur.c,.slice x4 x5 x6]
  | 2,u,_=>u=.slice (some ⟨lb,lo,none⟩) ln lc
  | 3,u,_=>u=.int .i64 (j:Int)
  | 4,u,_=>u=.pointer (some ⟨lb,lo+j*10,none⟩)
  | 5,u,_=>u=.agg #[.int .i64 s.k,.int .i64 s.w,.int .i64 s.h,.int .i64 s.x,.int .i64 s.y,.string s.t,.slice q1 q2 q3,.int .i64 s.n,.int .i64 s.c,.slice q4 q5 q6]
  | 6,u,_=>u=.string d
  | 7,u,w=>∃ ka kn kc la ln lc,u=.tuple #[.agg #[.int .i64 s.k,.int .i64 s.w,.int .i64 s.h,.int .i64 s.x,.int .i64 s.y,.string s.t,.slice ka kn kc,.int .i64 s.n,.int .i64 s.c,.slice la ln lc],.int .i64 0]∧SnIn .i32 ka kn kc la ln lc s w
  | 8,u,w=>∃ ka kn kc la ln lc,u=.tuple #[.agg #[.int .i64 s.k,.int .i64 s.w,.int .i64 s.h,.int .i64 s.x,.int .i64 s.y,.string s.t,.slice ka kn kc,.int .i64 s.n,.int .i64 s.c,.slice la ln lc],.int .i64 0]∧SnIn .i32 ka kn kc la ln lc s w
  | 9,u,w=>∃ ka kn kc la ln lc,u=.agg #[.int .i64 s.k,.int .i64 s.w,.int .i64 s.h,.int .i64 s.x,.int .i64 s.y,.string s.t,.slice ka kn kc,.int .i64 s.n,.int .i64 s.c,.slice la ln lc]∧SnIn .i32 ka kn kc la ln lc s w
  | 10,u,_=>u=.int .i64 0
  | 11,_,_=>True
  | 12,_,_=>True
  | 13,u,_=>u=.int .i64 0
  | _,_,_=>True
def SsOk11 (s:Sn) (q1:Option Addr) (q2 q3:Nat) (q4:Option Addr) (q5 q6:Nat) (ka:Option Addr) (kn kc:Nat) (la:Option Addr) (lN lC:Nat) (p lb lo ln lc j:Nat):Nat→Value→World→Prop
  | 0,u,_=>u=.int .i64 0
  | 1,u,_=>u=.bool false
  | 2,u,_=>u=.bool false
  | 3,u,_=>u=.agg #[.int .i64 s.k,.int .i64 s.w,.int .i64 s.h,.int .i64 s.x,.int .i64 s.y,.string s.t,.slice ka kn kc,.int .i64 s.n,.int .i64 s.c,.slice la lN lC]
  | 4,u,_=>u=.slice (some ⟨lb,lo,none⟩) ln lc
  | 5,u,_=>u=.int .i64 (j:Int)
  | 6,u,_=>u=.pointer (some ⟨lb,lo+j*10,none⟩)
  | 7,u,_=>u=.agg #[.int .i64 s.k,.int .i64 s.w,.int .i64 s.h,.int .i64 s.x,.int .i64 s.y,.string s.t,.slice q1 q2 q3,.int .i64 s.n,.int .i64 s.c,.slice q4 q5 q6]
  | 8,u,_=>u=.bool true
  | 9,u,_=>u=.bool false
  | 10,u,_=>u=.bool false
  | 11,u,_=>u=.bool false
  | 12,u,_=>u=.agg #[.int .i64 s.k,.int .i64 s.w,.int .i64 s.h,.int .i64 s.x,.int .i64 s.y,.string s.t,.slice ka kn kc,.int .i64 s.n,.int .i64 s.c,.slice la lN lC]
  | 13,u,_=>u=.slice (some ⟨lb,lo,none⟩) ln lc
  | 14,u,_=>u=.int .i64 (j:Int)
  | 15,u,_=>u=.pointer (some ⟨lb,lo+j*10,none⟩)
  | 16,u,_=>u=.agg #[.int .i64 s.k,.int .i64 s.w,.int .i64 s.h,.int .i64 s.x,.int .i64 s.y,.string s.t,.slice q1 q2 q3,.int .i64 s.n,.int .i64 s.c,.slice q4 q5 q6]
  | 17,u,w=>∃ a c,u=.slice a 0 c
  | 18,u,_=>u=.int .i64 0
  | 19,u,_=>u=.bool false
  | 20,u,_=>u=.bool false
  | _,_,_=>True
set_option maxRecDepth 100000 in
set_option maxHeartbeats 16000000 in
theorem deltaSteps_walk (s1:Sn) (a1:Option Addr) (a2 a3:Nat) (a4:Option Addr) (a5 a6:Nat) (s2:Sn) (b1:Option Addr) (b2 b3:Nat) (b4:Option Addr) (b5 b6:Nat) (s3:Sn) (j1:Option Addr) (j2 j3:Nat) (j4:Option Addr) (j5 j6:Nat) (w:World) (hT0:S.Tab w)
    (hI1:SnIn .i32 a1 a2 a3 a4 a5 a6 s1 w) (hr1:∀ r ∈ s1.R,AllC Rng r.l) (hg1:∀ g ∈ s1.B,-2147483648≤g.1∧g.1≤2147483647) (ht1:(s1.t.size:Int)≤9223372036854775807)
    (hI2:SnIn .i32 b1 b2 b3 b4 b5 b6 s2 w) (hr2:∀ r ∈ s2.R,AllC Rng r.l) (hg2:∀ g ∈ s2.B,-2147483648≤g.1∧g.1≤2147483647) (ht2:(s2.t.size:Int)≤9223372036854775807)
    (hI3:SnIn .i32 j1 j2 j3 j4 j5 j6 s3 w) (hr3:∀ r ∈ s3.R,AllC Rng r.l) (hg3:∀ g ∈ s3.B,-2147483648≤g.1∧g.1≤2147483647) (ht3:(s3.t.size:Int)≤9223372036854775807) :
    Calls Tryd.prog 6 #[.agg (snA s1 a1 a2 a3 a4 a5 a6),.agg (snA s2 b1 b2 b3 b4 b5 b6),.agg (snA s3 j1 j2 j3 j4 j5 j6)] w fun e w'=>e=.returned (.bool true)∧Below w.heap.size w w':=by
 obtain ⟨rb,hrb⟩ : ∃ rb,w.heap.size=rb:=⟨_,rfl⟩;obtain ⟨P,hP⟩ : ∃ P:Ending→World→Prop,(fun e w'=>e=.returned (.bool true)∧Below w.heap.size w w')=P:=⟨_,rfl⟩;rw [hP];have HEnd:Hid (∀ v,Below rb w v→P (.returned (.bool true)) v):=hDx (fun v hb=>by rw [← hP,hrb]; exact ⟨rfl,hb⟩);obtain ⟨w1,hw1⟩ : ∃ w1,(((w.alloc (.cells (snA s1 a1 a2 a3 a4 a5 a6) 25)).alloc (.cells (snA s2 b1 b2 b3 b4 b5 b6) 25)).alloc (.cells (snA s3 j1 j2 j3 j4 j5 j6) 25))=w1:=⟨_,rfl⟩;have bb1:Below w.heap.size w (w.alloc (.cells (snA s1 a1 a2 a3 a4 a5 a6) 25)):=(Below.refl _ _).alloc (Nat.le_refl _) _;have bb2:Below w.heap.size w ((w.alloc (.cells (snA s1 a1 a2 a3 a4 a5 a6) 25)).alloc (.cells (snA s2 b1 b2 b3 b4 b5 b6) 25)):=bb1.alloc (by rw [World.size_alloc]; omega) _;have hb1:Below rb w w1:=by rw [← hw1,← hrb]; exact bb2.alloc (by rw [World.size_alloc,World.size_alloc]; omega) _
 have hz1:w1.heap[rb]?=some (.cells (snA s1 a1 a2 a3 a4 a5 a6) 25 (0,0)):=by
  rw [← hw1,← hrb,Below.heap_alloc _ _ _ (by rw [World.size_alloc,World.size_alloc]; omega),Below.heap_alloc _ _ _ (by rw [World.size_alloc]; omega)];exact heap_alloc_new w _
 have hy1:w1.heap[rb+1]?=some (.cells (snA s2 b1 b2 b3 b4 b5 b6) 25 (0,0)):=by
  have h:=heap_alloc_new (w.alloc (.cells (snA s1 a1 a2 a3 a4 a5 a6) 25)) (.cells (snA s2 b1 b2 b3 b4 b5 b6) 25);rw [World.size_alloc,hrb] at h;rw [← hw1,Below.heap_alloc _ _ _ (by rw [World.size_alloc,World.size_alloc,hrb]; omega)];exact h
 have hx1:w1.heap[rb+2]?=some (.cells (snA s3 j1 j2 j3 j4 j5 j6) 25 (0,0)):=by
  have h:=heap_alloc_new ((w.alloc (.cells (snA s1 a1 a2 a3 a4 a5 a6) 25)).alloc (.cells (snA s2 b1 b2 b3 b4 b5 b6) 25)) (.cells (snA s3 j1 j2 j3 j4 j5 j6) 25);rw [World.size_alloc,World.size_alloc,hrb,hw1] at h;exact h
 obtain ⟨S1,hS1⟩ : ∃ S,cutN s1=S:=⟨_,rfl⟩;have HS1:=hDx hS1;have HO1b:Hid (SnB S1):=hDx (by rw [← hS1]; exact cutN_b hr1 hg1);have HT1:=hDx ht1;have HI1w:=hDx hI1;obtain ⟨S2,hS2⟩ : ∃ S,cutN s2=S:=⟨_,rfl⟩;have HS2:=hDx hS2;have HO2b:Hid (SnB S2):=hDx (by rw [← hS2]; exact cutN_b hr2 hg2);have HT2:=hDx ht2;have HI2w:=hDx hI2;obtain ⟨S3,hS3⟩ : ∃ S,cutN s3=S:=⟨_,rfl⟩;have HS3:=hDx hS3;have HO3b:Hid (SnB S3):=hDx (by rw [← hS3]; exact cutN_b hr3 hg3);have HT3:=hDx ht3;have HI3w:=hDx hI3;have HFw:Hid (Few S1∧Few S2∧Few S3):=hDx ⟨by rw [← hS1]; exact cutN_few s1,by rw [← hS2]; exact cutN_few s2,by rw [← hS3]; exact cutN_few s3⟩;have HTb:=hDx hT0;have HA:=hDx (awake17_any w1 (S.tab_of hT0 (show Below w.heap.size w w1 from by rw [hrb]; exact hb1)));have HW1:=hDx hw1;have HRb:=hDx hrb;have HB1:=hDx hb1;have HZ1w:=hDx hz1;have HY1w:=hDx hy1;have HX1w:=hDx hx1
 clear hP hrb hw1 bb1 bb2 hb1 hz1 hy1 hx1 hT0 hS1 hS2 hS3 hr1 hr2 hr3 hg1 hg2 hg3 ht1 ht2 ht3 hI1 hI2 hI3;unfold snA at HW1;unfold snA
 go_enter Tryd.func6,Tryd.ntmps6
 go_upto_region 1 with fail
 rw [HW1.out,HRb.out]
 go_wp2_with fail
 refine HA.out.mono ?_;rintro e wB ⟨rfl,hbB⟩;obtain ⟨m,hm⟩ : ∃ m,wB.heap.size=m:=⟨_,rfl⟩;have HM:=hDx hm;have hz1l:=(gSx.1 HZ1w.out).1;have hy1l:=(gSx.1 HY1w.out).1;have hx1l:=(gSx.1 HX1w.out).1;have HZa:=hDx ((hbB.block rb hz1l).trans HZ1w.out);have HZb:=hDx ((hbB.block (rb+1) hy1l).trans HY1w.out);have HZc:=hDx ((hbB.block (rb+2) hx1l).trans HX1w.out);have HBw:Hid (Below rb w wB):=hDx (HB1.out.trans (hbB.mono (by omega)));have HLt:Hid (rb<m∧rb+1<m∧rb+2<m):=hDx (by have:=hbB.size; omega);have HLt2:Hid (rb≤m):=hDx (by have:=hbB.size; omega);have HI1:=hDx (HI1w.out.belowAll (show Below w.heap.size w wB from by rw [HRb.out]; exact HBw.out));have HI2:=hDx (HI2w.out.belowAll (show Below w.heap.size w wB from by rw [HRb.out]; exact HBw.out));have HI3:=hDx (HI3w.out.belowAll (show Below w.heap.size w wB from by rw [HRb.out]; exact HBw.out));clear hm hbB hz1l hy1l hx1l HA
 go_upto_region 3 with fail
 refine wp_region_due [2,4,6,7,8] [3,0,1,1,2,2,3,4,5] (by kernel_rfl) (C4 m S1 S2 S3 wB) (fun _ _=>True) (SsOk3 s1 s2 s3 a1 a2 a3 a4 a5 a6 b1 b2 b3 b4 b5 b6 j1 j2 j3 j4 j5 j6) (by rfl) (by kernel_rfl) (by kernel_rfl) (by kernel_rfl) (by kernel_rfl) ?hcong ?hOk ?hop ?hdone ?h0
 case hcong=>exact fun k f f2 u hs hst=>C4.cong (fun hk=>by rcases hk with hk | hk | hk <;> exact hs 16 (mem_slots (by subst hk; kernel_rfl))) (fun hk=>by rcases hk with hk | hk <;> exact hs 18 (mem_slots (by subst hk; kernel_rfl))) (fun hk=>hs 20 (mem_slots (by subst hk; kernel_rfl))) (fun hk=>hs 21 (mem_slots (by subst hk; kernel_rfl))) (fun hk=>hs 7 (mem_slots (by subst hk; kernel_rfl))) hst
 case hOk=>intro i u w1 w2 h hr; unfold SsOk3 at h ⊢; split <;> first | exact True.intro | exact h
 case h0=>exact (Below.refl _ _).drew
 case hop =>
  refine ⟨?_,?_,?_,?_,?_,?_,?_,?_,?_,trivial⟩
  · intro k z v hk hst hag hdep;refine .inl ⟨rfl,fun K hK=>?_⟩;have HSt:=hDx hst;clear hdep hag hst;go_simp;exact hK _ _ trivial rfl HSt.out
  · intro k z v hk hst hag hdep;refine .inl ⟨rfl,fun K hK=>?_⟩;have d3:z.tmps.getD 3 undef=.pointer (some ⟨rb,0,none⟩):=hag.2.2 3 (by kernel_rfl);have e3:=gEx d3;have hb:=C4.base hst;have hz:=(hb.block (rb) HLt.out.1).trans HZa.out;unfold snA at hz;have lc0:v.cell? ⟨rb,0,none⟩=some (.int .i64 s1.k):=by rw [cell_block hz]; rfl
    have lc1:v.cell? ⟨rb,1,none⟩=some (.int .i64 s1.w):=by rw [cell_block hz]; rfl
    have lc2:v.cell? ⟨rb,2,none⟩=some (.int .i64 s1.h):=by rw [cell_block hz]; rfl
    have lc3:v.cell? ⟨rb,3,none⟩=some (.int .i64 s1.x):=by rw [cell_block hz]; rfl
    have lc4:v.cell? ⟨rb,4,none⟩=some (.int .i64 s1.y):=by rw [cell_block hz]; rfl
    have lc5:v.cell? ⟨rb,5,none⟩=some (.string s1.t):=by rw [cell_block hz]; rfl
    have lc6:v.cell? ⟨rb,6,none⟩=some (.slice a1 a2 a3):=by rw [cell_block hz]; rfl
    have lc7:v.cell? ⟨rb,7,none⟩=some (.int .i64 s1.n):=by rw [cell_block hz]; rfl
    have lc8:v.cell? ⟨rb,8,none⟩=some (.int .i64 s1.c):=by rw [cell_block hz]; rfl
    have lc9:v.cell? ⟨rb,9,none⟩=some (.slice a4 a5 a6):=by rw [cell_block hz]; rfl
    have HSt:=hDx hst;clear hdep hag hst;go_simp;exact hK _ _ trivial rfl HSt.out
  · intro z v hst hag hdep;refine ⟨rfl,fun K hK=>?_⟩;have d15:z.tmps.getD 15 undef=.agg #[.int .i64 s1.k,.int .i64 s1.w,.int .i64 s1.h,.int .i64 s1.x,.int .i64 s1.y,.string s1.t,.slice a1 a2 a3,.int .i64 s1.n,.int .i64 s1.c,.slice a4 a5 a6]:=hdep ⟨1,.data⟩ (by simp) rfl _ _ rfl rfl;have e15:=gEx d15;have hb:Below m wB v:=hst;have hca:=ncut_any s1 a1 a2 a3 a4 a5 a6 v (HI1.out.belowAll (by rw [HM.out]; exact hb)) HT1.out;unfold CutPost at hca;rw [HS1.out] at hca;have HCa:=hDx hca;clear hca;have HBv:=hDx hb;have hsz:16<z.tmps.size:=by rw [hag.2.1]; show 16<75; decide
    unfold snA at HCa;clear hdep hag hb hst;go_simp;refine HCa.out.mono ?_;rintro e w' ⟨xa,xn,xc,ya,yn,yc,rfl,hO,hb2⟩;exact hK _ _ trivial True.intro ⟨HBv.out.trans (hb2.mono (by have:=HBv.out.size; have:=HM.out; omega)),xa,xn,xc,ya,yn,yc,slot_same hsz,hO.weaken (by have:=HBv.out.size; have:=HM.out; omega)⟩
  · intro k z v hk hst hag hdep;refine .inl ⟨rfl,fun K hK=>?_⟩;have d4:z.tmps.getD 4 undef=.pointer (some ⟨rb+1,0,none⟩):=hag.2.2 4 (by kernel_rfl);have e4:=gEx d4;have hb:=C4.base hst;have hz:=(hb.block (rb+1) HLt.out.2.1).trans HZb.out;unfold snA at hz;have lc0:v.cell? ⟨rb+1,0,none⟩=some (.int .i64 s2.k):=by rw [cell_block hz]; rfl
    have lc1:v.cell? ⟨rb+1,1,none⟩=some (.int .i64 s2.w):=by rw [cell_block hz]; rfl
    have lc2:v.cell? ⟨rb+1,2,none⟩=some (.int .i64 s2.h):=by rw [cell_block hz]; rfl
    have lc3:v.cell? ⟨rb+1,3,none⟩=some (.int .i64 s2.x):=by rw [cell_block hz]; rfl
    have lc4:v.cell? ⟨rb+1,4,none⟩=some (.int .i64 s2.y):=by rw [cell_block hz]; rfl
    have lc5:v.cell? ⟨rb+1,5,none⟩=some (.string s2.t):=by rw [cell_block hz]; rfl
    have lc6:v.cell? ⟨rb+1,6,none⟩=some (.slice b1 b2 b3):=by rw [cell_block hz]; rfl
    have lc7:v.cell? ⟨rb+1,7,none⟩=some (.int .i64 s2.n):=by rw [cell_block hz]; rfl
    have lc8:v.cell? ⟨rb+1,8,none⟩=some (.int .i64 s2.c):=by rw [cell_block hz]; rfl
    have lc9:v.cell? ⟨rb+1,9,none⟩=some (.slice b4 b5 b6):=by rw [cell_block hz]; rfl
    have HSt:=hDx hst;clear hdep hag hst;go_simp;exact hK _ _ trivial rfl HSt.out
  · intro z v hst hag hdep;refine ⟨rfl,fun K hK=>?_⟩;have d17:z.tmps.getD 17 undef=.agg #[.int .i64 s2.k,.int .i64 s2.w,.int .i64 s2.h,.int .i64 s2.x,.int .i64 s2.y,.string s2.t,.slice b1 b2 b3,.int .i64 s2.n,.int .i64 s2.c,.slice b4 b5 b6]:=hdep ⟨3,.data⟩ (by simp) rfl _ _ rfl rfl;have e17:=gEx d17;obtain ⟨hb,hv1⟩ : Below m wB v∧AV m (z.tmps.getD 16 undef) S1 v:=hst;have hca:=ncut_any s2 b1 b2 b3 b4 b5 b6 v (HI2.out.belowAll (by rw [HM.out]; exact hb)) HT2.out;unfold CutPost at hca;rw [HS2.out] at hca;have HCa:=hDx hca;clear hca;have HBv:=hDx hb;have HV1:=hDx hv1;have hsz:18<z.tmps.size:=by rw [hag.2.1]; show 18<75; decide
    unfold snA at HCa;clear hdep hag hb hv1;go_simp;refine HCa.out.mono ?_;rintro e w' ⟨xa,xn,xc,ya,yn,yc,rfl,hO,hb2⟩;exact hK _ _ trivial True.intro ⟨HBv.out.trans (hb2.mono (by have:=HBv.out.size; have:=HM.out; omega)),by rw [slot_put (by decide)]; exact HV1.out.below hb2,xa,xn,xc,ya,yn,yc,slot_same hsz,hO.weaken (by have:=HBv.out.size; have:=HM.out; omega)⟩
  · intro k z v hk hst hag hdep;refine .inl ⟨rfl,fun K hK=>?_⟩;have d5:z.tmps.getD 5 undef=.pointer (some ⟨rb+2,0,none⟩):=hag.2.2 5 (by kernel_rfl);have e5:=gEx d5;have hb:=C4.base hst;have hz:=(hb.block (rb+2) HLt.out.2.2).trans HZc.out;unfold snA at hz;have lc0:v.cell? ⟨rb+2,0,none⟩=some (.int .i64 s3.k):=by rw [cell_block hz]; rfl
    have lc1:v.cell? ⟨rb+2,1,none⟩=some (.int .i64 s3.w):=by rw [cell_block hz]; rfl
    have lc2:v.cell? ⟨rb+2,2,none⟩=some (.int .i64 s3.h):=by rw [cell_block hz]; rfl
    have lc3:v.cell? ⟨rb+2,3,none⟩=some (.int .i64 s3.x):=by rw [cell_block hz]; rfl
    have lc4:v.cell? ⟨rb+2,4,none⟩=some (.int .i64 s3.y):=by rw [cell_block hz]; rfl
    have lc5:v.cell? ⟨rb+2,5,none⟩=some (.string s3.t):=by rw [cell_block hz]; rfl
    have lc6:v.cell? ⟨rb+2,6,none⟩=some (.slice j1 j2 j3):=by rw [cell_block hz]; rfl
    have lc7:v.cell? ⟨rb+2,7,none⟩=some (.int .i64 s3.n):=by rw [cell_block hz]; rfl
    have lc8:v.cell? ⟨rb+2,8,none⟩=some (.int .i64 s3.c):=by rw [cell_block hz]; rfl
    have lc9:v.cell? ⟨rb+2,9,none⟩=some (.slice j4 j5 j6):=by rw [cell_block hz]; rfl
    have HSt:=hDx hst;clear hdep hag hst;go_simp;exact hK _ _ trivial rfl HSt.out
  · intro z v hst hag hdep;refine ⟨rfl,fun K hK=>?_⟩;have d19:z.tmps.getD 19 undef=.agg #[.int .i64 s3.k,.int .i64 s3.w,.int .i64 s3.h,.int .i64 s3.x,.int .i64 s3.y,.string s3.t,.slice j1 j2 j3,.int .i64 s3.n,.int .i64 s3.c,.slice j4 j5 j6]:=hdep ⟨5,.data⟩ (by simp) rfl _ _ rfl rfl;have e19:=gEx d19;obtain ⟨hb,hv1,hv2⟩ : Below m wB v∧AV m (z.tmps.getD 16 undef) S1 v∧AV m (z.tmps.getD 18 undef) S2 v:=hst;have hca:=ncut_any s3 j1 j2 j3 j4 j5 j6 v (HI3.out.belowAll (by rw [HM.out]; exact hb)) HT3.out;unfold CutPost at hca;rw [HS3.out] at hca;have HCa:=hDx hca;clear hca;have HBv:=hDx hb;have HV1:=hDx hv1;have HV2:=hDx hv2;have hsz:20<z.tmps.size:=by rw [hag.2.1]; show 20<75; decide
    unfold snA at HCa;clear hdep hag hb hv1 hv2;go_simp;refine HCa.out.mono ?_;rintro e w' ⟨xa,xn,xc,ya,yn,yc,rfl,hO,hb2⟩;exact hK _ _ trivial True.intro ⟨HBv.out.trans (hb2.mono (by have:=HBv.out.size; have:=HM.out; omega)),by rw [slot_put (by decide)]; exact HV1.out.below hb2,by rw [slot_put (by decide)]; exact HV2.out.below hb2,xa,xn,xc,ya,yn,yc,slot_same hsz,hO.weaken (by have:=HBv.out.size; have:=HM.out; omega)⟩
  · intro z v hst hag hdep;refine ⟨rfl,fun K hK=>?_⟩;have d14:z.tmps.getD 14 undef=.agg #[.int .i64 0,.int .i64 0,.int .i64 0,.int .i64 0,.int .i64 0,.string ⟨#[]⟩,.slice none 0 0,.int .i64 0,.int .i64 0,.slice none 0 0]:=hdep ⟨0,.data⟩ (by simp) rfl _ _ rfl rfl;have e14:=gEx d14;obtain ⟨hb,⟨c1,c2,c3,c4,c5,c6,e16v,hO1⟩,⟨g1,g2,g3,g4,g5,g6,e18v,hO2⟩,i1,i2,i3,i4,i5,i6,e20v,hO3⟩ : Below m wB v∧AV m (z.tmps.getD 16 undef) S1 v∧AV m (z.tmps.getD 18 undef) S2 v∧AV m (z.tmps.getD 20 undef) S3 v:=hst;unfold snA at e16v;have d16:=e16v;have e16:=gEx d16;unfold snA at e18v;have d18:=e18v;have e18:=gEx d18;unfold snA at e20v;have d20:=e20v;have e20:=gEx d20;have HBv:=hDx hb;have HO1:=hDx hO1;have HO2:=hDx hO2;have HO3:=hDx hO3;have hsz:21<z.tmps.size:=by rw [hag.2.1]; show 21<75; decide
    clear hdep hag hb hO1 hO2 hO3 e16v e18v e20v;go_simp;have hb2:Below v.heap.size v (v.alloc (.cells #[.int .i64 0,.int .i64 0,.int .i64 0,.int .i64 0,.int .i64 0,.string ⟨#[]⟩,.slice none 0 0,.int .i64 0,.int .i64 0,.slice none 0 0,.int .i64 S1.k,.int .i64 S1.w,.int .i64 S1.h,.int .i64 S1.x,.int .i64 S1.y,.string S1.t,.slice c1 c2 c3,.int .i64 S1.n,.int .i64 S1.c,.slice c4 c5 c6,.int .i64 S2.k,.int .i64 S2.w,.int .i64 S2.h,.int .i64 S2.x,.int .i64 S2.y,.string S2.t,.slice g1 g2 g3,.int .i64 S2.n,.int .i64 S2.c,.slice g4 g5 g6,.int .i64 S3.k,.int .i64 S3.w,.int .i64 S3.h,.int .i64 S3.x,.int .i64 S3.y,.string S3.t,.slice i1 i2 i3,.int .i64 S3.n,.int .i64 S3.c,.slice i4 i5 i6] 25)):=(Below.refl _ _).alloc (Nat.le_refl _) _
    exact hK _ _ trivial True.intro ⟨HBv.out.trans (hb2.mono (by have:=HBv.out.size; have:=HM.out; omega)),v.heap.size,0,4,4,c1,c2,c3,c4,c5,c6,g1,g2,g3,g4,g5,g6,i1,i2,i3,i4,i5,i6,slot_same hsz,⟨rfl,rfl,rfl⟩,heap_alloc_new v _,by have:=HBv.out.size; have:=HM.out; omega,HO1.out.below hb2,HO2.out.below hb2,HO3.out.below hb2⟩
  · intro z v hst hag hdep;refine ⟨rfl,fun K hK=>?_⟩
    obtain ⟨hb,lb,lo,ln,lc,c1,c2,c3,c4,c5,c6,g1,g2,g3,g4,g5,g6,i1,i2,i3,i4,i5,i6,e21v,hli⟩ : Below m wB v∧∃ lb lo ln lc c1 c2 c3 c4 c5 c6 g1 g2 g3 g4 g5 g6 i1 i2 i3 i4 i5 i6,z.tmps.getD 21 undef=.slice (some ⟨lb,lo,none⟩) ln lc∧(lo=0∧ln=4∧lc=4)∧v.heap[lb]?=some (.cells #[.int .i64 0,.int .i64 0,.int .i64 0,.int .i64 0,.int .i64 0,.string ⟨#[]⟩,.slice none 0 0,.int .i64 0,.int .i64 0,.slice none 0 0,.int .i64 S1.k,.int .i64 S1.w,.int .i64 S1.h,.int .i64 S1.x,.int .i64 S1.y,.string S1.t,.slice c1 c2 c3,.int .i64 S1.n,.int .i64 S1.c,.slice c4 c5 c6,.int .i64 S2.k,.int .i64 S2.w,.int .i64 S2.h,.int .i64 S2.x,.int .i64 S2.y,.string S2.t,.slice g1 g2 g3,.int .i64 S2.n,.int .i64 S2.c,.slice g4 g5 g6,.int .i64 S3.k,.int .i64 S3.w,.int .i64 S3.h,.int .i64 S3.x,.int .i64 S3.y,.string S3.t,.slice i1 i2 i3,.int .i64 S3.n,.int .i64 S3.c,.slice i4 i5 i6] 25 (0,0))∧m≤lb∧SnO m c1 c2 c3 c4 c5 c6 S1 v∧SnO m g1 g2 g3 g4 g5 g6 S2 v∧SnO m i1 i2 i3 i4 i5 i6 S3 v:=hst
    have d21:=e21v;have e21:=gEx d21;have HBv:=hDx hb;have HLi:=hDx hli;have hsz:7<z.tmps.size:=by rw [hag.2.1]; show 7<75; decide
    clear hdep hag hb hli e21v;go_simp;exact hK _ _ trivial True.intro ⟨HBv.out,lb,lo,ln,lc,c1,c2,c3,c4,c5,c6,g1,g2,g3,g4,g5,g6,i1,i2,i3,i4,i5,i6,slot_same hsz,HLi.out⟩
 case hdone =>
  intro z v hst hag hok
  obtain ⟨hb3,lb,lo,ln,lc,c1,c2,c3,c4,c5,c6,g1,g2,g3,g4,g5,g6,i1,i2,i3,i4,i5,i6,f7,hli⟩ : Below m wB v∧∃ lb lo ln lc c1 c2 c3 c4 c5 c6 g1 g2 g3 g4 g5 g6 i1 i2 i3 i4 i5 i6,z.tmps.getD 7 undef=.slice (some ⟨lb,lo,none⟩) ln lc∧(lo=0∧ln=4∧lc=4)∧v.heap[lb]?=some (.cells #[.int .i64 0,.int .i64 0,.int .i64 0,.int .i64 0,.int .i64 0,.string ⟨#[]⟩,.slice none 0 0,.int .i64 0,.int .i64 0,.slice none 0 0,.int .i64 S1.k,.int .i64 S1.w,.int .i64 S1.h,.int .i64 S1.x,.int .i64 S1.y,.string S1.t,.slice c1 c2 c3,.int .i64 S1.n,.int .i64 S1.c,.slice c4 c5 c6,.int .i64 S2.k,.int .i64 S2.w,.int .i64 S2.h,.int .i64 S2.x,.int .i64 S2.y,.string S2.t,.slice g1 g2 g3,.int .i64 S2.n,.int .i64 S2.c,.slice g4 g5 g6,.int .i64 S3.k,.int .i64 S3.w,.int .i64 S3.h,.int .i64 S3.x,.int .i64 S3.y,.string S3.t,.slice i1 i2 i3,.int .i64 S3.n,.int .i64 S3.c,.slice i4 i5 i6] 25 (0,0))∧m≤lb∧SnO m c1 c2 c3 c4 c5 c6 S1 v∧SnO m g1 g2 g3 g4 g5 g6 S2 v∧SnO m i1 i2 i3 i4 i5 i6 S3 v:=hst
  have d7:z.tmps.getD 7 undef=.slice (some ⟨lb,lo,none⟩) ln lc:=f7;have HB3:=hDx hb3;have HLi:=hDx hli;clear hb3 hli f7;obtain ⟨uu,hu,hzz⟩ := agree_frame [14,15,16,17,18,19,20,21,7] rfl hag;have e7:=(hu 7).trans d7;subst hzz;simp only [List.foldl_cons,List.foldl_nil];rw [e7];clear e7 d7 hu hag hok
  try dsimp only [Exit.then]
  simp only [List.setIfInBounds_toArray,List.set_cons_succ,List.set_cons_zero];generalize uu 14=u14',uu 15=u15',uu 16=u16',uu 17=u17',uu 18=u18',uu 19=u19',uu 20=u20',uu 21=u21';clear uu;rename_i K3 hK3;refine hK3 _ _ ?_;obtain ⟨wD,hwD⟩ : ∃ wD,v=wD:=⟨_,rfl⟩;rw [hwD] at HB3 HLi ⊢;clear hwD;have HBD:Hid (Below rb w wD):=hDx (HBw.out.trans (HB3.out.mono HLt2.out));have HLn:Hid (ln=4):=hDx HLi.out.1.2.1
  have HLs:Hid (∀ j:Nat,1≤j→j<ln→∃ s q1 q2 q3 q4 q5 q6,SnB s∧Few s∧∀ u,Below wD.heap.size wD u→SnIn .i32 q1 q2 q3 q4 q5 q6 s u∧u.cell? ⟨lb,lo+j*10,none⟩=some (.int .i64 s.k)∧u.cell? ⟨lb,lo+j*10+1,none⟩=some (.int .i64 s.w)∧u.cell? ⟨lb,lo+j*10+2,none⟩=some (.int .i64 s.h)∧u.cell? ⟨lb,lo+j*10+3,none⟩=some (.int .i64 s.x)∧u.cell? ⟨lb,lo+j*10+4,none⟩=some (.int .i64 s.y)∧u.cell? ⟨lb,lo+j*10+5,none⟩=some (.string s.t)∧u.cell? ⟨lb,lo+j*10+6,none⟩=some (.slice q1 q2 q3)∧u.cell? ⟨lb,lo+j*10+7,none⟩=some (.int .i64 s.n)∧u.cell? ⟨lb,lo+j*10+8,none⟩=some (.int .i64 s.c)∧u.cell? ⟨lb,lo+j*10+9,none⟩=some (.slice q4 q5 q6)):=hDx (by
   obtain ⟨⟨h1,h2,h3⟩,-⟩ := HLi.out;subst h1;intro j hj hl;have hj3:j=1∨j=2∨j=3:=by omega
   rcases hj3 with rfl | rfl | rfl
   · refine ⟨S1,c1,c2,c3,c4,c5,c6,HO1b.out,HFw.out.1,fun u hb=>⟨(HLi.out.2.2.2.1).snIn.belowAll hb,?_⟩⟩;have hl:=(hb.block lb (gSx.1 HLi.out.2.1).1).trans HLi.out.2.1;refine ⟨?_,?_,?_,?_,?_,?_,?_,?_,?_,?_⟩ <;> (rw [list_cells hl]; rfl)
   · refine ⟨S2,g1,g2,g3,g4,g5,g6,HO2b.out,HFw.out.2.1,fun u hb=>⟨(HLi.out.2.2.2.2.1).snIn.belowAll hb,?_⟩⟩;have hl:=(hb.block lb (gSx.1 HLi.out.2.1).1).trans HLi.out.2.1;refine ⟨?_,?_,?_,?_,?_,?_,?_,?_,?_,?_⟩ <;> (rw [list_cells hl]; rfl)
   · refine ⟨S3,i1,i2,i3,i4,i5,i6,HO3b.out,HFw.out.2.2,fun u hb=>⟨(HLi.out.2.2.2.2.2).snIn.belowAll hb,?_⟩⟩;have hl:=(hb.block lb (gSx.1 HLi.out.2.1).1).trans HLi.out.2.1;refine ⟨?_,?_,?_,?_,?_,?_,?_,?_,?_,?_⟩ <;> (rw [list_cells hl]; rfl))
  have HTbD:Hid (∀ v,Below wD.heap.size wD v→S.Tab v):=hDx (fun v hb=>S.tab_of HTb.out (show Below w.heap.size w v from by rw [HRb.out]; exact HBD.out.trans (hb.mono (by have:=HBD.out.size; have:=HRb.out; omega))));have HEndD:Hid (∀ v,Below wD.heap.size wD v→P (.returned (.bool true)) v):=hDx (fun v hb=>HEnd.out v (HBD.out.trans (hb.mono (by have:=HBD.out.size; have:=HRb.out; omega))));obtain ⟨ab,hab⟩ : ∃ b,wD.heap.size=b:=⟨_,rfl⟩;obtain ⟨wE,hwE⟩ : ∃ w5,wD.alloc (.cells #[.int .i64 0,.int .i64 0,.int .i64 0,.int .i64 0,.int .i64 0,.string ⟨#[]⟩,.slice none 0 0,.int .i64 0,.int .i64 0,.slice none 0 0] 25)=w5:=⟨_,rfl⟩;have hbE:Below wD.heap.size wD wE:=by rw [← hwE]; exact (Below.refl _ _).alloc (Nat.le_refl _) _
  have hzE:wE.heap[ab]?=some (.cells (snA emptyN none 0 0 none 0 0) 25 (0,0)):=by rw [← hwE,← hab]; exact heap_alloc_new wD _
  have HIE:Hid (StI ab wD wE):=hDx ⟨hbE,emptyN,none,0,0,none,0,0,hzE,snIn_zero .i32 wE,SnB.empty,mayN_empty⟩;have HAb:=hDx hab;have HWE:=hDx hwE;clear hab hwE hbE hzE
  go_upto_region 5 with fail
  rw [HWE.out,HAb.out]
  go_wp2_with fail
  have hln4:(ln:Int)≤1000:=by have:=HLn.out; omega
  go_loopw [9] (fun i wr=>∃ j:Nat,i=.int .i64 (j:Int)∧1≤j∧j≤ln∧Hid (StI ab wD wr)) (fun i _=>ln - (intOf i).toNat)
  case atStart=>exact ⟨1,rfl,by omega,by have:=HLn.out; omega,HIE⟩
  case round =>
   obtain ⟨j,rfl,hj1,hj4,HJ⟩ := hrel;by_cases hlt:j<ln
   · have hd:decide (j<ln)=true:=decide_eq_true hlt;have hjI:(j:Int)<ln:=by omega
     obtain ⟨s,q1,q2,q3,q4,q5,q6,hsb,hfw,hcs⟩ := HLs.out j hj1 hlt;have HSb:=hDx hsb;have HFs:=hDx hfw;have HCs:=hDx hcs;clear hsb hfw hcs;obtain ⟨hin,n0,n1,n2,n3,n4,n5,n6,n7,n8,n9⟩ := HCs.out wr HJ.out.b;have HTo:=hDx (ntold_any s q1 q2 q3 q4 q5 q6 wr hin HSb.out);unfold snA at HTo;clear hin
     go_wp2_with fail
     refine HTo.out.mono ?_;rintro e wf ⟨xa,xn,xc,ya,yn,yc,rfl,hT,hbf⟩;have HPk:=hDx (nrfpack_any s xa xn xc ya yn yc wf hT.snIn HSb.out);have HBf:=hDx hbf;clear hT hbf n0 n1 n2 n3 n4 n5 n6 n7 n8 n9 HTo;unfold snA at HPk;unfold snA
     go_wp2_with fail
     refine HPk.out.mono ?_;rintro e wg ⟨t,rfl,ht,hbg⟩;have HBg:Hid (Below wr.heap.size wr wg):=hDx (HBf.out.trans (hbg.mono HBf.out.size));have HBDg:Hid (Below wD.heap.size wD wg):=hDx (HJ.out.b.trans (HBg.out.mono HJ.out.b.size));clear hbg HPk HBf;by_cases hp:packN s=[]
     · obtain ⟨r1,r2⟩ := toList_nil (b:=t) (by rw [ht]; exact hp);have hdf:diffN emptyN s=[]:=(diffN_nil emptyN s).2 (fun h=>(packN_full s).1 hp h.2);obtain ⟨hin,n0,n1,n2,n3,n4,n5,n6,n7,n8,n9⟩ := HCs.out wg HBDg.out;have HDf:Hid (Calls Tryd.prog 10 #[.agg #[.int .i64 0,.int .i64 0,.int .i64 0,.int .i64 0,.int .i64 0,.string ⟨#[]⟩,.slice none 0 0,.int .i64 0,.int .i64 0,.slice none 0 0],.agg #[.int .i64 s.k,.int .i64 s.w,.int .i64 s.h,.int .i64 s.x,.int .i64 s.y,.string s.t,.slice q1 q2 q3,.int .i64 s.n,.int .i64 s.c,.slice q4 q5 q6]] wg (DiPost emptyN s wg)):=hDx (diff_any emptyN s none 0 0 none 0 0 q1 q2 q3 q4 q5 q6 wg (snIn_zero .i32 wg) SnB.empty hin HSb.out (HTbD.out wg HBDg.out) 1449 (few_row HFs.out _) (few_all HFs.out _));unfold DiPost at HDf;rw [hdf] at HDf;clear hin hp ht hdf
       go_wp2_with fail
       refine HDf.out.mono ?_;rintro e wh ⟨rfl,hbh⟩;have hend:=hDx (HEndD.out wh (HBDg.out.trans (hbh.mono HBDg.out.size)));clear hbh n0 n1 n2 n3 n4 n5 n6 n7 n8 n9 HDf
       go_wp2_with fail
       exact hend.out
     · obtain ⟨r1,r2⟩ := toList_some (b:=t) (by rw [ht]; exact hp);have HFu:Hid (FullN s):=hDx (Classical.byContradiction fun h=>hp ((packN_full s).2 h));clear hp ht;obtain ⟨cur,x1,x2,x3,x4,x5,x6,ha9,hi9,hb9,hm9⟩ := HJ.out.a;have HAt:=hDx ((HBg.out.block ab (gSx.1 ha9).1).trans ha9);have HCu:Hid (SnIn .i32 x1 x2 x3 x4 x5 x6 cur wg):=hDx (hi9.belowAll HBg.out);have HCb:=hDx hb9;have HCm:=hDx hm9;clear ha9 hi9 hb9 hm9;obtain ⟨d,hd⟩ : ∃ t:ByteArray,(⟨(diffN cur s).toArray⟩ : ByteArray)=t:=⟨_,rfl⟩;have HD:Hid (d.data.toList=diffN cur s):=hDx (by rw [← hd]);obtain ⟨m7,hm7⟩ : ∃ m,wg.heap.size=m:=⟨_,rfl⟩;have HM7:=hDx hm7
       have HDf:Hid (∀ v,Below m7 wg v→Calls Tryd.prog 10 #[.agg #[.int .i64 cur.k,.int .i64 cur.w,.int .i64 cur.h,.int .i64 cur.x,.int .i64 cur.y,.string cur.t,.slice x1 x2 x3,.int .i64 cur.n,.int .i64 cur.c,.slice x4 x5 x6],.agg #[.int .i64 s.k,.int .i64 s.w,.int .i64 s.h,.int .i64 s.x,.int .i64 s.y,.string s.t,.slice q1 q2 q3,.int .i64 s.n,.int .i64 s.c,.slice q4 q5 q6]] v fun e w'=>e=.returned (.string d)∧Below v.heap.size v w'):=hDx (fun v hb=>by
        rw [← hm7] at hb;rw [← hd];exact diff_any cur s x1 x2 x3 x4 x5 x6 q1 q2 q3 q4 q5 q6 v (HCu.out.belowAll hb) HCb.out (HCs.out v (HBDg.out.trans (hb.mono HBDg.out.size))).1 HSb.out (HTbD.out v (HBDg.out.trans (hb.mono HBDg.out.size))) 1449 (few_row HFs.out _) (few_all HFs.out _))
       have HAp:Hid (∀ v,Below m7 wg v→Calls Tryd.prog 17 #[.agg #[.int .i64 cur.k,.int .i64 cur.w,.int .i64 cur.h,.int .i64 cur.x,.int .i64 cur.y,.string cur.t,.slice x1 x2 x3,.int .i64 cur.n,.int .i64 cur.c,.slice x4 x5 x6],.string d] v (ApPost (s,0) v)):=hDx (fun v hb=>by
        rw [← hm7] at hb;have h:=apply_any d (by have h1:=diffN_len HFs.out cur; rw [← HD.out] at h1; have h2:d.data.toList.length=d.size:=rfl; omega) cur x1 x2 x3 x4 x5 x6 v (HCu.out.belowAll hb) HCb.out (HTbD.out v (HBDg.out.trans (hb.mono HBDg.out.size)));rw [HD.out,apply_back HCm.out HFu.out] at h;exact h)
       clear hd hm7;unfold ApPost at HAp;unfold snA at HAp
       go_upto_region 10 with fail
       refine Go.Proofs.YtagolklnjhpbdaaDoor.R.wp_region_seen [6,7,12] [1,0,0,0,0,0,1,2,2,2,3,2,3,3] (by kernel_rfl) (G10 m7 s wg) (SnK s) (SsOk10 s cur q1 q2 q3 q4 q5 q6 x1 x2 x3 x4 x5 x6 lb lo ln lc j d) (by rfl) (by kernel_rfl) (by kernel_rfl) (by kernel_rfl) (by kernel_rfl) ?hOk ?hop ?hdone ?h0
       case hOk=>intro i u w1 w2 h hr; unfold SsOk10 at h ⊢; split <;> first | exact True.intro | exact h | (obtain ⟨ka,kn,kc,la,lN,lC,e,h⟩ := h; exact ⟨ka,kn,kc,la,lN,lC,e,hr _ _ _ _ _ _ h⟩)
       case h0=>exact ⟨(Below.refl _ _).drew,(fun _ h=>by cases h),(fun h=>absurd h (by decide))⟩
       case hop =>
        refine ⟨?_,?_,?_,?_,?_,?_,?_,?_,?_,?_,?_,?_,?_,?_,trivial⟩
        · intro k L z v hk hL hst hag hpre hdep;refine .inl ⟨rfl,fun K hK=>?_⟩;have d8:z.tmps.getD 8 undef=.pointer (some ⟨ab,0,none⟩):=hag.2.2 8 (by kernel_rfl);have e8:=gEx d8;have hb:Below wg.heap.size wg v:=by rw [HM7.out]; exact hst.1
          have hz:=(hb.block ab (gSx.1 HAt.out).1).trans HAt.out;unfold snA at hz;have lc0:v.cell? ⟨ab,0,none⟩=some (.int .i64 cur.k):=by rw [cell_block hz]; rfl
          have lc1:v.cell? ⟨ab,1,none⟩=some (.int .i64 cur.w):=by rw [cell_block hz]; rfl
          have lc2:v.cell? ⟨ab,2,none⟩=some (.int .i64 cur.h):=by rw [cell_block hz]; rfl
          have lc3:v.cell? ⟨ab,3,none⟩=some (.int .i64 cur.x):=by rw [cell_block hz]; rfl
          have lc4:v.cell? ⟨ab,4,none⟩=some (.int .i64 cur.y):=by rw [cell_block hz]; rfl
          have lc5:v.cell? ⟨ab,5,none⟩=some (.string cur.t):=by rw [cell_block hz]; rfl
          have lc6:v.cell? ⟨ab,6,none⟩=some (.slice x1 x2 x3):=by rw [cell_block hz]; rfl
          have lc7:v.cell? ⟨ab,7,none⟩=some (.int .i64 cur.n):=by rw [cell_block hz]; rfl
          have lc8:v.cell? ⟨ab,8,none⟩=some (.int .i64 cur.c):=by rw [cell_block hz]; rfl
          have lc9:v.cell? ⟨ab,9,none⟩=some (.slice x4 x5 x6):=by rw [cell_block hz]; rfl
          clear hb hz;have HSt:=hDx hst;clear hpre hdep hag hst;go_simp;exact hK _ _ (SnK.refl _ _) rfl (G10.keep rfl (slot_put (by decide)) HSt.out)
        · intro k L z v hk hL hst hag hpre hdep;refine .inl ⟨rfl,fun K hK=>?_⟩;have d8:z.tmps.getD 8 undef=.pointer (some ⟨ab,0,none⟩):=hag.2.2 8 (by kernel_rfl);have e8:=gEx d8;have hb:Below wg.heap.size wg v:=by rw [HM7.out]; exact hst.1
          have hz:=(hb.block ab (gSx.1 HAt.out).1).trans HAt.out;unfold snA at hz;have lc0:v.cell? ⟨ab,0,none⟩=some (.int .i64 cur.k):=by rw [cell_block hz]; rfl
          have lc1:v.cell? ⟨ab,1,none⟩=some (.int .i64 cur.w):=by rw [cell_block hz]; rfl
          have lc2:v.cell? ⟨ab,2,none⟩=some (.int .i64 cur.h):=by rw [cell_block hz]; rfl
          have lc3:v.cell? ⟨ab,3,none⟩=some (.int .i64 cur.x):=by rw [cell_block hz]; rfl
          have lc4:v.cell? ⟨ab,4,none⟩=some (.int .i64 cur.y):=by rw [cell_block hz]; rfl
          have lc5:v.cell? ⟨ab,5,none⟩=some (.string cur.t):=by rw [cell_block hz]; rfl
          have lc6:v.cell? ⟨ab,6,none⟩=some (.slice x1 x2 x3):=by rw [cell_block hz]; rfl
          have lc7:v.cell? ⟨ab,7,none⟩=some (.int .i64 cur.n):=by rw [cell_block hz]; rfl
          have lc8:v.cell? ⟨ab,8,none⟩=some (.int .i64 cur.c):=by rw [cell_block hz]; rfl
          have lc9:v.cell? ⟨ab,9,none⟩=some (.slice x4 x5 x6):=by rw [cell_block hz]; rfl
          clear hb hz;have HSt:=hDx hst;clear hpre hdep hag hst;go_simp;exact hK _ _ (SnK.refl _ _) rfl (G10.keep rfl (slot_put (by decide)) HSt.out)
        · intro k L z v hk hL hst hag hpre hdep;refine .inl ⟨rfl,fun K hK=>?_⟩;have d7:z.tmps.getD 7 undef=.slice (some ⟨lb,lo,none⟩) ln lc:=hag.2.2 7 (by kernel_rfl);have e7:=gEx d7;have HSt:=hDx hst;clear hpre hdep hag hst;go_simp;exact hK _ _ (SnK.refl _ _) rfl (G10.keep rfl (slot_put (by decide)) HSt.out)
        · intro k L z v hk hL hst hag hpre hdep;refine .inl ⟨rfl,fun K hK=>?_⟩;have d9:z.tmps.getD 9 undef=.int .i64 (j:Int):=hag.2.2 9 (by kernel_rfl);have e9:=gEx d9;have HSt:=hDx hst;clear hpre hdep hag hst;go_simp;exact hK _ _ (SnK.refl _ _) rfl (G10.keep rfl (slot_put (by decide)) HSt.out)
        · intro k L z v hk hL hst hag hpre hdep;refine .inl ⟨rfl,fun K hK=>?_⟩;have d45:z.tmps.getD 45 undef=.slice (some ⟨lb,lo,none⟩) ln lc:=hdep ⟨2,.data⟩ (by simp) rfl _ _ rfl rfl;have e45:=gEx d45;have d46:z.tmps.getD 46 undef=.int .i64 (j:Int):=hdep ⟨3,.data⟩ (by simp) rfl _ _ rfl rfl;have e46:=gEx d46;have HSt:=hDx hst;clear hpre hdep hag hst;go_simp;exact hK _ _ (SnK.refl _ _) rfl (G10.keep rfl (slot_put (by decide)) HSt.out)
        · intro k L z v hk hL hst hag hpre hdep;refine .inl ⟨rfl,fun K hK=>?_⟩;have d47:z.tmps.getD 47 undef=.pointer (some ⟨lb,lo+j*10,none⟩):=hdep ⟨4,.data⟩ (by simp) rfl _ _ rfl rfl;have e47:=gEx d47;have hb:Below wg.heap.size wg v:=by rw [HM7.out]; exact hst.1
          have hbD:=HBDg.out.trans (hb.mono HBDg.out.size);obtain ⟨-,n0,n1,n2,n3,n4,n5,n6,n7,n8,n9⟩ := HCs.out v hbD;clear hb hbD;have HSt:=hDx hst;clear hpre hdep hag hst;go_simp;exact hK _ _ (SnK.refl _ _) rfl (G10.keep rfl (slot_put (by decide)) HSt.out)
        · intro L z v hL hst hag hpre hdep;refine ⟨rfl,fun K hK=>?_⟩;have d44:z.tmps.getD 44 undef=.agg #[.int .i64 cur.k,.int .i64 cur.w,.int .i64 cur.h,.int .i64 cur.x,.int .i64 cur.y,.string cur.t,.slice x1 x2 x3,.int .i64 cur.n,.int .i64 cur.c,.slice x4 x5 x6]:=hdep ⟨1,.data⟩ (by simp) rfl _ _ rfl rfl;have e44:=gEx d44;have d48:z.tmps.getD 48 undef=.agg #[.int .i64 s.k,.int .i64 s.w,.int .i64 s.h,.int .i64 s.x,.int .i64 s.y,.string s.t,.slice q1 q2 q3,.int .i64 s.n,.int .i64 s.c,.slice q4 q5 q6]:=hdep ⟨5,.data⟩ (by simp) rfl _ _ rfl rfl;have e48:=gEx d48;have hb:Below m7 wg v:=hst.1;have HC:=hDx (HDf.out v hb);have HSt:=hDx hst;clear hpre hdep hag hst hb;go_simp;refine HC.out.mono ?_;rintro e w' ⟨rfl,h9⟩;exact hK _ _ (SnK.below h9) rfl (G10.call (by rw [HM7.out]; exact Nat.le_refl _) (by decide) rfl (slot_put (by decide)) h9 HSt.out)
        · intro L z v hL hst hag hpre hdep;refine ⟨rfl,fun K hK=>?_⟩;have d43:z.tmps.getD 43 undef=.agg #[.int .i64 cur.k,.int .i64 cur.w,.int .i64 cur.h,.int .i64 cur.x,.int .i64 cur.y,.string cur.t,.slice x1 x2 x3,.int .i64 cur.n,.int .i64 cur.c,.slice x4 x5 x6]:=hdep ⟨0,.data⟩ (by simp) rfl _ _ rfl rfl;have e43:=gEx d43;have d49:z.tmps.getD 49 undef=.string d:=hdep ⟨6,.data⟩ (by simp) rfl _ _ rfl rfl;have e49:=gEx d49;have hb:Below m7 wg v:=hst.1;have HC:=hDx (HAp.out v hb);have HSt:=hDx hst;clear hpre hdep hag hst hb;go_simp;refine HC.out.mono ?_;rintro e w' ⟨ka,kn,kc,la,lN,lC,rfl,hn,h9⟩;exact hK _ _ (SnK.below h9) ⟨ka,kn,kc,la,lN,lC,rfl,hn⟩ (G10.call (by rw [HM7.out]; exact Nat.le_refl _) (by decide) rfl (slot_put (by decide)) h9 HSt.out)
        · intro k L z v hk hL hst hag hpre hdep;refine .inl ⟨rfl,fun K hK=>?_⟩;have d50':SsOk10 s cur q1 q2 q3 q4 q5 q6 x1 x2 x3 x4 x5 x6 lb lo ln lc j d 7 (z.tmps.getD 50 undef) v:=hdep ⟨7,.data⟩ (by simp) rfl _ _ rfl rfl;simp only [SsOk10] at d50';obtain ⟨ka,kn,kc,la,lN,lC,d50,HN⟩ := d50';have e50:=gEx d50;have HSt:=hDx hst;have HNn:=hDx HN;clear hpre hdep hag hst HN;go_simp;exact hK _ _ (SnK.refl s v) ⟨ka,kn,kc,la,lN,lC,rfl,HNn.out⟩ (G10.keep rfl (slot_put (by decide)) HSt.out)
        · intro k L z v hk hL hst hag hpre hdep;refine .inl ⟨rfl,fun K hK=>?_⟩;have d42':SsOk10 s cur q1 q2 q3 q4 q5 q6 x1 x2 x3 x4 x5 x6 lb lo ln lc j d 8 (z.tmps.getD 42 undef) v:=hdep ⟨8,.data⟩ (by simp) rfl _ _ rfl rfl;simp only [SsOk10] at d42';obtain ⟨ka,kn,kc,la,lN,lC,d42,HN⟩ := d42';have e42:=gEx d42;have HSt:=hDx hst;have HNn:=hDx HN;clear hpre hdep hag hst HN;go_simp;exact hK _ _ (SnK.refl s v) ⟨ka,kn,kc,la,lN,lC,rfl,HNn.out⟩ (G10.keep rfl (slot_put (by decide)) HSt.out)
        · intro k L z v hk hL hst hag hpre hdep;refine .inl ⟨rfl,fun K hK=>?_⟩;have d42':SsOk10 s cur q1 q2 q3 q4 q5 q6 x1 x2 x3 x4 x5 x6 lb lo ln lc j d 8 (z.tmps.getD 42 undef) v:=hdep ⟨8,.data⟩ (by simp) rfl _ _ rfl rfl;simp only [SsOk10] at d42';obtain ⟨ka,kn,kc,la,lN,lC,d42,HN⟩ := d42';have e42:=gEx d42;have HSt:=hDx hst;have HNn:=hDx HN;clear hpre hdep hag hst HN;go_simp;exact hK _ _ (SnK.refl s v) rfl (G10.keep rfl (slot_put (by decide)) HSt.out)
        · intro k L z v hk hL hst hag hpre hdep;refine .inl ⟨rfl,fun K hK=>?_⟩;have HSt:=hDx hst;have hsz:10<z.tmps.size:=by rw [hag.2.1]; show 10<75; decide
          clear hpre hdep hag hst;go_simp;exact hK _ _ (SnK.below ((Below.refl _ _).alloc (Nat.le_refl _) _)) True.intro (G10.made (by rw [HM7.out]; exact Nat.le_refl _) hk (slot_same hsz) HSt.out)
        · intro L z v hL hst hag hpre hdep;refine ⟨rfl,fun K hK=>?_⟩;have d51':SsOk10 s cur q1 q2 q3 q4 q5 q6 x1 x2 x3 x4 x5 x6 lb lo ln lc j d 9 (z.tmps.getD 51 undef) v:=hdep ⟨9,.data⟩ (by simp) rfl _ _ rfl rfl;simp only [SsOk10] at d51';obtain ⟨ka,kn,kc,la,lN,lC,d51,HN⟩ := d51';have e51:=gEx d51;have h11:L 11=true:=hpre ⟨11,.data⟩ (by simp) rfl;obtain ⟨p,ep,hpm,hz⟩ := hst.2.1 (by decide) h11;have d10:z.tmps.getD 10 undef=.pointer (some ⟨p,0,none⟩):=ep;have e10:=gEx d10;have lc0:v.cell? ⟨p,0,none⟩=some (.int .i64 0):=by rw [cell_block hz]; rfl
          have lc1:v.cell? ⟨p,1,none⟩=some (.int .i64 0):=by rw [cell_block hz]; rfl
          have lc2:v.cell? ⟨p,2,none⟩=some (.int .i64 0):=by rw [cell_block hz]; rfl
          have lc3:v.cell? ⟨p,3,none⟩=some (.int .i64 0):=by rw [cell_block hz]; rfl
          have lc4:v.cell? ⟨p,4,none⟩=some (.int .i64 0):=by rw [cell_block hz]; rfl
          have lc5:v.cell? ⟨p,5,none⟩=some (.string ⟨#[]⟩):=by rw [cell_block hz]; rfl
          have lc6:v.cell? ⟨p,6,none⟩=some (.slice none 0 0):=by rw [cell_block hz]; rfl
          have lc7:v.cell? ⟨p,7,none⟩=some (.int .i64 0):=by rw [cell_block hz]; rfl
          have lc8:v.cell? ⟨p,8,none⟩=some (.int .i64 0):=by rw [cell_block hz]; rfl
          have lc9:v.cell? ⟨p,9,none⟩=some (.slice none 0 0):=by rw [cell_block hz]; rfl
          have f0:=frozen_block hz 0;have f1:=frozen_block hz 1;have f2:=frozen_block hz 2;have f3:=frozen_block hz 3;have f4:=frozen_block hz 4;have f5:=frozen_block hz 5;have f6:=frozen_block hz 6;have f7:=frozen_block hz 7;have f8:=frozen_block hz 8;have f9:=frozen_block hz 9;obtain ⟨gg,hx⟩ := set10 hz (.int .i64 s.k) (.int .i64 s.w) (.int .i64 s.h) (.int .i64 s.x) (.int .i64 s.y) (.string s.t) (.slice ka kn kc) (.int .i64 s.n) (.int .i64 s.c) (.slice la lN lC);have HGg:=hDx gg;have HXx:=hDx hx;have HBv:=hDx hst.1;have HPm:=hDx hpm;have HNn:=hDx HN;have HNo:Hid (NoI p v):=hDx (NoI.snap (s:=emptyN) (xa:=none) (xn:=0) (xc:=0) (ya:=none) (yn:=0) (yc:=0) hz);have HEp:Hid (Go.Proofs.YtagolklnjhpbdaaDoor.R.slot z 10=.pointer (some ⟨p,0,none⟩)):=hDx ep;clear hpre hdep hag hst hz gg hx ep hpm HN;go_simp
          exact hK undef _ (fun _ _ _ _ _ _ h=>h.noI HNo.out HGg.out) True.intro ⟨HBv.out.trans ((Below.refl m7 v).grown HGg.out (by have:=HBv.out.size; have:=HM7.out; omega) (fun q e=>by have:=Option.some.inj e; have:=HPm.out; omega)),fun h=>absurd h (by decide),fun _=>⟨p,ka,kn,kc,la,lN,lC,HEp.out,HPm.out,HXx.out,HNn.out.noI HNo.out HGg.out⟩⟩
        · intro k L z v hk hL hst hag hpre hdep;refine .inl ⟨rfl,fun K hK=>?_⟩;have d52:z.tmps.getD 52 undef=.int .i64 0:=hdep ⟨10,.data⟩ (by simp) rfl _ _ rfl rfl;have e52:=gEx d52;have HSt:=hDx hst;clear hpre hdep hag hst;go_simp;exact hK _ _ (SnK.refl _ _) rfl (G10.keep rfl (slot_put (by decide)) HSt.out)
       case hdone =>
        intro z v L hall hst hag hok;obtain ⟨hb4,-,h3⟩ : G10 m7 s wg 3 L (Go.Proofs.YtagolklnjhpbdaaDoor.R.slot z) v:=hst;obtain ⟨p,ka,kn,kc,la,lN,lC,f10,hpm,hzp,hnp⟩ := h3 (by decide);have d10:z.tmps.getD 10 undef=.pointer (some ⟨p,0,none⟩):=f10;have d11:z.tmps.getD 11 undef=.int .i64 0:=hok 13 _ 11 rfl rfl;have HB4:=hDx hb4;have HZp0:=hDx hzp;have HNp0:=hDx hnp;have HPm:=hDx hpm;clear f10 hb4 h3 hpm hzp hnp;obtain ⟨uu,hu,hzz⟩ := agree_frame [43,44,45,46,47,48,49,50,42,51,52,10,11] rfl hag;have e10:=(hu 10).trans d10;have e11:=(hu 11).trans d11;subst hzz;simp only [List.foldl_cons,List.foldl_nil];rw [e10,e11];clear e10 d10 e11 d11 hu hag hok
        try dsimp only [Exit.then]
        simp only [List.setIfInBounds_toArray,List.set_cons_succ,List.set_cons_zero];generalize uu 43=u43',uu 44=u44',uu 45=u45',uu 46=u46',uu 47=u47',uu 48=u48',uu 49=u49',uu 50=u50',uu 42=u42',uu 51=u51',uu 52=u52';clear uu;rename_i K10 hK10;refine hK10 _ _ ?_;obtain ⟨wh,hwh⟩ : ∃ wh,v=wh:=⟨_,rfl⟩;rw [hwh] at HB4 HZp0 HNp0 ⊢;have HZp:=HZp0;have HNp:=HNp0;clear hwh HZp0 HNp0;have HBh:Hid (Below wg.heap.size wg wh):=hDx (by rw [HM7.out]; exact HB4.out);have HBDh:Hid (Below wD.heap.size wD wh):=hDx (HBDg.out.trans (HBh.out.mono HBDg.out.size))
        have HSa:Hid (∀ v,Below wh.heap.size wh v→Calls Tryd.prog 22 #[.agg #[.int .i64 s.k,.int .i64 s.w,.int .i64 s.h,.int .i64 s.x,.int .i64 s.y,.string s.t,.slice ka kn kc,.int .i64 s.n,.int .i64 s.c,.slice la lN lC],.agg #[.int .i64 s.k,.int .i64 s.w,.int .i64 s.h,.int .i64 s.x,.int .i64 s.y,.string s.t,.slice q1 q2 q3,.int .i64 s.n,.int .i64 s.c,.slice q4 q5 q6]] v fun e w'=>e=.returned (.bool true)∧Below v.heap.size v w'):=hDx (fun v hb=>by
         have h:=nsame_any s s ka kn kc la lN lC q1 q2 q3 q4 q5 q6 v (HNp.out.belowAll hb) (HCs.out v (HBDh.out.trans (hb.mono HBDh.out.size))).1 HSb.out HSb.out;rw [decide_eq_true rfl] at h;exact h)
        have HCh:Hid (∀ v,Below wh.heap.size wh v→Calls Tryd.prog 13 #[.agg #[.int .i64 s.k,.int .i64 s.w,.int .i64 s.h,.int .i64 s.x,.int .i64 s.y,.string s.t,.slice ka kn kc,.int .i64 s.n,.int .i64 s.c,.slice la lN lC],.agg #[.int .i64 s.k,.int .i64 s.w,.int .i64 s.h,.int .i64 s.x,.int .i64 s.y,.string s.t,.slice q1 q2 q3,.int .i64 s.n,.int .i64 s.c,.slice q4 q5 q6]] v fun e w'=>(∃ a c,e=.returned (.slice a 0 c))∧Below v.heap.size v w'):=hDx (fun v hb=>by
         refine (changes_any s s ka kn kc la lN lC q1 q2 q3 q4 q5 q6 v (HNp.out.belowAll hb) HSb.out (HCs.out v (HBDh.out.trans (hb.mono HBDh.out.size))).1 HSb.out).mono ?_;rintro e w' ⟨x,rfl,ho,hb2⟩;rw [difL_self] at ho;refine ⟨?_,hb2⟩;rcases ho.2 with ⟨rfl,-⟩ | ⟨g',c',cur9,rfl,-⟩
         · exact ⟨none,0,rfl⟩
         · exact ⟨_,c',rfl⟩)
        go_upto_region 11 with fail
        refine wp_region_due [] [0,0,0,0,0,0,0,0,0,0,0,0,0,0,0,0,0,0,0,0,0] (by kernel_rfl) (fun _ _ u=>Below wh.heap.size wh u) (fun u u2=>Below u.heap.size u u2) (SsOk11 s q1 q2 q3 q4 q5 q6 ka kn kc la lN lC p lb lo ln lc j) (by rfl) (by kernel_rfl) (by kernel_rfl) (by kernel_rfl) (by kernel_rfl) ?hcong ?hOk ?hop ?hdone ?h0
        case hcong=>exact fun k f f2 u hs hst=>hst
        case hOk=>intro i u w1 w2 h hr; unfold SsOk11 at h ⊢; split <;> first | exact True.intro | exact h
        case h0=>exact (Below.refl _ _).drew
        case hop =>
         refine ⟨?_,?_,?_,?_,?_,?_,?_,?_,?_,?_,?_,?_,?_,?_,?_,?_,?_,?_,?_,?_,?_,trivial⟩
         · intro k z v hk hst hag hdep;refine .inl ⟨rfl,fun K hK=>?_⟩;have d11:z.tmps.getD 11 undef=.int .i64 0:=hag.2.2 11 (by kernel_rfl);have e11:=gEx d11;have HSt:=hDx hst;clear hdep hag hst;go_simp;exact hK _ _ (Below.refl _ _) rfl HSt.out
         · intro k z v hk hst hag hdep;refine .inl ⟨rfl,fun K hK=>?_⟩;have d53:z.tmps.getD 53 undef=.int .i64 0:=hdep ⟨0,.data⟩ (by simp) rfl _ _ rfl rfl;have e53:=gEx d53;have HSt:=hDx hst;clear hdep hag hst;go_simp;exact hK _ _ (Below.refl _ _) rfl HSt.out
         · intro k z v hk hst hag hdep;refine .inl ⟨rfl,fun K hK=>?_⟩;have d54:z.tmps.getD 54 undef=.bool false:=hdep ⟨1,.data⟩ (by simp) rfl _ _ rfl rfl;have e54:=gEx d54;have HSt:=hDx hst;clear hdep hag hst;go_simp;exact hK _ _ (Below.refl _ _) rfl HSt.out
         · intro k z v hk hst hag hdep;have dg:SsOk11 s q1 q2 q3 q4 q5 q6 ka kn kc la lN lC p lb lo ln lc j 2 (z.tmps.getD 55 undef) v:=hdep ⟨2,.guard⟩ (by simp) rfl _ _ rfl rfl;simp only [SsOk11] at dg;refine .inl ⟨wanted_of (j:=2) rfl rfl rfl dg (by rw [hag.2.1]; show 55<75; decide),fun K hK=>?_⟩;have d10:z.tmps.getD 10 undef=.pointer (some ⟨p,0,none⟩):=hag.2.2 10 (by kernel_rfl);have e10:=gEx d10;have hb:Below wh.heap.size wh v:=hst;have hz:=(hb.block p (gSx.1 HZp.out).1).trans HZp.out;unfold snA at hz;have lc0:v.cell? ⟨p,0,none⟩=some (.int .i64 s.k):=by rw [cell_block hz]; rfl
           have lc1:v.cell? ⟨p,1,none⟩=some (.int .i64 s.w):=by rw [cell_block hz]; rfl
           have lc2:v.cell? ⟨p,2,none⟩=some (.int .i64 s.h):=by rw [cell_block hz]; rfl
           have lc3:v.cell? ⟨p,3,none⟩=some (.int .i64 s.x):=by rw [cell_block hz]; rfl
           have lc4:v.cell? ⟨p,4,none⟩=some (.int .i64 s.y):=by rw [cell_block hz]; rfl
           have lc5:v.cell? ⟨p,5,none⟩=some (.string s.t):=by rw [cell_block hz]; rfl
           have lc6:v.cell? ⟨p,6,none⟩=some (.slice ka kn kc):=by rw [cell_block hz]; rfl
           have lc7:v.cell? ⟨p,7,none⟩=some (.int .i64 s.n):=by rw [cell_block hz]; rfl
           have lc8:v.cell? ⟨p,8,none⟩=some (.int .i64 s.c):=by rw [cell_block hz]; rfl
           have lc9:v.cell? ⟨p,9,none⟩=some (.slice la lN lC):=by rw [cell_block hz]; rfl
           clear hb hz;have HSt:=hDx hst;clear hdep hag hst;go_simp;exact hK _ _ (Below.refl _ _) rfl HSt.out
         · intro k z v hk hst hag hdep;have dg:SsOk11 s q1 q2 q3 q4 q5 q6 ka kn kc la lN lC p lb lo ln lc j 2 (z.tmps.getD 55 undef) v:=hdep ⟨2,.guard⟩ (by simp) rfl _ _ rfl rfl;simp only [SsOk11] at dg;refine .inl ⟨wanted_of (j:=2) rfl rfl rfl dg (by rw [hag.2.1]; show 55<75; decide),fun K hK=>?_⟩;have d7:z.tmps.getD 7 undef=.slice (some ⟨lb,lo,none⟩) ln lc:=hag.2.2 7 (by kernel_rfl);have e7:=gEx d7;have HSt:=hDx hst;clear hdep hag hst;go_simp;exact hK _ _ (Below.refl _ _) rfl HSt.out
         · intro k z v hk hst hag hdep;have dg:SsOk11 s q1 q2 q3 q4 q5 q6 ka kn kc la lN lC p lb lo ln lc j 2 (z.tmps.getD 55 undef) v:=hdep ⟨2,.guard⟩ (by simp) rfl _ _ rfl rfl;simp only [SsOk11] at dg;refine .inl ⟨wanted_of (j:=2) rfl rfl rfl dg (by rw [hag.2.1]; show 55<75; decide),fun K hK=>?_⟩;have d9:z.tmps.getD 9 undef=.int .i64 (j:Int):=hag.2.2 9 (by kernel_rfl);have e9:=gEx d9;have HSt:=hDx hst;clear hdep hag hst;go_simp;exact hK _ _ (Below.refl _ _) rfl HSt.out
         · intro k z v hk hst hag hdep;have dg:SsOk11 s q1 q2 q3 q4 q5 q6 ka kn kc la lN lC p lb lo ln lc j 2 (z.tmps.getD 55 undef) v:=hdep ⟨2,.guard⟩ (by simp) rfl _ _ rfl rfl;simp only [SsOk11] at dg;refine .inl ⟨wanted_of (j:=2) rfl rfl rfl dg (by rw [hag.2.1]; show 55<75; decide),fun K hK=>?_⟩;have d57:z.tmps.getD 57 undef=.slice (some ⟨lb,lo,none⟩) ln lc:=hdep ⟨4,.data⟩ (by simp) rfl _ _ rfl rfl;have e57:=gEx d57;have d58:z.tmps.getD 58 undef=.int .i64 (j:Int):=hdep ⟨5,.data⟩ (by simp) rfl _ _ rfl rfl;have e58:=gEx d58;have HSt:=hDx hst;clear hdep hag hst;go_simp;exact hK _ _ (Below.refl _ _) rfl HSt.out
         · intro k z v hk hst hag hdep;have dg:SsOk11 s q1 q2 q3 q4 q5 q6 ka kn kc la lN lC p lb lo ln lc j 2 (z.tmps.getD 55 undef) v:=hdep ⟨2,.guard⟩ (by simp) rfl _ _ rfl rfl;simp only [SsOk11] at dg;refine .inl ⟨wanted_of (j:=2) rfl rfl rfl dg (by rw [hag.2.1]; show 55<75; decide),fun K hK=>?_⟩;have d59:z.tmps.getD 59 undef=.pointer (some ⟨lb,lo+j*10,none⟩):=hdep ⟨6,.data⟩ (by simp) rfl _ _ rfl rfl;have e59:=gEx d59;have hb:Below wh.heap.size wh v:=hst;have hbD:=HBDh.out.trans (hb.mono HBDh.out.size);obtain ⟨-,n0,n1,n2,n3,n4,n5,n6,n7,n8,n9⟩ := HCs.out v hbD;clear hb hbD;have HSt:=hDx hst;clear hdep hag hst;go_simp;exact hK _ _ (Below.refl _ _) rfl HSt.out
         · intro k z v hk hst hag hdep;have dg:SsOk11 s q1 q2 q3 q4 q5 q6 ka kn kc la lN lC p lb lo ln lc j 2 (z.tmps.getD 55 undef) v:=hdep ⟨2,.guard⟩ (by simp) rfl _ _ rfl rfl;simp only [SsOk11] at dg;refine .inl ⟨wanted_of (j:=2) rfl rfl rfl dg (by rw [hag.2.1]; show 55<75; decide),fun K hK=>?_⟩;have d56:z.tmps.getD 56 undef=.agg #[.int .i64 s.k,.int .i64 s.w,.int .i64 s.h,.int .i64 s.x,.int .i64 s.y,.string s.t,.slice ka kn kc,.int .i64 s.n,.int .i64 s.c,.slice la lN lC]:=hdep ⟨3,.data⟩ (by simp) rfl _ _ rfl rfl;have e56:=gEx d56;have d60:z.tmps.getD 60 undef=.agg #[.int .i64 s.k,.int .i64 s.w,.int .i64 s.h,.int .i64 s.x,.int .i64 s.y,.string s.t,.slice q1 q2 q3,.int .i64 s.n,.int .i64 s.c,.slice q4 q5 q6]:=hdep ⟨7,.data⟩ (by simp) rfl _ _ rfl rfl;have e60:=gEx d60;have hb:Below wh.heap.size wh v:=hst;have HC:=hDx (HSa.out v hb);have HBv:=hDx hb;clear hdep hag hst hb;go_simp
           refine HC.out.mono ?_;rintro e w' ⟨rfl,h9⟩;exact hK _ _ h9 rfl (HBv.out.trans (h9.mono HBv.out.size))
         · intro k z v hk hst hag hdep;have dg:SsOk11 s q1 q2 q3 q4 q5 q6 ka kn kc la lN lC p lb lo ln lc j 2 (z.tmps.getD 55 undef) v:=hdep ⟨2,.guard⟩ (by simp) rfl _ _ rfl rfl;simp only [SsOk11] at dg;refine .inl ⟨wanted_of (j:=2) rfl rfl rfl dg (by rw [hag.2.1]; show 55<75; decide),fun K hK=>?_⟩;have d61:z.tmps.getD 61 undef=.bool true:=hdep ⟨8,.data⟩ (by simp) rfl _ _ rfl rfl;have e61:=gEx d61;have HSt:=hDx hst;clear hdep hag hst;go_simp;exact hK _ _ (Below.refl _ _) rfl HSt.out
         · intro k z v hk hst hag hdep;refine .inl ⟨rfl,fun K hK=>?_⟩;have d55:z.tmps.getD 55 undef=.bool false:=hdep ⟨2,.data⟩ (by simp) rfl _ _ rfl rfl;have e55:=gEx d55;have d62:z.tmps.getD 62 undef=.bool false:=hdep ⟨9,.data⟩ (by simp) rfl _ _ rfl rfl;have e62:=gEx d62;have HSt:=hDx hst;clear hdep hag hst;go_simp;exact hK _ _ (Below.refl _ _) rfl HSt.out
         · intro k z v hk hst hag hdep;refine .inl ⟨rfl,fun K hK=>?_⟩;have d63:z.tmps.getD 63 undef=.bool false:=hdep ⟨10,.data⟩ (by simp) rfl _ _ rfl rfl;have e63:=gEx d63;have HSt:=hDx hst;clear hdep hag hst;go_simp;exact hK _ _ (Below.refl _ _) rfl HSt.out
         · intro k z v hk hst hag hdep;have dg:SsOk11 s q1 q2 q3 q4 q5 q6 ka kn kc la lN lC p lb lo ln lc j 11 (z.tmps.getD 64 undef) v:=hdep ⟨11,.guard⟩ (by simp) rfl _ _ rfl rfl;simp only [SsOk11] at dg;refine .inl ⟨wanted_of (j:=11) rfl rfl rfl dg (by rw [hag.2.1]; show 64<75; decide),fun K hK=>?_⟩;have d10:z.tmps.getD 10 undef=.pointer (some ⟨p,0,none⟩):=hag.2.2 10 (by kernel_rfl);have e10:=gEx d10;have hb:Below wh.heap.size wh v:=hst;have hz:=(hb.block p (gSx.1 HZp.out).1).trans HZp.out;unfold snA at hz;have lc0:v.cell? ⟨p,0,none⟩=some (.int .i64 s.k):=by rw [cell_block hz]; rfl
           have lc1:v.cell? ⟨p,1,none⟩=some (.int .i64 s.w):=by rw [cell_block hz]; rfl
           have lc2:v.cell? ⟨p,2,none⟩=some (.int .i64 s.h):=by rw [cell_block hz]; rfl
           have lc3:v.cell? ⟨p,3,none⟩=some (.int .i64 s.x):=by rw [cell_block hz]; rfl
           have lc4:v.cell? ⟨p,4,none⟩=some (.int .i64 s.y):=by rw [cell_block hz]; rfl
           have lc5:v.cell? ⟨p,5,none⟩=some (.string s.t):=by rw [cell_block hz]; rfl
           have lc6:v.cell? ⟨p,6,none⟩=some (.slice ka kn kc):=by rw [cell_block hz]; rfl
           have lc7:v.cell? ⟨p,7,none⟩=some (.int .i64 s.n):=by rw [cell_block hz]; rfl
           have lc8:v.cell? ⟨p,8,none⟩=some (.int .i64 s.c):=by rw [cell_block hz]; rfl
           have lc9:v.cell? ⟨p,9,none⟩=some (.slice la lN lC):=by rw [cell_block hz]; rfl
           clear hb hz;have HSt:=hDx hst;clear hdep hag hst;go_simp;exact hK _ _ (Below.refl _ _) rfl HSt.out
         · intro k z v hk hst hag hdep;have dg:SsOk11 s q1 q2 q3 q4 q5 q6 ka kn kc la lN lC p lb lo ln lc j 11 (z.tmps.getD 64 undef) v:=hdep ⟨11,.guard⟩ (by simp) rfl _ _ rfl rfl;simp only [SsOk11] at dg;refine .inl ⟨wanted_of (j:=11) rfl rfl rfl dg (by rw [hag.2.1]; show 64<75; decide),fun K hK=>?_⟩;have d7:z.tmps.getD 7 undef=.slice (some ⟨lb,lo,none⟩) ln lc:=hag.2.2 7 (by kernel_rfl);have e7:=gEx d7;have HSt:=hDx hst;clear hdep hag hst;go_simp;exact hK _ _ (Below.refl _ _) rfl HSt.out
         · intro k z v hk hst hag hdep;have dg:SsOk11 s q1 q2 q3 q4 q5 q6 ka kn kc la lN lC p lb lo ln lc j 11 (z.tmps.getD 64 undef) v:=hdep ⟨11,.guard⟩ (by simp) rfl _ _ rfl rfl;simp only [SsOk11] at dg;refine .inl ⟨wanted_of (j:=11) rfl rfl rfl dg (by rw [hag.2.1]; show 64<75; decide),fun K hK=>?_⟩;have d9:z.tmps.getD 9 undef=.int .i64 (j:Int):=hag.2.2 9 (by kernel_rfl);have e9:=gEx d9;have HSt:=hDx hst;clear hdep hag hst;go_simp;exact hK _ _ (Below.refl _ _) rfl HSt.out
         · intro k z v hk hst hag hdep;have dg:SsOk11 s q1 q2 q3 q4 q5 q6 ka kn kc la lN lC p lb lo ln lc j 11 (z.tmps.getD 64 undef) v:=hdep ⟨11,.guard⟩ (by simp) rfl _ _ rfl rfl;simp only [SsOk11] at dg;refine .inl ⟨wanted_of (j:=11) rfl rfl rfl dg (by rw [hag.2.1]; show 64<75; decide),fun K hK=>?_⟩;have d66:z.tmps.getD 66 undef=.slice (some ⟨lb,lo,none⟩) ln lc:=hdep ⟨13,.data⟩ (by simp) rfl _ _ rfl rfl;have e66:=gEx d66;have d67:z.tmps.getD 67 undef=.int .i64 (j:Int):=hdep ⟨14,.data⟩ (by simp) rfl _ _ rfl rfl;have e67:=gEx d67;have HSt:=hDx hst;clear hdep hag hst;go_simp;exact hK _ _ (Below.refl _ _) rfl HSt.out
         · intro k z v hk hst hag hdep;have dg:SsOk11 s q1 q2 q3 q4 q5 q6 ka kn kc la lN lC p lb lo ln lc j 11 (z.tmps.getD 64 undef) v:=hdep ⟨11,.guard⟩ (by simp) rfl _ _ rfl rfl;simp only [SsOk11] at dg;refine .inl ⟨wanted_of (j:=11) rfl rfl rfl dg (by rw [hag.2.1]; show 64<75; decide),fun K hK=>?_⟩;have d68:z.tmps.getD 68 undef=.pointer (some ⟨lb,lo+j*10,none⟩):=hdep ⟨15,.data⟩ (by simp) rfl _ _ rfl rfl;have e68:=gEx d68;have hb:Below wh.heap.size wh v:=hst;have hbD:=HBDh.out.trans (hb.mono HBDh.out.size);obtain ⟨-,n0,n1,n2,n3,n4,n5,n6,n7,n8,n9⟩ := HCs.out v hbD;clear hb hbD;have HSt:=hDx hst;clear hdep hag hst;go_simp;exact hK _ _ (Below.refl _ _) rfl HSt.out
         · intro k z v hk hst hag hdep;have dg:SsOk11 s q1 q2 q3 q4 q5 q6 ka kn kc la lN lC p lb lo ln lc j 11 (z.tmps.getD 64 undef) v:=hdep ⟨11,.guard⟩ (by simp) rfl _ _ rfl rfl;simp only [SsOk11] at dg;refine .inl ⟨wanted_of (j:=11) rfl rfl rfl dg (by rw [hag.2.1]; show 64<75; decide),fun K hK=>?_⟩;have d65:z.tmps.getD 65 undef=.agg #[.int .i64 s.k,.int .i64 s.w,.int .i64 s.h,.int .i64 s.x,.int .i64 s.y,.string s.t,.slice ka kn kc,.int .i64 s.n,.int .i64 s.c,.slice la lN lC]:=hdep ⟨12,.data⟩ (by simp) rfl _ _ rfl rfl;have e65:=gEx d65;have d69:z.tmps.getD 69 undef=.agg #[.int .i64 s.k,.int .i64 s.w,.int .i64 s.h,.int .i64 s.x,.int .i64 s.y,.string s.t,.slice q1 q2 q3,.int .i64 s.n,.int .i64 s.c,.slice q4 q5 q6]:=hdep ⟨16,.data⟩ (by simp) rfl _ _ rfl rfl;have e69:=gEx d69;have hb:Below wh.heap.size wh v:=hst;have HC:=hDx (HCh.out v hb);have HBv:=hDx hb;clear hdep hag hst hb;go_simp
           refine HC.out.mono ?_;rintro e w' ⟨⟨a9,c9,rfl⟩,h9⟩;exact hK _ _ h9 ⟨a9,c9,rfl⟩ (HBv.out.trans (h9.mono HBv.out.size))
         · intro k z v hk hst hag hdep;have dg:SsOk11 s q1 q2 q3 q4 q5 q6 ka kn kc la lN lC p lb lo ln lc j 11 (z.tmps.getD 64 undef) v:=hdep ⟨11,.guard⟩ (by simp) rfl _ _ rfl rfl;simp only [SsOk11] at dg;refine .inl ⟨wanted_of (j:=11) rfl rfl rfl dg (by rw [hag.2.1]; show 64<75; decide),fun K hK=>?_⟩;have d70':SsOk11 s q1 q2 q3 q4 q5 q6 ka kn kc la lN lC p lb lo ln lc j 17 (z.tmps.getD 70 undef) v:=hdep ⟨17,.data⟩ (by simp) rfl _ _ rfl rfl;simp only [SsOk11] at d70';obtain ⟨a9,c9,d70⟩ := d70';have e70:=gEx d70;have HSt:=hDx hst;clear hdep hag hst;go_simp;exact hK _ _ (Below.refl _ _) rfl HSt.out
         · intro k z v hk hst hag hdep;have dg:SsOk11 s q1 q2 q3 q4 q5 q6 ka kn kc la lN lC p lb lo ln lc j 11 (z.tmps.getD 64 undef) v:=hdep ⟨11,.guard⟩ (by simp) rfl _ _ rfl rfl;simp only [SsOk11] at dg;refine .inl ⟨wanted_of (j:=11) rfl rfl rfl dg (by rw [hag.2.1]; show 64<75; decide),fun K hK=>?_⟩;have d71:z.tmps.getD 71 undef=.int .i64 0:=hdep ⟨18,.data⟩ (by simp) rfl _ _ rfl rfl;have e71:=gEx d71;have HSt:=hDx hst;clear hdep hag hst;go_simp;exact hK _ _ (Below.refl _ _) rfl HSt.out
         · intro k z v hk hst hag hdep;refine .inl ⟨rfl,fun K hK=>?_⟩;have d64:z.tmps.getD 64 undef=.bool false:=hdep ⟨11,.data⟩ (by simp) rfl _ _ rfl rfl;have e64:=gEx d64;have d72:z.tmps.getD 72 undef=.bool false:=hdep ⟨19,.data⟩ (by simp) rfl _ _ rfl rfl;have e72:=gEx d72;have HSt:=hDx hst;clear hdep hag hst;go_simp;exact hK _ _ (Below.refl _ _) rfl HSt.out
        case hdone =>
         intro z v hst hag hok;have d73:z.tmps.getD 73 undef=.bool false:=hok 20 _ 73 rfl rfl;have HHv:Hid (Below wh.heap.size wh v):=hDx hst;clear hst;obtain ⟨uu,hu,hzz⟩ := agree_frame [53,54,55,56,57,58,59,60,61,62,63,64,65,66,67,68,69,70,71,72,73] rfl hag;have e73:=(hu 73).trans d73;subst hzz;simp only [List.foldl_cons,List.foldl_nil];rw [e73];clear e73 d73 hu hag hok
         try dsimp only [Exit.then]
         simp only [List.setIfInBounds_toArray,List.set_cons_succ,List.set_cons_zero];generalize uu 53=u53',uu 54=u54',uu 55=u55',uu 56=u56',uu 57=u57',uu 58=u58',uu 59=u59',uu 60=u60',uu 61=u61',uu 62=u62',uu 63=u63',uu 64=u64',uu 65=u65',uu 66=u66',uu 67=u67',uu 68=u68',uu 69=u69',uu 70=u70',uu 71=u71',uu 72=u72';clear uu;rename_i K11 hK11
         try (refine hK11 _ _ ?_)
         obtain ⟨wk,hwk⟩ : ∃ wk,v=wk:=⟨_,rfl⟩;rw [hwk] at HHv ⊢;clear hwk;have hz:=(HHv.out.block p (gSx.1 HZp.out).1).trans HZp.out;have hal:=(gSx.1 HAt.out).1;have hy:=((HBh.out.trans (HHv.out.mono HBh.out.size)).block ab hal).trans HAt.out;have HNk:=hDx (HNp.out.belowAll HHv.out);have HBDk:Hid (Below wD.heap.size wD wk):=hDx (HBDh.out.trans (HHv.out.mono HBDh.out.size));have HNo:Hid (NoI ab wk):=hDx (NoI.snap hy);have f0:=frozen_block hy 0;have f1:=frozen_block hy 1;have f2:=frozen_block hy 2;have f3:=frozen_block hy 3;have f4:=frozen_block hy 4;have f5:=frozen_block hy 5;have f6:=frozen_block hy 6;have f7:=frozen_block hy 7;have f8:=frozen_block hy 8;have f9:=frozen_block hy 9;obtain ⟨k0,k1,k2,k3,k4,k5,k6,k7,k8,k9⟩ := ten_cells (s:=s) (ra:=ka) (rn:=kn) (rc:=kc) (ga:=la) (gn:=lN) (gc:=lC) hz
         obtain ⟨y0,y1,y2,y3,y4,y5,y6,y7,y8,y9⟩ := ten_cells (s:=cur) (ra:=x1) (rn:=x2) (rc:=x3) (ga:=x4) (gn:=x5) (gc:=x6) hy;unfold snA at hy;obtain ⟨gg,hx⟩ := set10 hy (.int .i64 s.k) (.int .i64 s.w) (.int .i64 s.h) (.int .i64 s.x) (.int .i64 s.y) (.string s.t) (.slice ka kn kc) (.int .i64 s.n) (.int .i64 s.c) (.slice la lN lC);obtain ⟨wl,hwl⟩ : ∃ wl,((((((((((wk.setCell ⟨ab,0,none⟩ (.int .i64 s.k)).setCell ⟨ab,1,none⟩ (.int .i64 s.w)).setCell ⟨ab,2,none⟩ (.int .i64 s.h)).setCell ⟨ab,3,none⟩ (.int .i64 s.x)).setCell ⟨ab,4,none⟩ (.int .i64 s.y)).setCell ⟨ab,5,none⟩ (.string s.t)).setCell ⟨ab,6,none⟩ (.slice ka kn kc)).setCell ⟨ab,7,none⟩ (.int .i64 s.n)).setCell ⟨ab,8,none⟩ (.int .i64 s.c)).setCell ⟨ab,9,none⟩ (.slice la lN lC))=wl:=⟨_,rfl⟩;rw [hwl] at gg hx
         have HIl:Hid (StI ab wD wl):=hDx ⟨HBDk.out.trans ((Below.refl _ wk).grown gg HBDk.out.size (fun q e=>by have:=Option.some.inj e; have:=HAb.out; omega)),s,ka,kn,kc,la,lN,lC,hx,HNk.out.noI HNo.out gg,HSb.out,HFu.out.1⟩;have HWl:=hDx hwl;clear hz hal hy gg hx hwl
         go_upto_region 7 with fail
         rw [HWl.out];clear k0 k1 k2 k3 k4 k5 k6 k7 k8 k9 y0 y1 y2 y3 y4 y5 y6 y7 y8 y9 f0 f1 f2 f3 f4 f5 f6 f7 f8 f9
         go_wp2_with fail
         go_roundw
         case rel=>exact ⟨j+1,by go_num,by omega,by omega,HIl⟩
         case measure=>simp [intOf]; omega
   · obtain rfl:j=ln:=by omega
     have hd:decide (j<j)=false:=by simp
     have hend:=hDx (HEndD.out wr HJ.out.b);clear hlt
     go_wp2_with fail
     exact hend.out
end Go.Proofs.YtagolklnjhpbdaaDoor.K
