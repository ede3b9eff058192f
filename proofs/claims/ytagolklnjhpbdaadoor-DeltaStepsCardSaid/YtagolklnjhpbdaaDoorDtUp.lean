import Derived.Test.YtagolklnjhpbdaaDoorMerged0
import Derived.Test.YtagolklnjhpbdaaDoorMerged22
import Derived.Test.YtagolklnjhpbdaaDoorMerged26
import Derived.Laws.ResultCell
namespace Go.Proofs.YtagolklnjhpbdaaDoor.K
open Go.Proofs.YtagolklnjhpbdaaDoor.R (agree_frame slot_put slot_same)
open Go.RowKit Go.Proofs.YtagolklnjhpbdaaDoor.I
open Go.Proofs.YtagolklnjhpbdaaDoor.X (BelowE)
theorem zeroSnap (w:World):(zeroValue 25).run Tryd.prog w=.ok (.agg #[.int .i64 0,.int .i64 0,.int .i64 0,.int .i64 0,.int .i64 0,.string ⟨#[]⟩,.slice none 0 0,.int .i64 0,.int .i64 0,.slice none 0 0]) w:=by kernel_rfl
def UpOk (rb:Nat) (s sa:Sn) (ra:Option Addr) (rn rc:Nat) (ga:Option Addr) (gn gc:Nat) (ta:Option Addr) (tn tc:Nat):Nat→Value→World→Prop
  | 0,u,_=>u=.pointer (some ⟨rb,1,none⟩)
  | 1,u,_=>u=.agg #[.int .i64 s.k,.int .i64 s.w,.int .i64 s.h,.int .i64 s.x,.int .i64 s.y,.string s.t,.slice none 0 0,.int .i64 s.n,.int .i64 s.c,.slice ta tn tc]
  | 2,u,_=>u=.agg #[.int .i64 sa.k,.int .i64 sa.w,.int .i64 sa.h,.int .i64 sa.x,.int .i64 sa.y,.string sa.t,.slice ra rn rc,.int .i64 sa.n,.int .i64 sa.c,.slice ga gn gc]
  | 3,_,_=>True
  | 4,_,_=>True
  | 5,_,_=>True
  | 6,_,_=>True
  | 7,_,_=>True
  | _,_,_=>True
theorem its_find {it:List Itm} (hp:(it.map (fun x=>x.1)).Pairwise (·<·)) {x:Itm} (hx:x ∈ it):(it.map imR).find? (fun q=>q.1 == x.1)=some (imR x):=by
 induction it with
 | nil=>cases hx
 | cons z it ih =>
  rw [List.map_cons] at hp;obtain ⟨h1,h2⟩ := List.pairwise_cons.1 hp;rw [List.map_cons,List.find?_cons];rcases List.mem_cons.1 hx with rfl | hx
  · simp [imR]
  · have h3:=h1 x.1 (List.mem_map_of_mem (f:=fun x:Itm=>x.1) hx);have e:((imR z).1 == x.1)=false:=by
     rw [beq_eq_false_iff_ne];show z.1≠x.1;omega
    rw [e];exact ih h2 hx
theorem its_none {it:List Itm} {y:Nat} (h:∀ x ∈ it,x.1≠y):(it.map imR).find? (fun q=>q.1 == y)=none:=by
 rw [List.find?_eq_none];intro q hq;obtain ⟨x,hx,rfl⟩ := List.mem_map.1 hq;have:=h x hx
 simpa [imR] using this
theorem uponS_none {l:List (Nat × Ro)} {a:Sn}:∀ {n m:Nat},n≤m→uponS l a n=none→uponS l a m=none:=by
 intro n m hnm h
 induction m with
 | zero=>rw [show n=0 by omega] at h; exact h
 | succ m ih =>
  rcases Nat.lt_or_ge m n with h1 | h1
  · rw [show n=m+1 by omega] at h; exact h
  · unfold uponS;rw [ih h1]
theorem uponS_mem {l:List (Nat × Ro)} {a:Sn}:∀ {n:Nat} {rs:List Ro},uponS l a n=some rs→∀ r ∈ rs,r ∈ a.R∨∃ x ∈ l,x.2=r
  | 0,rs,h,r,hr=>by
   have:rs=[]:=by unfold uponS at h; exact (Option.some.inj h).symm
   rw [this] at hr;cases hr
  | n+1,rs,h,r,hr=>by
   unfold uponS at h
   split at h
   · cases h
   · rename_i rs0 h0
     split at h
     · cases h
     · rename_i r0 hr0;have e:=Option.some.inj h;rw [← e] at hr;rcases List.mem_append.1 hr with hr | hr
       · exact uponS_mem h0 r hr
       · have e2:r=r0:=by simpa using hr
         rw [e2];unfold pickN at hr0
         split at hr0
         · rename_i x hx
           split at hr0
           · cases hr0
           · exact .inr ⟨x,List.mem_of_find?_eq_some hx,Option.some.inj hr0⟩
         · exact .inl (List.mem_of_getElem? hr0)
structure UpI (X rr kk base:Nat) (s:Sn) (ta:Option Addr) (tn tc:Nat) (W1:World) (za:Option Addr) (zn zc:Nat) (rs:List Ro) (u:World):Prop where
 ex:∃ vs,OwnV 57 base (.slice za zn zc) vs u∧RowsV .i32 vs rs u∧∀ v ∈ vs,∀ p o,v.a=some ⟨p,o,none⟩→p<base∧p≠X∧p≠rr∧p≠kk
 x:u.heap[X]?=some (.cells (snA s za zn zc ta tn tc) 25 (0,0))
 e:BelowE base X W1 u
 sz:base≤u.heap.size
section
variable {X rr kk base:Nat} {s:Sn} {ta:Option Addr} {tn tc:Nat} {W1:World} {za:Option Addr} {zn zc:Nat} {rs:List Ro} {u u':World}
theorem UpI.below (h:UpI X rr kk base s ta tn tc W1 za zn zc rs u) (hb:Below u.heap.size u u'):UpI X rr kk base s ta tn tc W1 za zn zc rs u':=by
 obtain ⟨vs,h1,h2,h3⟩ := h.ex;exact ⟨⟨vs,h1.belowAll hb,h2.belowAll hb,h3⟩,(hb.block X (gSx.1 h.x).1).trans h.x,h.e.transB (hb.mono h.sz),Nat.le_trans h.sz hb.size⟩
theorem UpI.other (h:UpI X rr kk base s ta tn tc W1 za zn zc rs u) {q:Nat} (hg:u.grownBy u' (some q)) (hq:base≤q) (hX:q≠X) (ho:∀ k,(Value.slice za zn zc).ownBlock=some k→k≠q):UpI X rr kk base s ta tn tc W1 za zn zc rs u':=by
 obtain ⟨vs,h1,h2,h3⟩ := h.ex;refine ⟨⟨vs,h1.kept hg (fun k hk e=>ho k hk (Option.some.inj e).symm),h2.moved hg.size (fun v hv p o e hl=>hg.block p hl (fun e2=>?_)),h3⟩,(hg.block X (gSx.1 h.x).1 (fun e=>hX (Option.some.inj e).symm)).trans h.x,h.e.grown hg h.sz (fun k e=>by have:=Option.some.inj e; omega),Nat.le_trans h.sz hg.size⟩;have:=(h3 v hv p o e).1;have:=Option.some.inj e2;omega
theorem UpI.own (h:UpI X rr kk base s ta tn tc W1 za zn zc rs u):∀ k,(Value.slice za zn zc).ownBlock=some k→base≤k∧k<u.heap.size:=fun k hk=>by
 obtain ⟨vs,h1,h2,h3⟩ := h.ex;exact h1.ownBlock k hk
theorem UpI.more (h:UpI X rr kk base s ta tn tc W1 za zn zc rs u) (hXb:X<base) {vs:List Rv} (h2:RowsV .i32 vs rs u) (h3:∀ v ∈ vs,∀ p o,v.a=some ⟨p,o,none⟩→p<base∧p≠X∧p≠rr∧p≠kk) {d:Rv} {r:Ro} (hd:RowV .i32 d.val r u) (hd3:∀ p o,d.a=some ⟨p,o,none⟩→p<base∧p≠X∧p≠rr∧p≠kk) {ya:Option Addr} {yn yc:Nat}
    (ho:OwnV 57 base (.slice ya yn yc) (vs++[d]) u') (hg:u.grownBy u' (Value.slice za zn zc).ownBlock):UpI X rr kk base s ta tn tc W1 ya yn yc (rs++[r]) (u'.setCell ⟨X,6,none⟩ (.slice ya yn yc)):=by
 have hown:=h.own;have hx2:u'.heap[X]?=some (.cells (snA s za zn zc ta tn tc) 25 (0,0)):=(hg.block X (gSx.1 h.x).1 (fun e=>by have:=(hown X e.symm).1; omega)).trans h.x;have hs2:base≤u'.heap.size:=Nat.le_trans h.sz hg.size;have hgx:u'.grownBy (u'.setCell ⟨X,6,none⟩ (.slice ya yn yc)) (some X):=grown_set u' X 6 _;have hkeep:∀ p,p<base→p≠X→p<u.heap.size→(u'.setCell ⟨X,6,none⟩ (.slice ya yn yc)).heap[p]?=u.heap[p]?:=fun p h1 h2 h3=>(hgx.block p (Nat.lt_of_lt_of_le h3 hg.size) (fun e=>h2 (Option.some.inj e))).trans (hg.block p h3 (fun e=>by have:=(hown p e.symm).1; omega))
 refine ⟨⟨vs++[d],ho.kept hgx (fun k hk e=>by have:=(ho.ownBlock k hk).1; have:=Option.some.inj e; omega),⟨by rw [List.length_append,List.length_append,h2.1]; rfl,fun i v q hv hq=>?_⟩,fun v hv p o e=>?_⟩,by unfold snA at hx2 ⊢; simp [World.setCell,Array.getElem?_modify,hx2],(h.e.grown hg h.sz (fun k e=>(hown k e).1)).trans ⟨rfl,rfl,rfl,hgx.size,fun k _ hk=>Below.heap_setCell _ _ _ _ hk⟩,Nat.le_trans hs2 hgx.size⟩
 · by_cases hi:i<vs.length
   · rw [List.getElem?_append_left hi] at hv;rw [List.getElem?_append_left (by rw [← h2.1]; exact hi)] at hq;exact (h2.2 i v q hv hq).moved (Nat.le_trans hg.size hgx.size) (fun p o e hl=>hkeep p (h3 v (List.mem_of_getElem? hv) p o e).1 (h3 v (List.mem_of_getElem? hv) p o e).2.1 hl)
   · rw [List.getElem?_append_right (by omega)] at hv;rw [List.getElem?_append_right (by rw [← h2.1]; omega)] at hq;have e1:v=d:=by
      have:=List.mem_of_getElem? hv
      simpa using this
     have e2:q=r:=by
      have:=List.mem_of_getElem? hq
      simpa using this
     rw [e1,e2];exact hd.moved (Nat.le_trans hg.size hgx.size) (fun p o e hl=>hkeep p (hd3 p o e).1 (hd3 p o e).2.1 hl)
 · rcases List.mem_append.1 hv with hv | hv
   · exact h3 v hv p o e
   · have e1:v=d:=by simpa using hv
     rw [e1] at e;exact hd3 p o e
end
def UpPost (kk:Nat) (q:Sn × Nat) (w:World) (e:Ending) (w':World):Prop:=∃ xa xn xc ya yn yc,e=.returned (.tuple #[.agg (snA q.1 xa xn xc ya yn yc),.int .i64 (q.2:Int)])∧SnIn .i32 xa xn xc ya yn yc q.1 w'∧Below w.heap.size w w'∧∃ vs m,OwnV 57 m (.slice xa xn xc) vs w'∧RowsV .i32 vs q.1.R w'∧kk<m∧(∀ v ∈ vs,∀ p o,v.a=some ⟨p,o,none⟩→p≠kk)∧∀ b o,ya=some ⟨b,o,none⟩→b≠kk
set_option maxRecDepth 100000 in
set_option maxHeartbeats 16000000 in
theorem upon_any (cu:Nat) (s sa:Sn) (ta:Option Addr) (tn tc mb:Nat) (it:List Itm) (ra:Option Addr) (rn rc:Nat) (ga:Option Addr) (gn gc:Nat) (w:World)
    (hA:SnIn .i32 ra rn rc ga gn gc sa w) (hAB:SnB sa) (hT:PairsIn .i32 ta tn tc s.B w) (hTn:ta=none→tc=0) (hTb:s.B.length≤1000000∧∀ g ∈ s.B,-2147483648≤g.1∧g.1≤2147483647)
    (hM:ItsAt mb it w) (hp:(it.map (fun x=>x.1)).Pairwise (·<·)) (hit:∀ x ∈ it,AllC Rng x.2.2.l∧x.2.2.l.length≤1000) (hh:0≤s.h∧s.h≤1000) (kk:Nat) (hkk:kk≤mb∧kk<w.heap.size) (hTk:∀ b o,ta=some ⟨b,o,none⟩→b≠kk) :
    Calls Tryd.prog 46 #[.agg (chA cu s ta tn tc mb),.agg (snA sa ra rn rc ga gn gc)] w (UpPost kk (uponN s (it.map imR) sa) w):=by
 obtain ⟨P,hP⟩ : ∃ P,UpPost kk (uponN s (it.map imR) sa) w=P:=⟨_,rfl⟩;rw [hP];have HP:=hDx hP;obtain ⟨rb,hrb⟩ : ∃ rb,w.heap.size=rb:=⟨_,rfl⟩;obtain ⟨W0,hW0⟩ : ∃ W0,((w.alloc (.cells (chA cu s ta tn tc mb) 92)).alloc (.cells (snA sa ra rn rc ga gn gc) 25)).alloc (.cells #[.int .i64 0,.int .i64 0,.int .i64 0,.int .i64 0,.int .i64 0,.string ⟨#[]⟩,.slice none 0 0,.int .i64 0,.int .i64 0,.slice none 0 0] 25)=W0:=⟨_,rfl⟩;have b1:Below rb w (w.alloc (.cells (chA cu s ta tn tc mb) 92)):=by rw [← hrb]; exact (Below.refl _ _).alloc (Nat.le_refl _) _
 have b2:=b1.alloc (by rw [World.size_alloc]; omega) (.cells (snA sa ra rn rc ga gn gc) 25);have hb0:Below rb w W0:=by rw [← hW0]; exact b2.alloc (by rw [World.size_alloc,World.size_alloc]; omega) _
 have hs0:W0.heap.size=rb+3:=by rw [← hW0,World.size_alloc,World.size_alloc,World.size_alloc,hrb]
 have hzc:W0.heap[rb]?=some (.cells (chA cu s ta tn tc mb) 92 (0,0)):=by
  rw [← hW0,Below.heap_alloc _ _ _ (by rw [World.size_alloc,World.size_alloc]; omega),Below.heap_alloc _ _ _ (by rw [World.size_alloc]; omega),← hrb];exact heap_alloc_new w _
 have hza:W0.heap[rb+1]?=some (.cells (snA sa ra rn rc ga gn gc) 25 (0,0)):=by
  rw [← hW0,Below.heap_alloc _ _ _ (by rw [World.size_alloc,World.size_alloc]; omega)];have h:=heap_alloc_new (w.alloc (.cells (chA cu s ta tn tc mb) 92)) (.cells (snA sa ra rn rc ga gn gc) 25);rw [World.size_alloc,hrb] at h;exact h
 have hzr:W0.heap[rb+2]?=some (.cells #[.int .i64 0,.int .i64 0,.int .i64 0,.int .i64 0,.int .i64 0,.string ⟨#[]⟩,.slice none 0 0,.int .i64 0,.int .i64 0,.slice none 0 0] 25 (0,0)):=by
  have h:=heap_alloc_new ((w.alloc (.cells (chA cu s ta tn tc mb) 92)).alloc (.cells (snA sa ra rn rc ga gn gc) 25)) (.cells #[.int .i64 0,.int .i64 0,.int .i64 0,.int .i64 0,.int .i64 0,.string ⟨#[]⟩,.slice none 0 0,.int .i64 0,.int .i64 0,.slice none 0 0] 25);rw [World.size_alloc,World.size_alloc,hrb,hW0] at h;exact h
 have HIa:=hDx (hA.belowAll (by rw [hrb]; exact hb0));have HIw:=hDx hA;have HAB:=hDx hAB;have HTt:=hDx (⟨hT,hTn,hTb⟩ : PairsIn .i32 ta tn tc s.B w∧(ta=none→tc=0)∧s.B.length≤1000000∧∀ g ∈ s.B,-2147483648≤g.1∧g.1≤2147483647);have HM:=hDx hM;have HPw:=hDx hp;have HIt:=hDx hit;have HHh:=hDx hh;have HTk:=hDx hTk;have HKk:Hid (kk≤mb∧kk<rb):=hDx (by rw [← hrb]; exact hkk);have HRb:=hDx hrb;have HW0:=hDx hW0;have HB0:=hDx hb0;have HS0:=hDx hs0;unfold chA at hzc;have HZC:=hDx hzc;have HZA:=hDx hza;have HZR:=hDx hzr;clear hP hA hAB hT hTn hTb hM hp hit hh hkk hTk hrb hW0 b1 b2 hb0 hs0 hzc hza hzr;unfold snA chA at HW0;unfold snA chA
 go_enter Tryd.func46,Tryd.ntmps46
 go_upto_region 1 with fail
 rw [HW0.out,HRb.out];refine Go.Proofs.YtagolklnjhpbdaaDoor.R.wp_region_seen [3,6,7] [1,1,0,1,2,1,2,3] (by kernel_rfl) (UpS W0 sa s ta tn tc) (fun _ _=>True) (UpOk rb s sa ra rn rc ga gn gc ta tn tc) (by rfl) (by kernel_rfl) (by kernel_rfl) (by kernel_rfl) (by kernel_rfl) ?hOk ?hop ?hdone ?h0
 case hOk=>intro i u w1 w2 h hr; unfold UpOk at h ⊢; split <;> first | exact True.intro | exact h
 case h0=>exact UpS.start (Below.refl _ _).drew
 case hop =>
  refine ⟨?_,?_,?_,?_,?_,?_,?_,?_,trivial⟩
  · intro k L z v hk hL hst hag hpre hdep;refine .inl ⟨rfl,fun K hK=>?_⟩;have d2:z.tmps.getD 2 undef=.pointer (some ⟨rb,0,none⟩):=hag.2.2 2 (by kernel_rfl);have e2:=gEx d2;have HSt:=hDx hst;clear hpre hdep hag hst;go_simp;exact hK _ _ trivial rfl (UpS.keep (L:=L) rfl rfl rfl (slot_put (by decide)) (slot_put (by decide)) (slot_put (by decide)) (slot_put (by decide)) HSt.out)
  · intro k L z v hk hL hst hag hpre hdep;refine .inl ⟨rfl,fun K hK=>?_⟩;have d11:z.tmps.getD 11 undef=.pointer (some ⟨rb,1,none⟩):=hdep ⟨0,.data⟩ (by simp) rfl _ _ rfl rfl;have e11:=gEx d11;have hzc:v.heap[rb]?=some (.cells #[.int .i64 (cu:Int),.int .i64 s.k,.int .i64 s.w,.int .i64 s.h,.int .i64 s.x,.int .i64 s.y,.string s.t,.slice none 0 0,.int .i64 s.n,.int .i64 s.c,.slice ta tn tc,.map (some mb)] 92 (0,0)):=(hst.b.block rb (by have:=HS0.out; omega)).trans HZC.out;obtain ⟨x0,x1,x2,x3,x4,x5,x6,x7,x8,x9,x10,x11⟩ := twelve_cells hzc;clear hzc;have HSt:=hDx hst;clear hpre hdep hag hst;go_simp;exact hK _ _ trivial rfl (UpS.keep (L:=L) rfl rfl rfl (slot_put (by decide)) (slot_put (by decide)) (slot_put (by decide)) (slot_put (by decide)) HSt.out)
  · intro k L z v hk hL hst hag hpre hdep;refine .inl ⟨rfl,fun K hK=>?_⟩;have d3:z.tmps.getD 3 undef=.pointer (some ⟨rb+1,0,none⟩):=hag.2.2 3 (by kernel_rfl);have e3:=gEx d3;have hza:v.heap[rb+1]?=some (.cells (snA sa ra rn rc ga gn gc) 25 (0,0)):=(hst.b.block (rb+1) (by have:=HS0.out; omega)).trans HZA.out;obtain ⟨x0,x1,x2,x3,x4,x5,x6,x7,x8,x9⟩ := ten_cells hza;clear hza;have HSt:=hDx hst;clear hpre hdep hag hst;go_simp;exact hK _ _ trivial rfl (UpS.keep (L:=L) rfl rfl rfl (slot_put (by decide)) (slot_put (by decide)) (slot_put (by decide)) (slot_put (by decide)) HSt.out)
  · intro L z v hL hst hag hpre hdep;refine ⟨rfl,fun K hK=>?_⟩;have d13:z.tmps.getD 13 undef=.agg #[.int .i64 sa.k,.int .i64 sa.w,.int .i64 sa.h,.int .i64 sa.x,.int .i64 sa.y,.string sa.t,.slice ra rn rc,.int .i64 sa.n,.int .i64 sa.c,.slice ga gn gc]:=hdep ⟨2,.data⟩ (by simp) rfl _ _ rfl rfl;have e13:=gEx d13;have hsz:14<z.tmps.size:=by rw [hag.2.1]; show 14<64; decide
    have HC:=hst.clone HIa.out HAB.out;unfold snA at HC;have HC:=hDx HC;clear hpre hdep hag hst;go_simp;refine HC.out.mono ?_;rintro e w' ⟨vv,rfl,h9⟩;exact hK _ _ trivial True.intro (h9 _ (slot_same hsz) (slot_put (by decide)))
  · intro k L z v hk hL hst hag hpre hdep;refine .inl ⟨rfl,fun K hK=>?_⟩;have hsz:15<z.tmps.size:=by rw [hag.2.1]; show 15<64; decide
    have h3:L 3=true:=hpre ⟨3,.data⟩ (by simp) rfl;have hk1:1≤k:=of_decide_eq_true (by rw [← hst.c3]; exact h3);obtain ⟨xa,xn,xc,ya,yn,yc,f14,hn⟩ := hst.field hk1;unfold snA at f14;have d14:z.tmps.getD 14 undef=.agg #[.int .i64 sa.k,.int .i64 sa.w,.int .i64 sa.h,.int .i64 sa.x,.int .i64 sa.y,.string sa.t,.slice xa xn xc,.int .i64 sa.n,.int .i64 sa.c,.slice ya yn yc]:=f14;have e14:=gEx d14;have HN:=hDx hn;clear hpre hdep hag hst hn f14 h3 hk1;go_simp;exact hK _ _ trivial True.intro (HN.out _ (slot_same hsz) (slot_put (by decide)) (slot_put (by decide)) (slot_put (by decide)))
  · intro k L z v hk hL hst hag hpre hdep;refine .inl ⟨rfl,fun K hK=>?_⟩;have hsz:6<z.tmps.size:=by rw [hag.2.1]; show 6<64; decide
    have HSt:=hDx hst;have hz9:=zeroSnap;have HL5:Hid (L 5=false):=hDx hL;have hk1:k≤1:=Nat.le_trans hk (by decide);clear hpre hdep hag hst;go_simp;exact hK _ _ trivial True.intro (UpS.alloc hk1 HL5.out HSt.out (slot_same hsz) (slot_put (by decide)) (slot_put (by decide)))
  · intro L z v hL hst hag hpre hdep;refine ⟨rfl,fun K hK=>?_⟩;have d12:z.tmps.getD 12 undef=.agg #[.int .i64 s.k,.int .i64 s.w,.int .i64 s.h,.int .i64 s.x,.int .i64 s.y,.string s.t,.slice none 0 0,.int .i64 s.n,.int .i64 s.c,.slice ta tn tc]:=hdep ⟨1,.data⟩ (by simp) rfl _ _ rfl rfl;have e12:=gEx d12;have h5:L 5=true:=hpre ⟨5,.data⟩ (by simp) rfl;obtain ⟨X,f6,hz,hn⟩ := hst.store h5;have d6:z.tmps.getD 6 undef=.pointer (some ⟨X,0,none⟩):=f6;have e6:=gEx d6;unfold snA emptyN at hz;simp only at hz;obtain ⟨s0,s1,s2,s3,s4,s5,s6,s7,s8,s9⟩ : _:=ten_cells (s:=emptyN) (ra:=none) (rn:=0) (rc:=0) (ga:=none) (gn:=0) (gc:=0) hz;have q0:=frozen_block hz 0;have q1:=frozen_block hz 1;have q2:=frozen_block hz 2;have q3:=frozen_block hz 3;have q4:=frozen_block hz 4;have q5:=frozen_block hz 5;have q6:=frozen_block hz 6;have q7:=frozen_block hz 7;have q8:=frozen_block hz 8;have q9:=frozen_block hz 9
    unfold emptyN at s0 s1 s2 s3 s4 s5 s7 s8;simp only at s0 s1 s2 s3 s4 s5 s6 s7 s8 s9;have HN:=hDx hn;have HZ:=hDx hz;clear hpre hdep hag hst hn f6 h5 hz;go_simp;have hg:∀ (u:World) (o:Nat) (x:Value),u.grownBy (u.setCell ⟨X,o,none⟩ x) (some X):=fun u o x=>grown_set u X o x
    refine hK undef _ trivial True.intro (HN.out _ _ rfl rfl rfl (grown_trans (grown_trans (grown_trans (grown_trans (grown_trans (grown_trans (grown_trans (grown_trans (grown_trans (hg v 0 _) (hg _ 1 _)) (hg _ 2 _)) (hg _ 3 _)) (hg _ 4 _)) (hg _ 5 _)) (hg _ 6 _)) (hg _ 7 _)) (hg _ 8 _)) (hg _ 9 _)) ?_);unfold snA;simp [World.setCell,Array.getElem?_modify,HZ.out]
  · intro L z v hL hst hag hpre hdep;refine ⟨rfl,fun K hK=>?_⟩;have hsz:7<z.tmps.size:=by rw [hag.2.1]; show 7<64; decide
    have h4:L 4=true:=hpre ⟨4,.data⟩ (by simp) rfl;obtain ⟨xa,xn,xc,f15,hn⟩ := hst.assign h4;have d15:z.tmps.getD 15 undef=.slice xa xn xc:=f15;have e15:=gEx d15;have HN:=hDx hn;clear hpre hdep hag hst hn f15 h4;go_simp;exact hK _ _ trivial True.intro (HN.out _ (slot_same hsz) (slot_put (by decide)) (slot_put (by decide)) (slot_put (by decide)))
 case hdone =>
  intro z v L hall hst hag hok;obtain ⟨X,xa,xn,xc,us,f6,f7,hX0,hX,hb,hU,hV,hxs,hus⟩ := hst.done;have d6:z.tmps.getD 6 undef=.pointer (some ⟨X,0,none⟩):=f6;have d7:z.tmps.getD 7 undef=.slice xa xn xc:=f7;clear hst hall f6 f7;obtain ⟨uu,hu,hzz⟩ := agree_frame [11,12,13,14,15,6,7] rfl hag;have e6:=(hu 6).trans d6;have e7:=(hu 7).trans d7;subst hzz;simp only [List.foldl_cons,List.foldl_nil];rw [e6,e7];clear e6 d6 e7 d7 hu hag hok
  try dsimp only [Exit.then]
  simp only [List.setIfInBounds_toArray,List.set_cons_succ,List.set_cons_zero];generalize uu 11=u11',uu 12=u12',uu 13=u13',uu 14=u14',uu 15=u15';clear uu;rename_i K hK;refine hK _ _ ?_;obtain ⟨base,hbase⟩ : ∃ base,v.heap.size=base:=⟨_,rfl⟩;have hXb:X<base:=by rw [← hbase]; exact (gSx.1 hX).1
  have hX2:v.cell? ⟨X,2,none⟩=some (.int .i64 s.h):=by rw [cell_block hX]; rfl
  have HI0:Hid (UpI X (rb+1+1) kk base s ta tn tc v none 0 0 [] v):=hDx ⟨⟨[],OwnV.nil _ _ _,RowsV.nil _ _,fun x hx=>by cases hx⟩,hX,BelowE.refl _ _ _,by omega⟩;have HX:Hid (rb+3≤X∧X<base):=hDx ⟨by have:=HS0.out; omega,hXb⟩;have HBel:Hid (∀ u,BelowE base X v u→Below (rb+3) W0 u):=hDx (fun u h=>by
   rw [HS0.out] at hb;exact hb.trans (h.below (by have:=HX.out; omega) (by have:=HX.out; omega)))
  have HUs:=hDx hU;have HVs:=hDx hV;have HXs:Hid (∀ b o,xa=some ⟨b,o,none⟩→b≠X∧b<base):=hDx (by rw [← hbase]; exact hxs);have HUb:Hid (∀ v ∈ us,∀ p o,v.a=some ⟨p,o,none⟩→p<base∧p≠X∧p≠rb+1+1∧p≠kk):=hDx (fun v hv p o e=>by have h1:=hus v hv p o e; have:=HS0.out; have:=HKk.out; omega);have HBs:=hDx hbase;have hh0:=HHh.out.1;have hh1:=HHh.out.2;obtain ⟨l,hl⟩ : ∃ l,it.map imR=l:=⟨_,rfl⟩;have HL:=hDx hl;rw [hl] at HP;clear hb hU hV hxs hus hX hX0 hbase hXb hl
  have HErr:Hid (uponN s l sa=(emptyN,1)→∀ u,BelowE base X v u→base≤u.heap.size→P (.returned (.tuple #[.agg #[.int .i64 0,.int .i64 0,.int .i64 0,.int .i64 0,.int .i64 0,.string ⟨#[]⟩,.slice none 0 0,.int .i64 0,.int .i64 0,.slice none 0 0],.int .i64 1])) ((((((((((u.setCell ⟨rb+1+1,0,none⟩ (.int .i64 0)).setCell ⟨rb+1+1,1,none⟩ (.int .i64 0)).setCell ⟨rb+1+1,2,none⟩ (.int .i64 0)).setCell ⟨rb+1+1,3,none⟩ (.int .i64 0)).setCell ⟨rb+1+1,4,none⟩ (.int .i64 0)).setCell ⟨rb+1+1,5,none⟩ (.string ⟨#[]⟩)).setCell ⟨rb+1+1,6,none⟩ (.slice none 0 0)).setCell ⟨rb+1+1,7,none⟩ (.int .i64 0)).setCell ⟨rb+1+1,8,none⟩ (.int .i64 0)).setCell ⟨rb+1+1,9,none⟩ (.slice none 0 0))):=hDx (fun hn u hu hs=>by
   rw [← HP.out,hn];have hg:∀ (u:World) (o:Nat) (x:Value),u.grownBy (u.setCell ⟨rb+1+1,o,none⟩ x) (some (rb+1+1)):=fun u o x=>grown_set u (rb+1+1) o x
   have gg:u.grownBy ((((((((((u.setCell ⟨rb+1+1,0,none⟩ (.int .i64 0)).setCell ⟨rb+1+1,1,none⟩ (.int .i64 0)).setCell ⟨rb+1+1,2,none⟩ (.int .i64 0)).setCell ⟨rb+1+1,3,none⟩ (.int .i64 0)).setCell ⟨rb+1+1,4,none⟩ (.int .i64 0)).setCell ⟨rb+1+1,5,none⟩ (.string ⟨#[]⟩)).setCell ⟨rb+1+1,6,none⟩ (.slice none 0 0)).setCell ⟨rb+1+1,7,none⟩ (.int .i64 0)).setCell ⟨rb+1+1,8,none⟩ (.int .i64 0)).setCell ⟨rb+1+1,9,none⟩ (.slice none 0 0)) (some (rb+1+1)):=(grown_trans (grown_trans (grown_trans (grown_trans (grown_trans (grown_trans (grown_trans (grown_trans (grown_trans (hg u 0 _) (hg _ 1 _)) (hg _ 2 _)) (hg _ 3 _)) (hg _ 4 _)) (hg _ 5 _)) (hg _ 6 _)) (hg _ 7 _)) (hg _ 8 _)) (hg _ 9 _));have hbu:Below rb w u:=HB0.out.trans ((HBel.out u hu).mono (by omega));refine ⟨none,0,0,none,0,0,rfl,zero_in _,?_,[],kk+1,OwnV.nil _ _ _,RowsV.nil _ _,Nat.lt_succ_self _,(fun x hx=>by cases hx),fun b o e=>by cases e⟩
   rw [HRb.out];exact hbu.trans ((Below.refl rb u).grown gg (by have:=HX.out; omega) (fun q e=>by have:=Option.some.inj e; omega)))
  have HZr:Hid (∀ u,BelowE base X v u→u.heap[rb+1+1]?=some (.cells #[.int .i64 0,.int .i64 0,.int .i64 0,.int .i64 0,.int .i64 0,.string ⟨#[]⟩,.slice none 0 0,.int .i64 0,.int .i64 0,.slice none 0 0] 25 (0,0))):=hDx (fun u hu=>((HBel.out u hu).block (rb+1+1) (by omega)).trans HZR.out);have HZc:Hid (∀ u,BelowE base X v u→u.cell? ⟨rb,11,none⟩=some (.map (some mb))):=hDx (fun u hu=>by
   rw [cell_block (((HBel.out u hu).block rb (by omega)).trans HZC.out)]
   rfl)
  have HZa:Hid (∀ u,BelowE base X v u→u.heap[rb+1]?=some (.cells (snA sa ra rn rc ga gn gc) 25 (0,0))):=hDx (fun u hu=>((HBel.out u hu).block (rb+1) (by omega)).trans HZA.out);have HMu:Hid (∀ u,BelowE base X v u→ItsAt mb it u):=hDx (fun u hu=>HM.out.below (by rw [HRb.out]; exact HB0.out.trans ((HBel.out u hu).mono (by omega))));have HAu:Hid (∀ u,BelowE base X v u→SnIn .i32 ra rn rc ga gn gc sa u):=hDx (fun u hu=>HIw.out.belowAll (by rw [HRb.out]; exact HB0.out.trans ((HBel.out u hu).mono (by omega))))
  go_wp2_with fail
  clear hX2
  go_loopw [18] (fun i wr=>∃ j:Nat,i=.int .i64 (j:Int)∧(j:Int)≤s.h∧Hid (∃ za zn zc rs,uponS l sa j=some rs∧rs.length=j∧UpI X (rb+1+1) kk base s ta tn tc v za zn zc rs wr)) (fun i _=>s.h.toNat - (intOf i).toNat)
  case atStart=>exact ⟨0,rfl,by omega,hDx ⟨_,_,_,[],rfl,rfl,HI0.out⟩⟩
  case round =>
   obtain ⟨j,rfl,hj,HF⟩ := hrel;obtain ⟨za,zn,zc,rs,huj,hln,hI⟩ := HF.out;have HUj:=hDx huj;have HLn:=hDx hln;have HI:=hDx hI;have hE:=hI.e;by_cases hlt:(j:Int)<s.h
   · have hd:decide ((j:Int)<s.h)=true:=decide_eq_true hlt;have m11:=HZc.out wr hE;obtain ⟨vv,ok,hrun,hf⟩ := (HMu.out wr hE).m.look (i:=(j:Int)) (by omega);have HNone:Hid (pickN l sa j=none→uponN s l sa=(emptyN,1)):=hDx (fun hp=>by
      have h1:uponS l sa (j+1)=none:=by unfold uponS; rw [HUj.out]; simp only; rw [hp]
      have h2:=uponS_none (m:=s.h.toNat) (by omega) h1;unfold uponN;rw [h2])
     rcases hf with ⟨rfl,hno,rfl⟩ | ⟨xe,hxe,rfl,hxj,rfl⟩
     · have hno2:∀ x ∈ it,x.1≠j:=fun x hx e=>hno (imE x) (List.mem_map_of_mem hx) (by show (x.1:Int)=j; omega)
       have hfi:=its_none hno2;rw [HL.out] at hfi;have hpk0:pickN l sa j=sa.R[j]?:=by unfold pickN; rw [hfi]
       have hrun2:(Instr.lookup 90 (.map (some mb)) (.int .i64 (j:Int)) true).run Tryd.prog wr=.ok (.tuple #[.agg #[.slice none 0 0,.bool false],.bool false]) wr:=hrun;obtain ⟨Bx,hBx⟩ : ∃ Bx,wr.heap.size=Bx:=⟨_,rfl⟩;obtain ⟨w5,hw5⟩ : ∃ w5,wr.alloc (.cells #[.slice none 0 0,.bool false] 57)=w5:=⟨_,rfl⟩;have hb5:Below wr.heap.size wr w5:=by rw [← hw5]; exact (Below.refl _ _).alloc (Nat.le_refl _) _
       have hz5:w5.heap[Bx]?=some (.cells #[.slice none 0 0,.bool false] 57 (0,0)):=by rw [← hw5,← hBx]; exact heap_alloc_new wr _
       have hown:∀ k,(Value.slice za zn zc).ownBlock=some k→k≠Bx:=fun k hk=>by have:=(hI.own k hk).2; omega
       have hI5:=hI.below hb5;have hBb:base≤Bx:=by rw [← hBx]; exact hI.sz
       have HI5:=hDx hI5;have HZ5:=hDx hz5;have HW5:=hDx hw5;have HBx0:=hDx hBx;have HOw:=hDx hown;have HBb:=hDx hBb;have HPk0:=hDx hpk0;have hxn:(xn:Int)≤9223372036854775807:=by have h2:=HUs.out.fit; have h3:=HUs.out.top; omega
       have hul:xn=sa.R.length:=HUs.out.len.trans HVs.out.1;have HUl:=hDx hul;clear hrun hfi hno hno2 hpk0 hBx hw5 hb5 hz5 hown hI5 hBb hI hE huj hln HF hul;by_cases hjl:j<xn
       rotate_left
       · have g1:decide ((j:Int)≥xn)=true:=decide_eq_true (by omega);have g2:decide ((xn:Int)≤j)=true:=decide_eq_true (by omega);have g3:decide (xn≤j)=true:=decide_eq_true (by omega);have hno:=HNone.out (by rw [HPk0.out,List.getElem?_eq_none (by rw [← HUl.out]; omega)]);have HE5:=HI5.out.e;have HS5:=HI5.out.sz
         go_upto_region 6 with fail
         rw [HW5.out,HBx0.out];clear m11 hrun2;have hz0:=HZr.out w5 HE5;obtain ⟨d0,d1,d2,d3,d4,d5,d6,d7,d8,d9⟩ : _:=ten_cells (s:=emptyN) (ra:=none) (rn:=0) (rc:=0) (ga:=none) (gn:=0) (gc:=0) hz0;unfold emptyN at d0 d1 d2 d3 d4 d5 d7 d8;simp only at d0 d1 d2 d3 d4 d5 d6 d7 d8 d9;have f0:=frozen_block hz0 0;have f1:=frozen_block hz0 1;have f2:=frozen_block hz0 2;have f3:=frozen_block hz0 3;have f4:=frozen_block hz0 4;have f5:=frozen_block hz0 5;have f6:=frozen_block hz0 6;have f7:=frozen_block hz0 7;have f8:=frozen_block hz0 8;have f9:=frozen_block hz0 9;have hz9:=zeroSnap;have hend:=hDx (HErr.out hno w5 HE5 HS5);clear hz0
         go_wp2_with fail
         refine bodyPost_ret (v:=.tuple #[.agg #[.int .i64 0,.int .i64 0,.int .i64 0,.int .i64 0,.int .i64 0,.string ⟨#[]⟩,.slice none 0 0,.int .i64 0,.int .i64 0,.slice none 0 0],.int .i64 1]) (by rw [results_cell_tmp rfl]; go_simp) rfl ?_;exact hend.out
       · have g1:decide ((j:Int)≥xn)=false:=decide_eq_false (by omega);have g2:decide ((xn:Int)≤j)=false:=decide_eq_false (by omega);have g3:decide (xn≤j)=false:=decide_eq_false (by omega);have hju:j<us.length:=by rw [← HUs.out.len]; exact hjl
         have hjr:j<sa.R.length:=by rw [← HVs.out.1]; exact hju
         have hjI:(j:Int)<xn:=by omega
         obtain ⟨xb,xo,rfl,hxl,hAt⟩ := HUs.out.at_.resolve_left (by intro e; rw [e] at hju; simp at hju);have hat:=hAt j us[j] (List.getElem?_eq_getElem hju);have hrv:=HVs.out.2 j us[j] sa.R[j] (List.getElem?_eq_getElem hju) (List.getElem?_eq_getElem hjr);have hub:=HUb.out us[j] (List.getElem_mem hju);have hpk:pickN l sa j=some sa.R[j]:=by rw [HPk0.out,List.getElem?_eq_getElem hjr]
         obtain ⟨r,hr⟩ : ∃ r,sa.R[j]=r:=⟨_,rfl⟩;obtain ⟨⟨qa,qn,qc,qb⟩,hu⟩ : ∃ u,us[j]=u:=⟨_,rfl⟩;rw [hr] at hrv hpk;rw [hu] at hat hrv hub;simp only at hat hub;have hxx:=HXs.out xb xo rfl;have hblk:=HI5.out.e.block xb hxx.2 hxx.1;have k0:w5.cell? ⟨xb,xo+j*2,none⟩=some (.slice qa qn qc):=(World.cell?_of_block (a:=⟨xb,xo+j*2,none⟩) hblk).trans hat.1;have k1:w5.cell? ⟨xb,xo+j*2+1,none⟩=some (.bool qb):=(World.cell?_of_block (a:=⟨xb,xo+j*2+1,none⟩) hblk).trans hat.2;obtain ⟨w6,hw6⟩ : ∃ w6,(w5.setCell ⟨Bx,0,none⟩ (.slice qa qn qc)).setCell ⟨Bx,1,none⟩ (.bool qb)=w6:=⟨_,rfl⟩;have hg6:w5.grownBy w6 (some Bx):=by rw [← hw6]; exact grown_trans (grown_set w5 Bx 0 _) (grown_set _ Bx 1 _)
         have hz6:w6.heap[Bx]?=some (.cells #[.slice qa qn qc,.bool qb] 57 (0,0)):=by
          have h:=HZ5.out;rw [← hw6];simp [World.setCell,Array.getElem?_modify,h]
         have hI6:=HI5.out.other hg6 HBb.out (by have:=HX.out; have:=HBb.out; omega) HOw.out;have HIW:=hDx hI6;have HBx:=hDx hz6;have HRo:Hid (RowV .i32 (.agg #[.slice qa qn qc,.bool qb]) r w6):=hDx (hrv.moved (by rw [HBs.out]; exact hI6.sz) (fun p o e hl=>hI6.e.block p (hub p o e).1 (hub p o e).2.1));have HRb3:Hid (∀ p o,(⟨qa,qn,qc,qb⟩ : Rv).a=some ⟨p,o,none⟩→p<base∧p≠X∧p≠rb+1+1∧p≠kk):=hDx hub;have HPk:=hDx hpk;have HW6:=hDx hw6;have y0c:w5.cell? ⟨Bx,0,none⟩=some (.slice none 0 0):=by rw [cell_block HZ5.out]; rfl
         have y1c:w5.cell? ⟨Bx,1,none⟩=some (.bool false):=by rw [cell_block HZ5.out]; rfl
         have y0f:=frozen_block HZ5.out 0;have y1f:=frozen_block HZ5.out 1;have z1c:(w5.setCell ⟨Bx,0,none⟩ (.slice qa qn qc)).cell? ⟨Bx,1,none⟩=some (.bool false):=by rw [World.cell?_setCell_other _ _ _ _ (by intro e; cases e)]; exact y1c
         clear hju hjr hxl hAt hat hrv hub hpk hr hu hxx hblk hw6 hg6 hz6 hI6
         go_upto_region 6 with fail
         rw [HW5.out,HBx0.out];clear m11 hrun2
         go_upto_region 10 with fail
         rw [HW6.out];clear k0 k1 y0c y1c y0f y1f z1c;obtain ⟨vs,ho1,ho2,ho3⟩ := HIW.out.ex;have hbx0:w6.cell? ⟨Bx,0,none⟩=some (.slice qa qn qc):=by rw [cell_block HBx.out]; rfl
         have hbx1:w6.cell? ⟨Bx,1,none⟩=some (.bool qb):=by rw [cell_block HBx.out]; rfl
         have hx6:w6.cell? ⟨X,6,none⟩=some (.slice za zn zc):=by rw [cell_block HIW.out.x]; rfl
         obtain ⟨w7,hw7⟩ : ∃ w7,w6.alloc (.cells #[.slice qa qn qc,.bool qb] 57)=w7:=⟨_,rfl⟩;have hb7:Below w6.heap.size w6 w7:=by rw [← hw7]; exact (Below.refl _ _).alloc (Nat.le_refl _) _
         have hn7:w7.heap[w6.heap.size]?=some (.cells #[.slice qa qn qc,.bool qb] 57 (0,0)):=by rw [← hw7]; exact heap_alloc_new w6 _
         have HI7:=hDx (HIW.out.below hb7);have HO7:=hDx (ho1.belowAll hb7);have HV7:=hDx (ho2.belowAll hb7);have HV3:=hDx ho3;have HR7:=hDx (HRo.out.belowAll hb7);have HN7:Hid (RoB 57 w6.heap.size (.slice qa qn qc) qb w7):=hDx hn7;have HS7:Hid (base≤w7.heap.size):=hDx (Nat.le_trans HIW.out.sz hb7.size);have HLv:Hid (vs.length≤1000):=hDx (by rw [ho2.1,HLn.out]; omega);have HW7:=hDx hw7;clear ho1 ho2 ho3 hb7 hn7 hw7 HIW
         go_wp2_with (rw [HW7.out]; refine wpList_append_one rowsT rfl _ _ rfl rfl base (.slice za zn zc) vs w6.heap.size ⟨qa,qn,qc,qb⟩ rfl rfl HO7.out HN7.out HLv.out HS7.out ?_)
         intro v8 w8 ho8 hg8 _;obtain ⟨ya,yc,rfl,-⟩ := ho8.shape;obtain ⟨yn,hyn⟩ : ∃ n,(vs++[(⟨qa,qn,qc,qb⟩ : Rv)]).length=n:=⟨_,rfl⟩;rw [hyn] at ho8 ⊢;have hx8:w8.heap[X]?=some (.cells (snA s za zn zc ta tn tc) 25 (0,0)):=(hg8.block X (gSx.1 HI7.out.x).1 (fun e=>by have:=(HI7.out.own X e.symm).1; have:=HX.out; omega)).trans HI7.out.x;have c86:w8.cell? ⟨X,6,none⟩=some (.slice za zn zc):=by rw [cell_block hx8]; rfl
         have f86:=frozen_block hx8 6;have hI9:=HI7.out.more (d:=⟨qa,qn,qc,qb⟩) HX.out.2 HV7.out HV3.out HR7.out HRb3.out ho8 hg8;have HE9:Hid (∃ za zn zc rs,uponS l sa (j+1)=some rs∧rs.length=j+1∧UpI X (rb+1+1) kk base s ta tn tc v za zn zc rs (w8.setCell ⟨X,6,none⟩ (.slice ya yn yc))):=hDx ⟨ya,yn,yc,rs++[r],by unfold uponS; rw [HUj.out]; simp only; rw [HPk.out],by rw [List.length_append,HLn.out]; rfl,hI9⟩;clear ho8 hg8 hx8 hI9 hyn hbx0 hbx1 hx6
         go_wp2_with fail
         go_roundw
         case rel=>exact ⟨j+1,by go_num,by omega,HE9⟩
         case measure=>simp [intOf]; omega
     · obtain ⟨x,hx,rfl⟩ := List.mem_map.1 hxe;clear hxe;obtain ⟨y0,⟨qa,qn,qc,qb⟩,r⟩ := x;have hy0:y0=j:=by have:(y0:Int)=j:=hxj; omega
       subst hy0;have hfi:=its_find HPw.out hx;rw [HL.out] at hfi;have hfi2:l.find? (fun q=>q.1 == y0)=some (y0,r):=hfi;have hrv:RowV .i32 (.agg #[.slice qa qn qc,.bool qb]) r wr:=(HMu.out wr hE).v _ hx;obtain ⟨hrr,hrl⟩ := HIt.out _ hx;have hrb:∀ p o,qa=some ⟨p,o,none⟩→p<base∧p≠X∧p≠rb+1+1∧p≠kk:=fun p o e=>by
        have h1:=HM.out.b _ hx p o e;have h2:=HX.out;have h3:=HRb.out;have h4:=HKk.out;omega
       have hrun2:(Instr.lookup 90 (.map (some mb)) (.int .i64 (y0:Int)) true).run Tryd.prog wr=.ok (.tuple #[.agg #[.slice qa qn qc,.bool qb],.bool true]) wr:=hrun;obtain ⟨Bx,hBx⟩ : ∃ Bx,wr.heap.size=Bx:=⟨_,rfl⟩;obtain ⟨w5,hw5⟩ : ∃ w5,wr.alloc (.cells #[.slice qa qn qc,.bool qb] 57)=w5:=⟨_,rfl⟩;have hb5:Below wr.heap.size wr w5:=by rw [← hw5]; exact (Below.refl _ _).alloc (Nat.le_refl _) _
       have hz5:w5.heap[Bx]?=some (.cells #[.slice qa qn qc,.bool qb] 57 (0,0)):=by rw [← hw5,← hBx]; exact heap_alloc_new wr _
       have hI5:=hI.below hb5;have HHas:=hDx (dthas_any sa ra rn rc ga gn gc y0 (by omega) qa qn qc qb r w5 (HAu.out w5 hI5.e) HAB.out (hrv.belowAll hb5) hrr (by simp only at hrl; omega));obtain ⟨c0,c1,c2,c3,c4,c5,c6,c7,c8,c9⟩ := ten_cells (HZa.out w5 hI5.e);have b0:w5.cell? ⟨Bx,0,none⟩=some (.slice qa qn qc):=by rw [cell_block hz5]; rfl
       have b1:w5.cell? ⟨Bx,1,none⟩=some (.bool qb):=by rw [cell_block hz5]; rfl
       have HI5:=hDx hI5;have HZ5:=hDx hz5;have HRv5:=hDx (hrv.belowAll hb5);have HRb3:Hid (∀ p o,(⟨qa,qn,qc,qb⟩ : Rv).a=some ⟨p,o,none⟩→p<base∧p≠X∧p≠rb+1+1∧p≠kk):=hDx hrb;have HFi:=hDx hfi2;have HW5:=hDx hw5;have HBx0:=hDx hBx;unfold snA at HHas;clear hrun hfi hfi2 hrv hrr hrl hrb hBx hw5 hb5 hz5 hI5 hx hxj hI hE huj hln HF
       go_upto_region 6 with fail
       rw [HW5.out,HBx0.out];clear m11 hrun2
       go_wp2_with fail
       refine HHas.out.mono ?_;rintro e w6 ⟨rfl,hb6⟩;have hI6:=HI5.out.below hb6;have hz6:=(hb6.block Bx (gSx.1 HZ5.out).1).trans HZ5.out;have HRo:=hDx (HRv5.out.belowAll hb6);have HIW:=hDx hI6;have HBx:=hDx hz6;clear hb6 hI6 hz6 c0 c1 c2 c3 c4 c5 c6 c7 c8 c9 b0 b1 HHas HI5 HZ5 HRv5 HW5;cases hD:hasN sa y0 r with
       | true =>
        have hpn:pickN l sa y0=none:=by unfold pickN; rw [HFi.out]; simp only; rw [if_pos hD]
        have hno:=HNone.out hpn;have HE6:=HIW.out.e;have HS6:=HIW.out.sz;clear hpn hD;have hz0:=HZr.out w6 HE6;obtain ⟨d0,d1,d2,d3,d4,d5,d6,d7,d8,d9⟩ : _:=ten_cells (s:=emptyN) (ra:=none) (rn:=0) (rc:=0) (ga:=none) (gn:=0) (gc:=0) hz0;unfold emptyN at d0 d1 d2 d3 d4 d5 d7 d8;simp only at d0 d1 d2 d3 d4 d5 d6 d7 d8 d9;have f0:=frozen_block hz0 0;have f1:=frozen_block hz0 1;have f2:=frozen_block hz0 2;have f3:=frozen_block hz0 3;have f4:=frozen_block hz0 4;have f5:=frozen_block hz0 5;have f6:=frozen_block hz0 6;have f7:=frozen_block hz0 7;have f8:=frozen_block hz0 8;have f9:=frozen_block hz0 9;have hz9:=zeroSnap;have hend:=hDx (HErr.out hno w6 HE6 HS6);clear hz0
        go_wp2_with fail
        refine bodyPost_ret (v:=.tuple #[.agg #[.int .i64 0,.int .i64 0,.int .i64 0,.int .i64 0,.int .i64 0,.string ⟨#[]⟩,.slice none 0 0,.int .i64 0,.int .i64 0,.slice none 0 0],.int .i64 1]) (by rw [results_cell_tmp rfl]; go_simp) rfl ?_;exact hend.out
       | false =>
        have hpk:pickN l sa y0=some r:=by unfold pickN; rw [HFi.out]; simp only; rw [if_neg (by rw [hD]; decide)]
        have HPk:=hDx hpk;clear hpk hD
        go_upto_region 10 with fail
        obtain ⟨vs,ho1,ho2,ho3⟩ := HIW.out.ex;have hbx0:w6.cell? ⟨Bx,0,none⟩=some (.slice qa qn qc):=by rw [cell_block HBx.out]; rfl
        have hbx1:w6.cell? ⟨Bx,1,none⟩=some (.bool qb):=by rw [cell_block HBx.out]; rfl
        have hx6:w6.cell? ⟨X,6,none⟩=some (.slice za zn zc):=by rw [cell_block HIW.out.x]; rfl
        obtain ⟨w7,hw7⟩ : ∃ w7,w6.alloc (.cells #[.slice qa qn qc,.bool qb] 57)=w7:=⟨_,rfl⟩;have hb7:Below w6.heap.size w6 w7:=by rw [← hw7]; exact (Below.refl _ _).alloc (Nat.le_refl _) _
        have hn7:w7.heap[w6.heap.size]?=some (.cells #[.slice qa qn qc,.bool qb] 57 (0,0)):=by rw [← hw7]; exact heap_alloc_new w6 _
        have HI7:=hDx (HIW.out.below hb7);have HO7:=hDx (ho1.belowAll hb7);have HV7:=hDx (ho2.belowAll hb7);have HV3:=hDx ho3;have HR7:=hDx (HRo.out.belowAll hb7);have HN7:Hid (RoB 57 w6.heap.size (.slice qa qn qc) qb w7):=hDx hn7;have HS7:Hid (base≤w7.heap.size):=hDx (Nat.le_trans HIW.out.sz hb7.size);have HLv:Hid (vs.length≤1000):=hDx (by rw [ho2.1,HLn.out]; omega);have HW7:=hDx hw7;clear ho1 ho2 ho3 hb7 hn7 hw7 HIW
        go_wp2_with (rw [HW7.out]; refine wpList_append_one rowsT rfl _ _ rfl rfl base (.slice za zn zc) vs w6.heap.size ⟨qa,qn,qc,qb⟩ rfl rfl HO7.out HN7.out HLv.out HS7.out ?_)
        intro v8 w8 ho8 hg8 _;obtain ⟨ya,yc,rfl,-⟩ := ho8.shape;obtain ⟨yn,hyn⟩ : ∃ n,(vs++[(⟨qa,qn,qc,qb⟩ : Rv)]).length=n:=⟨_,rfl⟩;rw [hyn] at ho8 ⊢;have hx8:w8.heap[X]?=some (.cells (snA s za zn zc ta tn tc) 25 (0,0)):=(hg8.block X (gSx.1 HI7.out.x).1 (fun e=>by have:=(HI7.out.own X e.symm).1; have:=HX.out; omega)).trans HI7.out.x;have c86:w8.cell? ⟨X,6,none⟩=some (.slice za zn zc):=by rw [cell_block hx8]; rfl
        have f86:=frozen_block hx8 6;have hI9:=HI7.out.more (d:=⟨qa,qn,qc,qb⟩) HX.out.2 HV7.out HV3.out HR7.out HRb3.out ho8 hg8;have HE9:Hid (∃ za zn zc rs,uponS l sa (y0+1)=some rs∧rs.length=y0+1∧UpI X (rb+1+1) kk base s ta tn tc v za zn zc rs (w8.setCell ⟨X,6,none⟩ (.slice ya yn yc))):=hDx ⟨ya,yn,yc,rs++[r],by unfold uponS; rw [HUj.out]; simp only; rw [HPk.out],by rw [List.length_append,HLn.out]; rfl,hI9⟩;clear ho8 hg8 hx8 hI9 hyn hbx0 hbx1 hx6
        go_wp2_with fail
        go_roundw
        case rel=>exact ⟨y0+1,by go_num,by omega,HE9⟩
        case measure=>simp [intOf]; omega
   · have e9:(j:Int)=s.h:=by omega
     have hd:decide ((j:Int)<s.h)=false:=decide_eq_false hlt;obtain ⟨vs,ho1,ho2,ho3⟩ := hI.ex;have hun:uponN s l sa=if FullN (withR s rs) then (withR s rs,0) else (emptyN,1):=by
      unfold uponN;rw [show s.h.toNat=j by omega,HUj.out]
     have hmem:=uponS_mem HUj.out;have hrow:∀ r ∈ rs,r.l.length≤1000∧AllC Rng r.l:=fun r hr=>by
      rcases hmem r hr with h1 | ⟨y,hy,rfl⟩
      · exact ⟨HAB.out.cells r h1,HAB.out.rng r h1⟩
      · rw [← HL.out] at hy;obtain ⟨x,hx,rfl⟩ := List.mem_map.1 hy;exact ⟨(HIt.out x hx).2,(HIt.out x hx).1⟩
     have hSB:SnB (withR s rs):=⟨by show rs.length≤1000; omega,fun r hr=>(hrow r hr).1,fun r hr=>(hrow r hr).2,HTt.out.2.2.1,HTt.out.2.2.2⟩;have HSI:Hid (∀ u,OwnV 57 base (.slice za zn zc) vs u→RowsV .i32 vs rs u→Below rb w u→SnIn .i32 za zn zc ta tn tc (withR s rs) u):=hDx (fun u h1 h2 h3=>⟨h1.rowsL h2 (fun x _ _ b o _ hm=>by cases hm) (fun p hp=>by cases hp),HTt.out.1.belowAll (by rw [HRb.out]; exact h3),HTt.out.2.1⟩);have hbw:Below rb w wr:=HB0.out.trans ((HBel.out wr hE).mono (by omega));have HFl:=full_any (withR s rs) za zn zc ta tn tc wr (HSI.out wr ho1 ho2 hbw) hSB;obtain ⟨D,hD⟩ : ∃ D,decide (FullN (withR s rs))=D:=⟨_,rfl⟩;rw [hD] at HFl;unfold snA withR at HFl;simp only at HFl;have HFl:=hDx HFl;obtain ⟨c0,c1,c2,c3,c4,c5,c6,c7,c8,c9⟩ := ten_cells hI.x;have HO1:=hDx ho1;have HO2:=hDx ho2;have HO3:=hDx ho3;have HUn:=hDx hun;have HD:=hDx hD
     clear ho1 ho2 ho3 hun hmem hrow hSB hbw hD hE huj hln HF hI
     go_wp2_with fail
     refine HFl.out.mono ?_;rintro e w5 ⟨rfl,hb5⟩;have hI5:=HI.out.below hb5;have HO5:=hDx (HO1.out.belowAll hb5);have HR5:=hDx (HO2.out.belowAll hb5);have HI5:=hDx hI5;clear hb5 c0 c1 c2 c3 c4 c5 c6 c7 c8 c9 hI5 HFl;cases D with
     | false =>
      have hnf:¬ FullN (withR s rs):=of_decide_eq_false HD.out;have hno:uponN s l sa=(emptyN,1):=by rw [HUn.out,if_neg hnf]
      have HE5:=HI5.out.e;have HS5:=HI5.out.sz;clear hnf;have hz0:=HZr.out w5 HE5;obtain ⟨d0,d1,d2,d3,d4,d5,d6,d7,d8,d9⟩ : _:=ten_cells (s:=emptyN) (ra:=none) (rn:=0) (rc:=0) (ga:=none) (gn:=0) (gc:=0) hz0;unfold emptyN at d0 d1 d2 d3 d4 d5 d7 d8;simp only at d0 d1 d2 d3 d4 d5 d6 d7 d8 d9;have f0:=frozen_block hz0 0;have f1:=frozen_block hz0 1;have f2:=frozen_block hz0 2;have f3:=frozen_block hz0 3;have f4:=frozen_block hz0 4;have f5:=frozen_block hz0 5;have f6:=frozen_block hz0 6;have f7:=frozen_block hz0 7;have f8:=frozen_block hz0 8;have f9:=frozen_block hz0 9;have hz9:=zeroSnap;have hend:=hDx (HErr.out hno w5 HE5 HS5);clear hz0
      go_wp2_with fail
      refine bodyPost_ret (v:=.tuple #[.agg #[.int .i64 0,.int .i64 0,.int .i64 0,.int .i64 0,.int .i64 0,.string ⟨#[]⟩,.slice none 0 0,.int .i64 0,.int .i64 0,.slice none 0 0],.int .i64 1]) (by rw [results_cell_tmp rfl]; go_simp) rfl ?_;exact hend.out
     | true =>
      have hyf:FullN (withR s rs):=of_decide_eq_true HD.out;have hyes:uponN s l sa=(withR s rs,0):=by rw [HUn.out,if_pos hyf]
      have hz0:=HZr.out w5 HI5.out.e;obtain ⟨d0,d1,d2,d3,d4,d5,d6,d7,d8,d9⟩ : _:=ten_cells (s:=emptyN) (ra:=none) (rn:=0) (rc:=0) (ga:=none) (gn:=0) (gc:=0) hz0;unfold emptyN at d0 d1 d2 d3 d4 d5 d7 d8;simp only at d0 d1 d2 d3 d4 d5 d6 d7 d8 d9;have f0:=frozen_block hz0 0;have f1:=frozen_block hz0 1;have f2:=frozen_block hz0 2;have f3:=frozen_block hz0 3;have f4:=frozen_block hz0 4;have f5:=frozen_block hz0 5;have f6:=frozen_block hz0 6;have f7:=frozen_block hz0 7;have f8:=frozen_block hz0 8;have f9:=frozen_block hz0 9;obtain ⟨c0,c1,c2,c3,c4,c5,c6,c7,c8,c9⟩ := ten_cells HI5.out.x
      have hend:Hid (P (.returned (.tuple #[.agg #[.int .i64 s.k,.int .i64 s.w,.int .i64 s.h,.int .i64 s.x,.int .i64 s.y,.string s.t,.slice za zn zc,.int .i64 s.n,.int .i64 s.c,.slice ta tn tc],.int .i64 0])) ((((((((((w5.setCell ⟨rb+1+1,0,none⟩ (.int .i64 s.k)).setCell ⟨rb+1+1,1,none⟩ (.int .i64 s.w)).setCell ⟨rb+1+1,2,none⟩ (.int .i64 s.h)).setCell ⟨rb+1+1,3,none⟩ (.int .i64 s.x)).setCell ⟨rb+1+1,4,none⟩ (.int .i64 s.y)).setCell ⟨rb+1+1,5,none⟩ (.string s.t)).setCell ⟨rb+1+1,6,none⟩ (.slice za zn zc)).setCell ⟨rb+1+1,7,none⟩ (.int .i64 s.n)).setCell ⟨rb+1+1,8,none⟩ (.int .i64 s.c)).setCell ⟨rb+1+1,9,none⟩ (.slice ta tn tc))):=hDx (by
       rw [← HP.out,hyes];have hg:∀ (u:World) (o:Nat) (x:Value),u.grownBy (u.setCell ⟨rb+1+1,o,none⟩ x) (some (rb+1+1)):=fun u o x=>grown_set u (rb+1+1) o x
       have gg:w5.grownBy ((((((((((w5.setCell ⟨rb+1+1,0,none⟩ (.int .i64 s.k)).setCell ⟨rb+1+1,1,none⟩ (.int .i64 s.w)).setCell ⟨rb+1+1,2,none⟩ (.int .i64 s.h)).setCell ⟨rb+1+1,3,none⟩ (.int .i64 s.x)).setCell ⟨rb+1+1,4,none⟩ (.int .i64 s.y)).setCell ⟨rb+1+1,5,none⟩ (.string s.t)).setCell ⟨rb+1+1,6,none⟩ (.slice za zn zc)).setCell ⟨rb+1+1,7,none⟩ (.int .i64 s.n)).setCell ⟨rb+1+1,8,none⟩ (.int .i64 s.c)).setCell ⟨rb+1+1,9,none⟩ (.slice ta tn tc)) (some (rb+1+1)):=(grown_trans (grown_trans (grown_trans (grown_trans (grown_trans (grown_trans (grown_trans (grown_trans (grown_trans (hg w5 0 _) (hg _ 1 _)) (hg _ 2 _)) (hg _ 3 _)) (hg _ 4 _)) (hg _ 5 _)) (hg _ 6 _)) (hg _ 7 _)) (hg _ 8 _)) (hg _ 9 _));have hbu:Below rb w w5:=HB0.out.trans ((HBel.out w5 HI5.out.e).mono (by omega))
       have hbf:=hbu.trans ((Below.refl rb w5).grown gg (by have:=HX.out; have:=HI5.out.sz; omega) (fun q e=>by have:=Option.some.inj e; omega));have ho9:=HO5.out.kept gg (fun q hq e=>by have:=(HO5.out.ownBlock q hq).1; have:=Option.some.inj e; have:=HX.out; omega);have hr9:=HR5.out.moved gg.size (fun x hx p o e hl=>gg.block p hl (fun e2=>by have:=(HO3.out x hx p o e).2.2; have:=Option.some.inj e2; omega));refine ⟨za,zn,zc,ta,tn,tc,rfl,HSI.out _ ho9 hr9 hbf,?_,vs,base,ho9,hr9,by have:=HKk.out; have:=HX.out; omega,fun x hx p o e=>(HO3.out x hx p o e).2.2.2,HTk.out⟩;rw [HRb.out];exact hbf)
      clear hz0 hyf hyes
      go_wp2_with fail
      refine bodyPost_ret (v:=.tuple #[.agg #[.int .i64 s.k,.int .i64 s.w,.int .i64 s.h,.int .i64 s.x,.int .i64 s.y,.string s.t,.slice za zn zc,.int .i64 s.n,.int .i64 s.c,.slice ta tn tc],.int .i64 0]) (by rw [results_cell_tmp rfl]; go_simp) rfl ?_;exact hend.out
end Go.Proofs.YtagolklnjhpbdaaDoor.K
