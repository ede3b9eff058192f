import Derived.Test.YtagolklnjhpbdaaDoorMerged0
import Derived.Test.YtagolklnjhpbdaaDoorMerged3
namespace Go.Proofs.YtagolklnjhpbdaaDoor.X
open Go.RowKit Go.Shelf Go.Proofs.YtagolklnjhpbdaaDoor.I
attribute [local go_sem] Oper.semAt_some
structure BelowE (base B:Nat) (w w':World):Prop where
 os:w'.os=w.os
 tape:w'.tape=w.tape
 output:w'.output=w.output
 size:w.heap.size≤w'.heap.size
 block:∀ k,k<base→k≠B→w'.heap[k]?=w.heap[k]?
theorem BelowE.refl (base B:Nat) (w:World):BelowE base B w w:=⟨rfl,rfl,rfl,Nat.le_refl _,fun _ _ _=>rfl⟩
theorem BelowE.trans {base B:Nat} {a b c:World} (h:BelowE base B a b) (k:BelowE base B b c):BelowE base B a c :=
 ⟨k.os.trans h.os,k.tape.trans h.tape,k.output.trans h.output,Nat.le_trans h.size k.size,fun i hi hn=>(k.block i hi hn).trans (h.block i hi hn)⟩
theorem BelowE.of_below {base:Nat} {w w':World} (h:Below base w w') (B:Nat):BelowE base B w w':=⟨h.os,h.tape,h.output,h.size,fun k hk _=>h.block k hk⟩
theorem BelowE.transB {base B:Nat} {a b c:World} (h:BelowE base B a b) (k:Below base b c):BelowE base B a c:=h.trans (BelowE.of_below k B)
theorem BelowE.zero {base B:Nat} {w w':World} (h:BelowE base B w w'):Below 0 w w':=⟨h.os,h.tape,h.output,h.size,fun k hk=>by omega⟩
theorem BelowE.below {base B n:Nat} {w w':World} (h:BelowE base B w w') (h1:n≤base) (h2:n≤B):Below n w w':=⟨h.os,h.tape,h.output,h.size,fun k hk=>h.block k (by omega) (by omega)⟩
theorem BelowE.drew {base B:Nat} {a w:World} (h:BelowE base B a w):BelowE base B a w.drew:=⟨h.os,h.tape,h.output,h.size,h.block⟩
theorem BelowE.alloc {base B:Nat} {a w:World} (h:BelowE base B a w) (hB:base≤w.heap.size) (o:Obj):BelowE base B a (w.alloc o):=h.transB ((Below.refl _ _).alloc hB o)
theorem BelowE.setCell {base B:Nat} {a w:World} (h:BelowE base B a w) {p:Addr} (hp:p.block=B) (u:Value):BelowE base B a (w.setCell p u) :=
 h.trans ⟨rfl,rfl,rfl,by simp [World.setCell],fun k _ hn=>Below.heap_setCell _ _ _ _ (by rw [hp]; exact hn)⟩
theorem BelowE.grown {base B:Nat} {a w w':World} {row:Option Nat} (h:BelowE base B a w) (hg:w.grownBy w' row) (hB:base≤w.heap.size) (hr:∀ k,row=some k→base≤k):BelowE base B a w' :=
 h.transB ((Below.refl _ _).grown hg hB hr)
theorem ownFrom_belowE {β:Type} {base C B:Nat} {w₀:World} (hn:base≤w₀.heap.size) (hB:base≤C):OwnFrom C (fun (_:β) W=>BelowE base B w₀ W) :=
 fun _ _ _ _ hs hg hr=>hs.grown hg (Nat.le_trans hn hs.size) (fun k e=>Nat.le_trans hB (hr k e).1)
def NumInv (w:World) (base B:Nat) (bs:List UInt8) (ds:List Deferred) (W:World):Prop :=
 Marks (w.heap.size+1) ds W∧Boxed W w.heap.size 72 (.pointer (some ⟨B,0,none⟩))∧OutAt base B bs W∧BelowE base B w W∧Keeps B w W
theorem own_numInv {w:World} {base B C:Nat} {bs:List UInt8} {ds:List Deferred} (hds:∀ D,({ target:=.collected D,args:=#[] }:Deferred) ∈ ds→D<C) (hC:w.heap.size≤C) (hb:base≤w.heap.size) :
    OwnFrom C (fun (pre:List UInt8) W=>NumInv w base B (bs++pre) ds W) :=
 OwnFrom.and (ownFrom_marks hds) (OwnFrom.and (Own.from (boxed_own _ 72 (fun _:List UInt8=>Value.pointer (some ⟨B,0,none⟩))) _) (OwnFrom.and (Own.from (own_outAt base B bs) _) (OwnFrom.and (ownFrom_belowE hb (by omega)) (ownFrom_keeps hC))))
theorem NumInv.alloc {w:World} {base B:Nat} {bs:List UInt8} {ds:List Deferred} {W:World} (h:NumInv w base B bs ds W) (hb:base≤w.heap.size) (o:Obj):NumInv w base B bs ds (W.alloc o):=by
 obtain ⟨h1,h2,⟨v,h3,h4⟩,h5,h6⟩ := h;exact ⟨h1.keepsOthers (KeepsOthers.alloc _ _),h2.alloc _,⟨v,h3.alloc _,h4.alloc _⟩,h5.alloc (Nat.le_trans hb h5.size) _,h6.trans (Keeps.alloc _ _ _)⟩
structure AppEnv where
 base:Nat
 B:Nat
 bo:Nat
 V:World
 v:Value
 k:Nat
 xs:List Value
 x:UInt8
def AppEnv.ptr (E:AppEnv):Value:=.pointer (some ⟨E.B,0,none⟩)
def AppEnv.P2 (E:AppEnv) (u:Value) (w:World):Prop:=w.ownsRow E.base 5 1 u (E.k+1) (E.xs++[c5 E.x])∧KeepsOthers E.V w∧BelowE E.base E.B E.V w∧Keeps E.B E.V w
def AppEnv.Ok (E:AppEnv):Nat→Value→World→Prop
  | 0,u,_=>u=E.ptr
  | 1,u,_=>u=E.ptr
  | 2,u,_=>u=E.ptr
  | 3,u,_=>u=E.ptr
  | 4,u,_=>u=E.v
  | 5,u,_=>u=c5 E.x
  | 6,u,w=>∃ g,E.V.heap.size≤g∧g<w.heap.size∧u=.slice (some ⟨g,0,none⟩) 1 1∧w.cell? ⟨g,0,none⟩=some (c5 E.x)
  | 7,u,w=>E.P2 u w
  | 8,u,_=>u=E.ptr
  | 9,u,_=>u=E.ptr
  | _,_,_=>True
def AppEnv.C12 (E:AppEnv) (w:World):Prop:=Boxed w E.bo 72 E.ptr∧Boxed w E.B 68 E.v∧E.V.heap.size≤w.heap.size
def AppEnv.Fin (E:AppEnv) (w:World):Prop:=KeepsOthers E.V w∧BelowE E.base E.B E.V w∧Boxed w E.bo 72 E.ptr∧(∃ v',Boxed w E.B 68 v'∧w.ownsRow E.base 5 1 v' (E.k+1) (E.xs++[c5 E.x]))∧Keeps E.B E.V w
def AppEnv.C (E:AppEnv) (listed:Array Bool) (w:World):Prop :=
 (listed.getD 10 false=true→E.Fin w∧∀ j,j<10→j≠8→listed.getD j false=true) ∧
 (listed.getD 10 false=false→E.C12 w∧(listed.getD 7 false=false→Below E.V.heap.size E.V w))
theorem getD_set_ne {l:Array Bool} {i j:Nat} (h:i≠j):(l.setIfInBounds i true).getD j false=l.getD j false:=by
 rw [gDx,Array.getElem?_setIfInBounds,if_neg h,← gDx]
theorem getD_set_self {l:Array Bool} {i:Nat} (h:i<l.size):(l.setIfInBounds i true).getD i false=true:=by
 rw [gDx,Array.getElem?_setIfInBounds,if_pos rfl,if_pos h]; rfl
theorem AppEnv.C.ten {E:AppEnv} {l:Array Bool} {w:World} (h:E.C l w) {i:Nat} (hi:i<10) (h8:i≠8) (hu:l.getD i false=false):l.getD 10 false=false:=by
 cases h10:l.getD 10 false with
 | false=>rfl
 | true=>rw [(h.1 h10).2 i hi h8] at hu; cases hu
theorem AppEnv.C.step {E:AppEnv} {l:Array Bool} {w w':World} (h:E.C l w) {i:Nat} (hi:i<10) (h8:i≠8) (h7:i≠7) (hu:l.getD i false=false) (hc:E.C12 w') (hb:Below E.V.heap.size E.V w→Below E.V.heap.size E.V w'):E.C (l.setIfInBounds i true) w':=by
 have h10:=h.ten hi h8 hu;refine ⟨fun h'=>?_,fun _=>⟨hc,fun h'=>hb ((h.2 h10).2 ?_)⟩⟩
 · rw [getD_set_ne (by omega),h10] at h'; cases h'
 · rwa [getD_set_ne h7] at h'
theorem AppEnv.C.same {E:AppEnv} {l:Array Bool} {w:World} (h:E.C l w) {i:Nat} (hi:i<10) (h7:i≠7) (_hu:l.getD i false=false) (hs:l.size=11):E.C (l.setIfInBounds i true) w:=by
 refine ⟨fun h'=>?_,fun h'=>?_⟩
 · rw [getD_set_ne (by omega)] at h';refine ⟨(h.1 h').1,fun j hj h8=>?_⟩;by_cases e:i=j
   · subst e; exact getD_set_self (by omega)
   · rw [getD_set_ne e]; exact (h.1 h').2 j hj h8
 · rw [getD_set_ne (by omega)] at h';refine ⟨(h.2 h').1,fun k=>(h.2 h').2 ?_⟩
   rwa [getD_set_ne h7] at k
theorem AppEnv.Ok.alloc {E:AppEnv} {j:Nat} {u:Value} {w:World} (h:E.Ok j u w) (hb:E.base≤E.V.heap.size) (o:Obj):E.Ok j u (w.alloc o):=by
 unfold AppEnv.Ok at h ⊢
 split <;> first | exact True.intro | exact h | skip
 · obtain ⟨g,h1,h2,h3,h4⟩ := h;exact ⟨g,h1,by simp; omega,h3,by rw [World.cell?_alloc_past _ _ _ h2]; exact h4⟩
 · obtain ⟨h1,h2,h3,h4⟩ := h;exact ⟨h1.alloc _,h2.trans (KeepsOthers.alloc _ _),h3.alloc (Nat.le_trans hb h2.size) _,h4.trans (Keeps.alloc _ _ _)⟩
theorem AppEnv.Ok.set {E:AppEnv} {j:Nat} {u x:Value} {w:World} (h:E.Ok j u w) (hB:E.B<E.V.heap.size) (hb:E.B=E.B) (hbx:Boxed w E.B 68 E.v):E.Ok j u (w.setCell ⟨E.B,0,none⟩ x):=by
 unfold AppEnv.Ok at h ⊢
 split <;> first | exact True.intro | exact h | skip
 · obtain ⟨g,h1,h2,h3,h4⟩ := h;exact ⟨g,h1,Nat.lt_of_lt_of_le h2 (KeepsWalks.setCell w _ x).size,h3,by rw [World.cell?_setCell_other _ _ _ _ (by intro e; cases e; omega)]; exact h4⟩
 · obtain ⟨h1,h2,h3,h4⟩ := h;exact ⟨h1.kept (grownBy_setCell' w E.B x) (.inr (Boxed.not_row hbx (by decide) h1).symm),h2.trans (KeepsOthers.setCell _ _ _),h3.setCell (p:=⟨E.B,0,none⟩) hb _,h4.trans (Keeps.setCell _ _ _ _)⟩
set_option maxRecDepth 100000 in
set_option maxHeartbeats 4000000 in
theorem outnum_in (n:Nat) (hn:4≤n) (base B bl off len cap:Nat) (zs:List Int) (bs:List UInt8) (w:World) (hlen:len=zs.length) (hsz:(bs.length:Int)+10*zs.length≤1000000)
    (hO:OutAt base B bs w) (hI:∀ w',BelowE base B w w'→Keeps B w w'→Ints w' bl off zs) (hbw:base≤w.heap.size) :
    CallsIn Fence.wide n Tryd.prog 30 #[.pointer (some ⟨B,0,none⟩),.slice (some ⟨bl,off,none⟩) len cap] w fun e W'=>e=.returned (.pointer (some ⟨B,0,none⟩))∧OutAt base B (bs++numsOf zs) W'∧BelowE base B w W'∧Keeps B w W':=by
 have h1:1≤n:=by omega
 have hlen':(len:Int)≤100000:=by omega
 have HL:=hDx hlen;have HI:=hDx hI;have HO:=hDx hO;have HSZ:=hDx hsz;have HBW:=hDx hbw;clear hlen hI hO hsz hbw;obtain ⟨i0,hi,hz0,hz1,hz2⟩ := info_parts info5;refine callsIn_of_wp_marks Tryd.func30 rfl trivial ?_ rfl;simp only [Tryd.ntmps30,List.size_toArray,List.length_cons,List.length_nil,Nat.reduceAdd,Nat.reduceSub,Array.replicate_succ,Array.replicate_zero,List.push_toArray,List.append_toArray,List.nil_append,List.cons_append]
 gi_wp2
 have hStart:NumInv w base B (bs++numsOf (zs.take 0)) [] (w.alloc (.cells #[.pointer (some ⟨B,0,none⟩)] 72)):=by
  obtain ⟨v,k1,k2⟩ := HO.out;refine ⟨Marks.nil _ _,Boxed.new _ _ _,⟨v,k1.alloc _,?_⟩,(BelowE.refl _ _ _).alloc HBW.out _,Keeps.alloc _ _ _⟩;have:=k2.alloc (.cells #[.pointer (some ⟨B,0,none⟩)] 72)
  simpa [numsOf] using this
 have HS:=hDx hStart;clear hStart;refine wpIn_loop (fun a' W=>∃ (k:Nat) (u:Nat→Value) (ds:List Deferred),k≤len∧Hid (NumInv w base B (bs++numsOf (zs.take k)) ds W)∧a'={ tmps:=#[.pointer (some ⟨B,0,none⟩),.slice (some ⟨bl,off,none⟩) len cap,.pointer (some ⟨w.heap.size,0,none⟩),undef,.pointer none,undef,u 6,u 7,.pointer (some ⟨B,0,none⟩),.bool false,.slice (some ⟨bl,off,none⟩) len cap,.int .i64 len,.int .i64 k,u 13,u 14,u 15,u 16,u 17,u 18,u 19,u 20,u 21,u 22,u 23,u 24,u 25,u 26,u 27,u 28,u 29,undef],defers:=ds }) (fun a' _=>len - (intOf (a'.tmps.getD 12 undef)).toNat) ⟨0,fun _=>undef,[],by omega,HS,rfl⟩ ?_;rintro a' W ⟨k,u,ds,hk,HInv,rfl⟩;by_cases hlt:k<len
 · have hlz:k<zs.length:=by rw [← HL.out]; exact hlt
   obtain ⟨hm,hbx,hout,hB,hKp⟩ := HInv.out;have hc:=HI.out W hB hKp k hlz;obtain ⟨z,hz⟩ : ∃ z,zs.getD k 0=z:=⟨_,rfl⟩;rw [hz] at hc;have HZ:=hDx hz;have hWs:=hB.size;have HM:=hDx hm;have hsizes:=hKp.size;clear hz hm hbx hout hB hKp
   gi_wp2_with (refine ⟨trivial,?_⟩; gi_at_call 66; refine (digits_in (n - 1) z _).mono ?_; rintro e w' ⟨rfl,rfl⟩)
   have bN:=Boxed.new W 3 (.int .i64 z);obtain ⟨W1,hW1⟩ : ∃ W1,W.alloc (.cells #[.int .i64 z] 3)=W1:=⟨_,rfl⟩;have hW1s:W1.heap.size=W.heap.size+1:=by rw [← hW1]; simp
   obtain ⟨bs',hbs'⟩ : ∃ bs',bs++numsOf (zs.take k)=bs':=⟨_,rfl⟩;have HBS:=hDx hbs';have hbl:(bs'.length:Int)+9≤1000000:=by
    rw [← hbs'];have h:=HSZ.out;have h2:=numsOf_le (zs.take k);simp at h2 ⊢;omega
   have hInv1:NumInv w base B (bs'++[]) ds W1:=by
    rw [List.append_nil,← hW1,← hbs'];exact HInv.out.alloc HBW.out _
   have HInv1:=hDx hInv1;clear HInv hInv1 hbs';rw [hW1] at bN ⊢;clear hW1
   refine wpIn_rangeFunc_ownF rfl h1 (gf:=84) (lb:=#[.pointer (some ⟨W.heap.size,0,none⟩)]) rfl trivial (enters_of Tryd.func84 (by kernel_rfl) rfl)
     (digits_stops (n - 1) (by omega) W.heap.size 0 z W1 (by omega) bN.cell) belowK_t (belowK_b (Nat.zero_le _)) (Below.refl _ _) (fun _=>rfl)
     (fun pre V=>NumInv w base B (bs'++pre) ds V)
     (fun _ _ _=>False)
     (own_numInv (fun D hD=>by have:=HM.out.lt D hD; omega) (by omega) HBW.out)
     (fun _ _ _ _ _ hs _ _=>hs)
     HInv1.out
     (fun x=>{ tmps:=#[.pointer (some ⟨B,0,none⟩),.slice (some ⟨bl,off,none⟩) len cap,.pointer (some ⟨w.heap.size,0,none⟩),undef,.pointer none,undef,.int .i64 z,.int .u8 (x.toNat:Int),.pointer (some ⟨B,0,none⟩),.bool false,.slice (some ⟨bl,off,none⟩) len cap,.int .i64 len,.int .i64 k,.bool true,.pointer (some ⟨bl,off+k,none⟩),.int .i64 z,.int .i64 z,.func (.func 84) #[] #[.pointer (some ⟨W.heap.size,0,none⟩)],.int .u8 (x.toNat:Int),u 19,u 20,u 21,u 22,u 23,u 24,u 25,u 26,u 27,u 28,u 29,undef],defers:=[] }) ?assign ?body ?done ?stop
   case assign =>
    intro l x V K hK
    gi_wp2
    exact hK
   case body =>
    rintro l pre x V ⟨hm,hbx,⟨v,hv,hrow⟩,hB,hKp⟩ hltp;have hVs:=hB.size;have hpl:(pre.length:Int)≤9:=by have:=digs_nine (clipN z) (clipN_le z); omega
    obtain ⟨kk,hkk⟩ : ∃ kk,(bs'++pre).length=kk:=⟨_,rfl⟩;obtain ⟨X,hX⟩ : ∃ X,(bs'++pre).map c5=X:=⟨_,rfl⟩;have hkb:(kk:Int)≤1000000:=by rw [← hkk]; simp; omega
    rw [hkk,hX] at hrow;have HKK:=hDx hkk;have HXX:=hDx hX;clear hkk hX;have HBV:Hid (base≤V.heap.size):=hDx (Nat.le_trans HBW.out hVs);have HBB:Hid (w.heap.size≠B):=hDx (by intro e; have h:=hv; rw [← e] at h; have h2:V.heap[w.heap.size]?=_:=hbx; rw [show V.heap[w.heap.size]?=_ from h] at h2; cases h2);obtain ⟨E,hE⟩ : ∃ E:AppEnv,E={ base:=base,B:=B,bo:=w.heap.size,V:=V,v:=v,k:=kk,xs:=X,x:=x }:=⟨_,rfl⟩
    gi_wp2
    refine wpIn_region_rel (by kernel_rfl) E.C E.Ok (by rfl) (by kernel_rfl) (by kernel_rfl) ?hop ?hdone ?h0
    case h0=>subst hE; exact ⟨fun h=>by simp at h,fun _=>⟨⟨hbx,hv,Nat.le_refl _⟩,fun _=>(Below.refl _ _).drew⟩⟩
    case hdone =>
     intro listed z1 v1 hC hall hag _;obtain ⟨h1',h2',h3',h4',h5'⟩ := (hC.1 (hall 10 (by decide))).1;subst hE;obtain ⟨v',k1,k2⟩ := h4';exact ⟨h1',h2'.zero,hm.keepsOthers h1',h3',⟨v',k1,by rw [← HKK.out,← HXX.out] at k2; simpa [Nat.add_assoc] using k2⟩,hB.trans h2',hKp.trans h5'⟩
    case hop =>
     subst hE;refine ⟨?_,?_,?_,?_,?_,?_,?_,?_,?_,?_,?_,trivial⟩
     · intro listed z1 v1 hC hlsz hun hdl hag hdep;refine .inl ⟨rfl,fun K hK=>?_⟩;have d2:z1.tmps.getD 2 undef=.pointer (some ⟨w.heap.size,0,none⟩):=hag.2.2 2 (by kernel_rfl);have e2:=gEx d2;have hcell:=(hC.2 (hC.ten (by omega) (by omega) hun)).1.1.cell;have HC:=hDx hC;clear hC hdep hag;go_simp;exact hK _ _ (HC.out.same (by omega) (by omega) hun hlsz) (fun _ _ _ _ h=>h) rfl
     · intro listed z1 v1 hC hlsz hun hdl hag hdep;refine .inl ⟨rfl,fun K hK=>?_⟩;have d2:z1.tmps.getD 2 undef=.pointer (some ⟨w.heap.size,0,none⟩):=hag.2.2 2 (by kernel_rfl);have e2:=gEx d2;have hcell:=(hC.2 (hC.ten (by omega) (by omega) hun)).1.1.cell;have HC:=hDx hC;clear hC hdep hag;go_simp;exact hK _ _ (HC.out.same (by omega) (by omega) hun hlsz) (fun _ _ _ _ h=>h) rfl
     · intro listed z1 v1 hC hlsz hun hdl hag hdep;refine .inl ⟨rfl,fun K hK=>?_⟩;have d20:z1.tmps.getD 20 undef=.pointer (some ⟨B,0,none⟩):=hdep ⟨1,.data⟩ (by simp) rfl _ _ rfl rfl;have e20:=gEx d20;have HC:=hDx hC;clear hC hdep hag;go_simp;exact hK _ _ (HC.out.same (by omega) (by omega) hun hlsz) (fun _ _ _ _ h=>h) rfl
     · intro listed z1 v1 hC hlsz hun hdl hag hdep;refine .inl ⟨rfl,fun K hK=>?_⟩;have d21:z1.tmps.getD 21 undef=.pointer (some ⟨B,0,none⟩):=hdep ⟨2,.data⟩ (by simp) rfl _ _ rfl rfl;have e21:=gEx d21;have HC:=hDx hC;clear hC hdep hag;go_simp;exact hK _ _ (HC.out.same (by omega) (by omega) hun hlsz) (fun _ _ _ _ h=>h) rfl
     · intro listed z1 v1 hC hlsz hun hdl hag hdep;refine .inl ⟨rfl,fun K hK=>?_⟩;have d22:z1.tmps.getD 22 undef=.pointer (some ⟨B,0,none⟩):=hdep ⟨3,.data⟩ (by simp) rfl _ _ rfl rfl;have e22:=gEx d22;have hcell:=(hC.2 (hC.ten (by omega) (by omega) hun)).1.2.1.cell;have HC:=hDx hC;clear hC hdep hag;go_simp;exact hK _ _ (HC.out.same (by omega) (by omega) hun hlsz) (fun _ _ _ _ h=>h) rfl
     · intro listed z1 v1 hC hlsz hun hdl hag hdep;refine .inl ⟨rfl,fun K hK=>?_⟩;have d7:z1.tmps.getD 7 undef=.int .u8 (x.toNat:Int):=hag.2.2 7 (by kernel_rfl);have e7:=gEx d7;have HC:=hDx hC;clear hC hdep hag;go_simp;exact hK _ _ (HC.out.same (by omega) (by omega) hun hlsz) (fun _ _ _ _ h=>h) rfl
     · intro listed z1 v1 hC hlsz hun hdl hag hdep;refine .inl ⟨rfl,fun K hK=>?_⟩;have d24:z1.tmps.getD 24 undef=.int .u8 (x.toNat:Int):=hdep ⟨5,.data⟩ (by simp) rfl _ _ rfl rfl;have e24:=gEx d24;have HC:=hDx hC;clear hC hdep hag;go_simp;have hc12:=(HC.out.2 (HC.out.ten (by omega) (by omega) hun)).1;exact hK _ _ (HC.out.step (by omega) (by omega) (by omega) hun ⟨hc12.1.alloc _,hc12.2.1.alloc _,by have h2:V.heap.size≤v1.heap.size:=hc12.2.2; simp; omega⟩ (fun h=>h.alloc h.size _)) (fun _ _ _ _ h=>h.alloc HBV.out _) ⟨v1.heap.size,hc12.2.2,by simp,rfl,by simp; rfl⟩
     · intro listed z1 v1 hC hlsz hun hdl hag hdep;refine .inl ⟨rfl,fun K hK=>?_⟩;have d23:z1.tmps.getD 23 undef=v:=hdep ⟨4,.data⟩ (by simp) rfl _ _ rfl rfl;have e23:=gEx d23;obtain ⟨gx,hg1,hg2,d25,hgx⟩ : ∃ g,V.heap.size≤g∧g<v1.heap.size∧z1.tmps.getD 25 undef=.slice (some ⟨g,0,none⟩) 1 1∧v1.cell? ⟨g,0,none⟩=some (c5 x):=hdep ⟨6,.data⟩ (by simp) rfl _ _ rfl rfl;have e25:=gEx d25;have h10:=hC.ten (i:=7) (by omega) (by omega) hun;obtain ⟨⟨hb1,hb2,hbs0⟩,hbel⟩ := hC.2 h10;have hbel:Below V.heap.size V v1:=hbel hun;have hrow1:v1.ownsRow base 5 1 v kk X:=hrow.kept (grownBy_of_below hbel) (by cases hv':v.ownBlock <;> simp)
       obtain ⟨v',w1,hrun,hown',hgrow,_⟩ := run_append_own (P:=Tryd.prog) v1 base 66 66 5 i0 (.int .u8 0) 1 1 Tryd.underlying66 hi hz0 hz1 hz2 rfl (by decide) v kk X hrow1 ⟨gx,0,none⟩ 1 1 [c5 x] rfl (one_cell hgx) (by intro u hu; simp at hu; subst hu; rfl) (by unfold maxLen; omega) (by omega) (by have:=HBW.out; have:=hbel.size; omega);have hne:some w.heap.size≠v.ownBlock:=Boxed.not_row hb1 (by decide) hrow1;have hneB:some B≠v.ownBlock:=Boxed.not_row hb2 (by decide) hrow1;have hvlt:∀ q,v.ownBlock=some q→base≤q∧q<V.heap.size:=hrow.lt
       have hKO:KeepsOthers V w1:=(keepsOthers_below hbel).trans (KeepsOthers.of_grownBy hgrow (fun q o hq ho=>row_cells hrow1 hq ho));have hBl:BelowE base B V w1:=(BelowE.of_below (hbel.mono HBV.out) B).grown hgrow (Nat.le_trans HBV.out hbel.size) (fun q hq=>(hvlt q hq).1);have hKe:Keeps B V w1:=Keeps.grown (keeps_below hbel) hrow1 hgrow;unfold Oper.wpIn;refine ⟨by simp [Oper.about,resolve,Target.leads,Sem.run_pure],?_⟩;rw [Oper.semAt_plain _ _ _ (by intro c hc; cases hc)];simp [execOp,resolve,invoke,builtin,Act.eval,e23,e25,hrun,Result.andThen,Oper.uponIn];refine hK _ _ ⟨fun h'=>?_,fun _=>⟨⟨Boxed.kept hb1 hgrow hne,Boxed.kept hb2 hgrow hneB,Nat.le_trans hbs0 hgrow.size⟩,fun h'=>?_⟩⟩ ?_ ⟨hown',hKO,hBl,hKe⟩
       · rw [getD_set_ne (by omega),h10] at h'; cases h'
       · rw [getD_set_self (by have hh:listed.size=11:=hlsz; omega)] at h'; cases h'
       · intro j u hj7 _ hok;unfold AppEnv.Ok at hok ⊢
         split at hok <;> first | exact True.intro | exact hok | skip
         · obtain ⟨g,k1,k2,k3,k4⟩ := hok;exact ⟨g,k1,Nat.lt_of_lt_of_le k2 hgrow.size,k3,hgrow.cell k4 (fun e=>by have:=(hvlt g e.symm).2; have k1':V.heap.size≤g:=k1; omega)⟩
         · exact absurd rfl hj7
     · intro listed z1 v1 hC hlsz hun hdl hag hdep;refine .inl ⟨rfl,fun K hK=>?_⟩;have d19:z1.tmps.getD 19 undef=.pointer (some ⟨B,0,none⟩):=hdep ⟨0,.data⟩ (by simp) rfl _ _ rfl rfl;have e19:=gEx d19;have HC:=hDx hC;clear hC hdep hag;go_simp;exact hK _ _ (HC.out.same (by omega) (by omega) hun hlsz) (fun _ _ _ _ h=>h) rfl
     · intro listed z1 v1 hC hlsz hun hdl hag hdep;refine .inl ⟨rfl,fun K hK=>?_⟩;have d27:z1.tmps.getD 27 undef=.pointer (some ⟨B,0,none⟩):=hdep ⟨8,.data⟩ (by simp) rfl _ _ rfl rfl;have e27:=gEx d27;have HC:=hDx hC;clear hC hdep hag;go_simp;exact hK _ _ (HC.out.same (by omega) (by omega) hun hlsz) (fun _ _ _ _ h=>h) rfl
     · intro listed z1 v1 hC hlsz hun hdl hag hdep;refine .inl ⟨rfl,fun K hK=>?_⟩;have d28:z1.tmps.getD 28 undef=.pointer (some ⟨B,0,none⟩):=hdep ⟨9,.data⟩ (by simp) rfl _ _ rfl rfl;have e28:=gEx d28;obtain ⟨u1,d26⟩ : ∃ u1,z1.tmps.getD 26 undef=u1:=⟨_,rfl⟩;have hp2:AppEnv.P2 _ (z1.tmps.getD 26 undef) v1:=hdep ⟨7,.data⟩ (by simp) rfl _ _ rfl rfl;rw [d26] at hp2;obtain ⟨hrow2,hKO,hBl,hKe⟩ := hp2;obtain ⟨g',cap',rfl⟩ := ownsRow_succ hrow2;have e26:=gEx d26;obtain ⟨⟨hb1,hb2,_⟩,_⟩ := hC.2 hun;have hcell:=hb2.cell;have hfr:=hb2.frozen;have hl:∀ j,j<10→j≠8→listed.getD j false=true:=fun j hj h8=>hdl { on:=j,ground:=if j=9 then .data else .phase } (by
        match j,hj,h8 with
        | 0,_,_=>simp
        | 1,_,_=>simp
        | 2,_,_=>simp
        | 3,_,_=>simp
        | 4,_,_=>simp
        | 5,_,_=>simp
        | 6,_,_=>simp
        | 7,_,_=>simp
        | 9,_,_=>simp) (by split <;> rfl)
       have HF:=hDx (show AppEnv.Fin _ (v1.setCell ⟨B,0,none⟩ (.slice (some ⟨g',0,none⟩) (kk+1) cap')) from ⟨hKO.trans (KeepsOthers.setCell _ _ _),hBl.setCell (p:=⟨B,0,none⟩) rfl _,Boxed.other hb1 HBB.out _,⟨.slice (some ⟨g',0,none⟩) (kk+1) cap',hb2.set (.slice (some ⟨g',0,none⟩) (kk+1) cap'),hrow2.kept (grownBy_setCell' v1 B (.slice (some ⟨g',0,none⟩) (kk+1) cap')) (.inr (Boxed.not_row hb2 (by decide) hrow2).symm)⟩,hKe.trans (Keeps.setCell _ _ _ _)⟩);have HLl:=hDx hl;have HSt:=hDx (fun (j:Nat) (u:Value) (hok:AppEnv.Ok _ j u v1)=>hok.set (x:=.slice (some ⟨g',0,none⟩) (kk+1) cap') hv.lt rfl hb2);clear hdep hag hdl hC hrow2 hKO hBl hKe hb1 hb2 hl;go_simp;refine hK undef _ ⟨fun _=>⟨HF.out,fun j hj h8=>?_⟩,fun h'=>?_⟩ ?_ trivial
       · rw [getD_set_ne (by omega)]; exact HLl.out j hj h8
       · rw [getD_set_self (by have hh:listed.size=11:=hlsz; omega)] at h'; cases h'
       · exact fun j u _ _ hok=>HSt.out j u hok
   case done =>
    rintro D ys V hD rfl hI2 hK;have HI2:=hDx hI2;have HK:=hDx hK;have hDn:∀ D',({ target:=.collected D',args:=#[] }:Deferred) ∈ ds→D'≠D:=fun D' hD'=>by have:=HM.out.lt D' hD'; omega
    have HDn:=hDx hDn;have HD:=hDx hD;clear hI2 hK hDn hD
    gi_wp2
    refine ⟨⟨k+1,fun j=>(#[.pointer (some ⟨B,0,none⟩),.slice (some ⟨bl,off,none⟩) len cap,.pointer (some ⟨w.heap.size,0,none⟩),undef,.pointer none,undef,.int .i64 z,u 7,.pointer (some ⟨B,0,none⟩),.bool false,.slice (some ⟨bl,off,none⟩) len cap,.int .i64 len,.int .i64 (k+1),.bool true,.pointer (some ⟨bl,off+k,none⟩),.int .i64 z,.int .i64 z,.func (.func 84) #[] #[.pointer (some ⟨W.heap.size,0,none⟩)],u 18,u 19,u 20,u 21,u 22,u 23,u 24,u 25,u 26,u 27,u 28,.int .i64 (k+1),undef]:Array Value).getD j undef,{ target:=.collected D,args:=#[] }::ds,by omega,?_,?_⟩,?_⟩
    · obtain ⟨_,q2,q3,q4,q5⟩ := HI2.out;have hl2:bs++numsOf (zs.take (k+1))=bs'++digs (clipN z):=by rw [numsOf_snoc zs k hlz,HZ.out,← HBS.out,List.append_assoc]
      rw [hl2];exact hDx ⟨Marks.cons HI2.out.1 HK.out (by have:=HD.out; omega) HDn.out,q2,q3,q4,q5⟩
    · simp
    · simp [intOf]; omega
   case stop =>
    rintro D c pre V _ _ h _;exact h.elim
 · obtain rfl:k=len:=by omega
   obtain ⟨hm,hbx,hout,hB,hKp⟩ := HInv.out;have hc1:=hbx.cell;have hfull:zs.take k=zs:=by rw [HL.out,List.take_length]
   rw [hfull] at hout;have HOut:=hDx hout;have HB:=hDx hB;have HKp:=hDx hKp;have HM:=hDx hm;clear hm hbx hout hB hKp hfull
   gi_wp2
   refine leaves_marks (C:=w.heap.size+1) (fun V=>OutAt base B (bs++numsOf zs) V∧BelowE base B w V∧Keeps B w V) ?_ ?_ ds W HM.out ⟨HOut.out,HB.out,HKp.out⟩
   · rintro V D ⟨q1,q2,q3⟩ hC hD;exact ⟨q1.putObj D _ _ hD rfl,q2.transB (belowK_b (w:=w) HBW.out V D _ _ (by omega) hD rfl rfl),q3.putObj D _ (by omega)⟩
   · rintro V ⟨q1,q2,q3⟩;exact ⟨_,results_tmp rfl _ _ _,rfl,q1,q2,q3⟩
def Wrote (base B:Nat) (bs:List UInt8) (w:World) (e:Ending) (w':World):Prop:=e=.returned (.pointer (some ⟨B,0,none⟩))∧OutAt base B bs w'∧BelowE base B w w'∧Keeps B w w'
set_option maxRecDepth 100000 in
set_option maxHeartbeats 1000000 in
theorem raw_any (base B bl off cap:Nat) (ss:List ByteArray) (bs:List UInt8) (w:World) (hlen:(ss.length:Int)≤10000) (hsz:∀ k,k≤ss.length→((bs++bytesOf (ss.take k)).length:Int)≤100000000)
    (hO:OutAt base B bs w) (hS:∀ w',BelowE base B w w'→Keeps B w w'→Strs w' bl off ss) (hbw:base≤w.heap.size) :
    Calls Tryd.prog 31 #[.pointer (some ⟨B,0,none⟩),.slice (some ⟨bl,off,none⟩) ss.length cap] w (Wrote base B (bs++bytesOf ss) w):=by
 obtain ⟨n,hn⟩ : ∃ n,ss.length=n:=⟨_,rfl⟩;rw [hn] at hlen hsz ⊢;have HN:=hDx hn;have HSZ:=hDx hsz;have HO:=hDx hO;have HS:=hDx hS;have HBW:=hDx hbw;clear hn hsz hO hS hbw;obtain ⟨i0,hi,hz0,hz1,hz2⟩ := info_parts info5
 go_enter Tryd.func31,Tryd.ntmps31
 go_wp2
 go_loopw [6,11] (fun _ i wr=>∃ k:Nat,k≤n∧i=.int .i64 k∧Hid (OutAt base B (bs++bytesOf (ss.take k)) wr∧BelowE base B w wr∧Keeps B w wr)) (fun _ i _=>n - (intOf i).toNat)
 case atStart=>exact ⟨0,by omega,rfl,hDx ⟨by simpa [bytesOf] using HO.out,BelowE.refl _ _ _,Keeps.refl _ _⟩⟩
 case round =>
  obtain ⟨k,hk,rfl,hF⟩ := hrel;by_cases hlt:k<n
  · obtain ⟨⟨v,hv,hrow⟩,hB,hKp⟩ := hF.out;have hc:=HS.out wr hB hKp k (by rw [HN.out]; exact hlt);obtain ⟨s,hs⟩ : ∃ s,ss.getD k ByteArray.empty=s:=⟨_,rfl⟩;rw [hs] at hc;have hnext:=bytesOf_snoc ss k (by rw [HN.out]; exact hlt);rw [hs] at hnext;obtain ⟨cur,hcur⟩ : ∃ cur,bs++bytesOf (ss.take k)=cur:=⟨_,rfl⟩;have hlen2:((cur.length+s.size:Nat):Int)≤100000000:=by
     have h:=HSZ.out (k+1) (by omega);rw [hnext,← List.append_assoc,hcur,List.length_append] at h;exact h
    rw [hcur] at hrow;have HNext:Hid (bs++bytesOf (ss.take (k+1))=cur++s.data.toList):=hDx (by rw [hnext,← List.append_assoc,hcur]);obtain ⟨m,hm⟩ : ∃ m,cur.length=m:=⟨_,rfl⟩;obtain ⟨X,hX⟩ : ∃ X,cur.map c5=X:=⟨_,rfl⟩;rw [hm] at hlen2 hrow;rw [hX] at hrow;have HM:=hDx hm;have HX:=hDx hX;have hbws:=Nat.le_trans HBW.out hB.size;have hcB:=hv.cell;have hneB:some B≠v.ownBlock:=hv.not_row (by decide) hrow;have HB:=hDx hB;have HKp:=hDx hKp;have HV:=hDx hv;have HNe:=hDx hneB;clear hF hB hKp hs hnext hcur hm hX hv hneB
    go_wp2_with (at_builtin; refine Lib.wpList_append_own_string wr rfl _ _ 66 9 rfl base 5 i0 Tryd.underlying66 Tryd.underlying9 hi hz0 hz1 hz2 v m X rfl hrow s rfl ?c1 ?c2 hbws ?_)
    case c1=>unfold maxLen; omega
    case c2=>omega
    intro v' w1 hown' hgrow _;obtain ⟨a',c',rfl⟩ := slice_shape hown';have b1:Boxed w1 B 68 v:=HV.out.kept hgrow HNe.out;have hc1:=b1.cell;have hf1:=b1.frozen;have HB1:=hDx b1;have HR:=hDx hown';have HBl:Hid (BelowE base B w w1):=hDx (HB.out.grown hgrow hbws (fun q hq=>(hrow.lt q hq).1));have HKe:Hid (Keeps B w w1):=hDx (HKp.out.grown hrow hgrow);clear hown' hgrow b1 hrow
    go_wp2
    go_roundw
    case rel =>
     refine ⟨k+1,by omega,by go_num,hDx ⟨?_,HBl.out.setCell (p:=⟨B,0,none⟩) rfl _,HKe.out.trans (Keeps.setCell _ _ _ _)⟩⟩;rw [HNext.out];refine ⟨_,HB1.out.set _,?_⟩;have h:=HR.out.kept (grownBy_setCell' w1 B (.slice a' (m+s.size) c')) (.inr (HB1.out.not_row (by decide) HR.out).symm);rw [← HX.out,← HM.out,strCells_c5,← List.map_append] at h;rw [← HM.out,List.length_append];exact h
    case measure=>simp [intOf]; omega
  · obtain rfl:k=n:=by omega
    obtain ⟨hOut,hB,hKp⟩ := hF.out;have hfull:ss.take k=ss:=by rw [← HN.out,List.take_length]
    rw [hfull] at hOut;have HOut:=hDx hOut;have HB:=hDx hB;have HKp:=hDx hKp;clear hOut hB hKp hF hfull
    go_wp2
    go_ret
    exact ⟨rfl,HOut.out,HB.out,HKp.out⟩
theorem num_any (base B bl off cap:Nat) (zs:List Int) (bs:List UInt8) (w:World) (hsz:(bs.length:Int)+10*zs.length≤1000000)
    (hO:OutAt base B bs w) (hI:∀ w',BelowE base B w w'→Keeps B w w'→Ints w' bl off zs) (hbw:base≤w.heap.size) :
    Calls Tryd.prog 30 #[.pointer (some ⟨B,0,none⟩),.slice (some ⟨bl,off,none⟩) zs.length cap] w (Wrote base B (bs++numsOf zs) w) :=
 (callsIn_wide (n:=4)).1 (outnum_in 4 (Nat.le_refl _) base B bl off zs.length cap zs bs w rfl hsz hO hI hbw)
theorem num_one (base B:Nat) (z:Int) (bs:List UInt8) (w:World) (hsz:(bs.length:Int)≤999990) (hO:OutAt base B bs w) (hbw:base≤w.heap.size) :
    Calls Tryd.prog 30 #[.pointer (some ⟨B,0,none⟩),.slice (some ⟨w.heap.size,0,none⟩) 1 1] (w.alloc (.cells #[.int .i64 z] 3)) (Wrote base B (bs++digs (clipN z)) (w.alloc (.cells #[.int .i64 z] 3))):=by
 have h:=num_any base B w.heap.size 0 1 [z] bs (w.alloc (.cells #[.int .i64 z] 3)) (by simp; omega) (hO.alloc _) (fun w' _ hk i hi=>by
  obtain rfl:i=0:=by simpa using hi
  rw [cell_keeps hk (block_new w _) (by decide) (by have:=hO.lt; omega),cell_alloc_new]; rfl) (by simp; omega)
 simpa [numsOf] using h
theorem raw_one (base B:Nat) (s:ByteArray) (bs:List UInt8) (w:World) (hsz:((bs.length+s.size:Nat):Int)≤100000000) (hO:OutAt base B bs w) (hbw:base≤w.heap.size) :
    Calls Tryd.prog 31 #[.pointer (some ⟨B,0,none⟩),.slice (some ⟨w.heap.size,0,none⟩) 1 1] (w.alloc (.cells #[.string s] 9)) (Wrote base B (bs++s.data.toList) (w.alloc (.cells #[.string s] 9))):=by
 have hsl:s.data.toList.length=s.size:=rfl;have h:=raw_any base B w.heap.size 0 1 [s] bs (w.alloc (.cells #[.string s] 9)) (by simp) (fun k hk=>by
  match k,hk with
  | 0,_=>simp [bytesOf]; omega
  | 1,_=>simp [bytesOf]; omega
  | k+2,hk=>simp at hk) (hO.alloc _) (fun w' _ hk i hi=>by
  obtain rfl:i=0:=by simpa using hi
  rw [cell_keeps hk (block_new w _) (by decide) (by have:=hO.lt; omega),cell_alloc_new]; rfl) (by simp; omega)
 simpa [bytesOf] using h
set_option maxRecDepth 100000 in
set_option maxHeartbeats 1000000 in
theorem text_any (base B bl off cap:Nat) (ss:List ByteArray) (bs:List UInt8) (w:World) (hlen:(ss.length:Int)≤10000) (hsz:∀ k,k≤ss.length→((bs++textsOf (ss.take k)).length:Int)≤900000)
    (hO:OutAt base B bs w) (hS:∀ w',BelowE base B w w'→Keeps B w w'→Strs w' bl off ss) (hbw:base≤w.heap.size) :
    Calls Tryd.prog 34 #[.pointer (some ⟨B,0,none⟩),.slice (some ⟨bl,off,none⟩) ss.length cap] w (Wrote base B (bs++textsOf ss) w):=by
 obtain ⟨n,hn⟩ : ∃ n,ss.length=n:=⟨_,rfl⟩;rw [hn] at hlen hsz ⊢;have HN:=hDx hn;have HSZ:=hDx hsz;have HO:=hDx hO;have HS:=hDx hS;have HBW:=hDx hbw;clear hn hsz hO hS hbw
 go_enter Tryd.func34,Tryd.ntmps34
 go_wp2
 go_loopw [6,9] (fun _ i wr=>∃ k:Nat,k≤n∧i=.int .i64 k∧Hid (OutAt base B (bs++textsOf (ss.take k)) wr∧BelowE base B w wr∧Keeps B w wr)) (fun _ i _=>n - (intOf i).toNat)
 case atStart=>exact ⟨0,by omega,rfl,hDx ⟨by simpa [textsOf] using HO.out,BelowE.refl _ _ _,Keeps.refl _ _⟩⟩
 case round =>
  obtain ⟨k,hk,rfl,hF⟩ := hrel;by_cases hlt:k<n
  · obtain ⟨hOut,hB,hKp⟩ := hF.out;have hc:=HS.out wr hB hKp k (by rw [HN.out]; exact hlt);obtain ⟨s,hs⟩ : ∃ s,ss.getD k ByteArray.empty=s:=⟨_,rfl⟩;rw [hs] at hc;have hnext:=textsOf_snoc ss k (by rw [HN.out]; exact hlt);rw [hs] at hnext;obtain ⟨cur,hcur⟩ : ∃ cur,bs++textsOf (ss.take k)=cur:=⟨_,rfl⟩;rw [hcur] at hOut;have hlen2:=HSZ.out (k+1) (by omega);rw [hnext,← List.append_assoc,hcur] at hlen2;unfold textB at hlen2;simp only [List.length_append] at hlen2;have hsl:s.data.toList.length=s.size:=rfl;have hbws:=Nat.le_trans HBW.out hB.size;have HNext:Hid (bs++textsOf (ss.take (k+1))=cur++textB s):=hDx (by rw [hnext,← List.append_assoc,hcur]);have HC1:=hDx (num_one base B s.size cur wr (by omega) hOut hbws);have HLen:=hDx hlen2;have HBl:=hDx hB;have HKe:=hDx hKp;have HOut:=hDx hOut;have HBws:=hDx hbws;have hszs:(s.size:Int)≤900000:=by omega
    clear hF hB hKp hs hnext hcur hOut hlen2 hsl hbws
    go_wp2_with fail
    refine HC1.out.mono ?_;rintro e w1 ⟨rfl,hO1,hB1,hK1⟩;have hbw1:base≤w1.heap.size:=Nat.le_trans (by have:=HBws.out; simp; omega) hB1.size;have HC2:=hDx (raw_one base B s (cur++digs (clipN s.size)) w1 (by have h:=HLen.out; have hsl:s.data.toList.length=s.size:=rfl; simp; omega) hO1 hbw1);have HB1:Hid (BelowE base B w w1):=hDx ((HBl.out.alloc HBws.out _).trans hB1);have HK1:Hid (Keeps B w w1):=hDx ((HKe.out.trans (Keeps.alloc _ _ _)).trans hK1);have HW1:=hDx hbw1;clear hO1 hB1 hK1 hbw1
    go_wp2_with fail
    refine HC2.out.mono ?_;rintro e w2 ⟨rfl,hO2,hB2,hK2⟩;have HF2:Hid (OutAt base B (bs++textsOf (ss.take (k+1))) w2∧BelowE base B w w2∧Keeps B w w2):=hDx ⟨by rw [HNext.out]; unfold textB; rw [← List.append_assoc]; exact hO2,(HB1.out.alloc HW1.out _).trans hB2,(HK1.out.trans (Keeps.alloc _ _ _)).trans hK2⟩;clear hO2 hB2 hK2
    go_wp2
    go_roundw
    case rel=>exact ⟨k+1,by omega,by go_num,HF2⟩
    case measure=>simp [intOf]; omega
  · obtain rfl:k=n:=by omega
    obtain ⟨hOut,hB,hKp⟩ := hF.out;have hfull:ss.take k=ss:=by rw [← HN.out,List.take_length]
    rw [hfull] at hOut;have HOut:=hDx hOut;have HB:=hDx hB;have HKp:=hDx hKp;clear hOut hB hKp hF hfull
    go_wp2
    go_ret
    exact ⟨rfl,HOut.out,HB.out,HKp.out⟩
end Go.Proofs.YtagolklnjhpbdaaDoor.X
