import Derived.Test.YtagolklnjhpbdaaDoorMerged0
import Derived.RangeFuncBox
namespace Go.Proofs.YtagolklnjhpbdaaDoor.I
open Go.RowKit
def InBlk (p:Nat) (s:ByteArray) (e:Nat) (w:World):Prop:=w.heap[p]?=some (.cells #[.string s,.int .i64 e] 133 (0,0))
theorem InBlk.lt {p:Nat} {s:ByteArray} {e:Nat} {w:World} (h:InBlk p s e w):p<w.heap.size:=(gSx.1 h).1
theorem InBlk.c0 {p:Nat} {s:ByteArray} {e:Nat} {w:World} (h:InBlk p s e w):w.cell? ⟨p,0,none⟩=some (.string s):=by simp [World.cell?,show w.heap[p]?=_ from h]
theorem InBlk.c1 {p:Nat} {s:ByteArray} {e:Nat} {w:World} (h:InBlk p s e w):w.cell? ⟨p,1,none⟩=some (.int .i64 e):=by simp [World.cell?,show w.heap[p]?=_ from h]
theorem InBlk.fr {p:Nat} {s:ByteArray} {e:Nat} {w:World} (h:InBlk p s e w) (o:Nat):w.frozen? ⟨p,o,none⟩=false:=by simp [World.frozen?,show w.heap[p]?=_ from h]
theorem InBlk.set0 {p:Nat} {s:ByteArray} {e:Nat} {w:World} (h:InBlk p s e w) (s':ByteArray):InBlk p s' e (w.setCell ⟨p,0,none⟩ (.string s')):=by
 unfold InBlk at *;simp [World.setCell,Array.getElem?_modify,h]
theorem InBlk.set1 {p:Nat} {s:ByteArray} {e:Nat} {w:World} (h:InBlk p s e w) (e':Nat):InBlk p s e' (w.setCell ⟨p,1,none⟩ (.int .i64 e')):=by
 unfold InBlk at *;simp [World.setCell,Array.getElem?_modify,h]
theorem grown_set (w:World) (p o:Nat) (v:Value):w.grownBy (w.setCell ⟨p,o,none⟩ v) (some p) :=
 ⟨rfl,rfl,rfl,(KeepsWalks.setCell w _ v).size,fun k _ hk=>Below.heap_setCell w ⟨p,o,none⟩ v k (fun e=>hk (by rw [e]))⟩
theorem grown_trans {a b c:World} {p:Nat} (h:a.grownBy b (some p)) (k:b.grownBy c (some p)):a.grownBy c (some p) :=
 ⟨k.os.trans h.os,k.tape.trans h.tape,k.output.trans h.output,Nat.le_trans h.size k.size,fun i hi hn=>(k.block i (Nat.lt_of_lt_of_le hi h.size) hn).trans (h.block i hi hn)⟩
theorem grown_refl (w:World) (p:Nat):w.grownBy w (some p):=⟨rfl,rfl,rfl,Nat.le_refl _,fun _ _ _=>rfl⟩
def InSt (p:Nat) (l:List UInt8) (e:Nat) (w:World):Prop:=∃ s:ByteArray,InBlk p s e w∧s.data.toList=l∧(s.size:Int)≤1000000
theorem inst_len {l:List UInt8} {s:ByteArray} (h:s.data.toList=l):s.size=l.length:=by rw [← h]; rfl
theorem of_any (s:ByteArray) (hs:(s.size:Int)≤1000000) (w:World):Calls Tryd.prog 43 #[.string s] w fun e w'=>e=.returned (.pointer (some ⟨w.heap.size,0,none⟩))∧InSt w.heap.size s.data.toList 0 w'∧w'=w.alloc (.cells #[.string s,.int .i64 0] 133):=by
 go_enter Tryd.func43,Tryd.ntmps43
 go_wp2
 go_ret
 exact ⟨rfl,⟨s,World.alloc_heap_new _ _,rfl,hs⟩,rfl⟩
def failS (l:List UInt8) (e er:Nat):List UInt8 × Nat:=if e≠0∨er=0 then (l,e) else ([],er)
def Took (p:Nat) (v:Value) (st:List UInt8 × Nat) (w:World) (e:Ending) (w':World):Prop:=e=.returned v∧InSt p st.1 st.2 w'∧w.grownBy w' (some p)
theorem fail_any (p:Nat) (l:List UInt8) (e er:Nat) (w:World) (h:InSt p l e w):Calls Tryd.prog 89 #[.pointer (some ⟨p,0,none⟩),.int .i64 er] w (Took p (.tuple #[]) (failS l e er) w):=by
 obtain ⟨s,hb,hl,hs⟩ := h;have c0:=hb.c0;have c1:=hb.c1;have f0:=hb.fr 0;have f1:=hb.fr 1;have HB:=hDx hb;have HL:=hDx hl;clear hb hl;by_cases he:e=0
 · subst he;by_cases her:er=0
   · subst her;have hf:failS l 0 0=(l,0):=by simp [failS]
     rw [hf];clear hf
     go_enter Tryd.func89,Tryd.ntmps89
     go_wp2
     go_end0
     exact ⟨rfl,⟨s,HB.out,HL.out,hs⟩,grown_refl _ _⟩
   · have hf:failS l 0 er=([],er):=by simp [failS,her]
     have ht:((er:Int) == 0)=false:=by rw [beq_eq_false_iff_ne]; omega
     rw [hf];clear hf her
     go_enter Tryd.func89,Tryd.ntmps89
     go_wp2
     go_end0
     exact ⟨rfl,⟨⟨#[]⟩,(HB.out.set1 er).set0 _,rfl,by decide⟩,grown_trans (grown_set _ _ _ _) (grown_set _ _ _ _)⟩
 · have hf:failS l e er=(l,e):=by simp [failS,he]
   have ht:((e:Int) == 0)=false:=by rw [beq_eq_false_iff_ne]; omega
   have ht2:((e:Int) != 0)=true:=by rw [bne_iff_ne]; omega
   rw [hf];clear hf he
   go_enter Tryd.func89,Tryd.ntmps89
   go_wp2
   go_end0
   exact ⟨rfl,⟨s,HB.out,HL.out,hs⟩,grown_refl _ _⟩
def numS (l:List UInt8) (e:Nat):(List UInt8 × Nat) × Nat:=if (firstS l).2.2=0 then ((l.drop (firstS l).2.1,e),(firstS l).1) else (failS l e (firstS l).2.2,0)
set_option maxHeartbeats 400000 in
theorem innum_any (p:Nat) (l:List UInt8) (e:Nat) (w:World) (h:InSt p l e w):Calls Tryd.prog 70 #[.pointer (some ⟨p,0,none⟩)] w (Took p (.int .i64 (numS l e).2) (numS l e).1 w):=by
 have hst:=h;obtain ⟨s,hb,hl,hs⟩ := h;have c0:=hb.c0;have f0:=hb.fr 0;obtain ⟨v,sz,er,hfs⟩ : ∃ v sz er,firstS l=(v,sz,er):=⟨_,_,_,rfl⟩;have H1:=hDx (first_any s hs v sz er (by rw [hl]; exact hfs) w);have HB:=hDx hb;have HL:=hDx hl;by_cases her:er=0
 · subst her;have hle:=(first_only hfs).2.2.2;have hsz:(sz:Int)≤s.size:=by rw [inst_len hl]; omega
   have hn:numS l e=((l.drop sz,e),v):=by simp [numS,hfs]
   rw [hn];clear hn hfs hle hb hl hst
   go_enter Tryd.func70,Tryd.ntmps70
   go_wp2_with (go_at_call 88; refine H1.out.mono ?_; rintro en w' ⟨rfl,rfl⟩)
   go_ret
   refine ⟨rfl,⟨s.extract sz s.size,HB.out.set0 _,?_,by simp; omega⟩,grown_set _ _ _ _⟩;rw [ByteArray.data_extract];simp;rw [HL.out,List.take_of_length_le (by simp [inst_len HL.out])]
 · have hn:numS l e=(failS l e er,0):=by simp [numS,hfs,her]
   have ht:((er:Int) == 0)=false:=by rw [beq_eq_false_iff_ne]; omega
   have ht2:((er:Int) != 0)=true:=by rw [bne_iff_ne]; omega
   have H2:=hDx (fail_any p l e er w hst);rw [hn];clear hn hfs hb hl hst her
   go_enter Tryd.func70,Tryd.ntmps70
   go_wp2_with (first | (go_at_call 88; refine H1.out.mono ?_; rintro en w' ⟨rfl,rfl⟩) | (go_at_call 89; refine H2.out.mono ?_; rintro en w2 ⟨rfl,hi2,hg2⟩; have HI2:=hDx hi2; have HG2:=hDx hg2; clear hi2 hg2))
   go_ret
   exact ⟨rfl,HI2.out,HG2.out⟩
theorem err_any (p:Nat) (l:List UInt8) (e:Nat) (w:World) (h:InSt p l e w):Calls Tryd.prog 92 #[.pointer (some ⟨p,0,none⟩)] w fun en w'=>en=.returned (.int .i64 e)∧w=w':=by
 obtain ⟨s,hb,hl,hs⟩ := h;have c1:=hb.c1;clear hb hl
 go_enter Tryd.func92,Tryd.ntmps92
 go_wp2
 go_ret
 exact ⟨rfl,rfl⟩
def endS (l:List UInt8) (e:Nat):Nat:=if e=0∧l≠[] then 1 else e
theorem end_any (p:Nat) (l:List UInt8) (e:Nat) (w:World) (h:InSt p l e w):Calls Tryd.prog 45 #[.pointer (some ⟨p,0,none⟩)] w fun en w'=>en=.returned (.int .i64 (endS l e:Nat))∧w=w':=by
 obtain ⟨s,hb,hl,hs⟩ := h;have c0:=hb.c0;have c1:=hb.c1;have hsl:s.toList=l:=by rw [ByteArray.toList_eq,hl]
 clear hb hl;by_cases he:e=0
 · subst he;by_cases hn:l=[]
   · have hr:endS l 0=0:=by simp [endS,hn]
     have h1:s.toList=[]:=by rw [hsl,hn]
     have h2:(!s.toList.isEmpty)=false:=by rw [h1]; rfl
     have h3:s.toList.isEmpty=true:=by rw [h1]; rfl
     rw [hr];clear hr hn hsl
     go_enter Tryd.func45,Tryd.ntmps45
     go_wp2
     go_ret
     exact ⟨rfl,rfl⟩
   · have hr:endS l 0=1:=by simp [endS,hn]
     have h3:s.toList.isEmpty=false:=by rw [hsl]; cases l <;> simp_all
     rw [hr];clear hr hn hsl
     go_enter Tryd.func45,Tryd.ntmps45
     go_wp2
     go_ret
     exact ⟨rfl,rfl⟩
 · have hr:endS l e=e:=by simp [endS,he]
   have ht:((e:Int) == 0)=false:=by rw [beq_eq_false_iff_ne]; omega
   rw [hr];clear hr he hsl
   go_enter Tryd.func45,Tryd.ntmps45
   go_wp2
   go_ret
   exact ⟨rfl,rfl⟩
end Go.Proofs.YtagolklnjhpbdaaDoor.I

namespace Go.Proofs.YtagolklnjhpbdaaDoor.K
open Go.RowKit Go.Proofs.YtagolklnjhpbdaaDoor.I
theorem numS_stuck (e:Nat) (he:e≠0):numS [] e=(([],e),0):=by
 unfold numS firstS scan failS;simp [he]
theorem numS_inv {l:List UInt8} {e:Nat} (h:e≠0→l=[]):(numS l e).1.2≠0→(numS l e).1.1=[]:=by
 intro h1;by_cases he:e=0
 · subst he;unfold numS at h1 ⊢
   split
   · rename_i h2; rw [if_pos h2] at h1; exact absurd rfl h1
   · unfold failS at h1 ⊢
     split
     · rename_i h2 h3;rcases h3 with h3 | h3
       · exact absurd rfl h3
       · exact absurd h3 h2
     · rfl
 · rw [h he,numS_stuck e he]
theorem numS_zero {l l':List UInt8} {e e' v:Nat} (h:numS l e=((l',e'),v)) (h0:e'=0):e=0∧l=digs v++l'∧v≤top:=by
 unfold numS at h
 split at h
 · rename_i h2;obtain ⟨⟨v1,sz1,e1⟩,hf⟩ : ∃ q,firstS l=q:=⟨_,rfl⟩;rw [hf] at h h2;simp only at h h2;subst h2;simp only [Prod.mk.injEq] at h;obtain ⟨⟨rfl,rfl⟩,rfl⟩ := h;obtain ⟨h3,h4,_,_⟩ := first_only hf;exact ⟨h0,by rw [← h3,List.take_append_drop],h4⟩
 · rename_i h2;unfold failS at h
   split at h
   · rename_i h3;simp only [Prod.mk.injEq] at h;obtain ⟨⟨_,rfl⟩,_⟩ := h;rcases h3 with h3 | h3
     · exact absurd h0 h3
     · exact absurd h3 h2
   · rename_i h3;simp only [Prod.mk.injEq] at h;obtain ⟨⟨_,rfl⟩,_⟩ := h;exact absurd h0 (fun e=>h2 e)
theorem numS_back (z:Int) (r:List UInt8):numS (digs (clipN z)++r) 0=((r,0),clipN z):=by
 unfold numS;rw [first_digs _ _ (clipN_le z)];simp
abbrev Sta:=List UInt8 × Nat
def InOk (st:Sta):Prop:=st.2≠0→st.1=[]
def atS (st:Sta) (m:Nat):Sta × Nat:=if (numS st.1 st.2).2≤m then numS st.1 st.2 else (failS (numS st.1 st.2).1.1 (numS st.1 st.2).1.2 1,0)
theorem failS_ok {l:List UInt8} {e er:Nat} (h:e≠0→l=[]):InOk (failS l e er):=by
 unfold failS InOk
 split
 · exact h
 · exact fun _=>rfl
theorem atS_ok {st:Sta} (h:InOk st) (m:Nat):InOk (atS st m).1:=by
 unfold atS
 split
 · exact numS_inv h
 · exact failS_ok (numS_inv h)
theorem atS_le (st:Sta) (m:Nat):(atS st m).2≤m:=by
 unfold atS
 split
 · assumption
 · exact Nat.zero_le _
theorem atS_zero {st:Sta} {m:Nat} (h0:(atS st m).1.2=0):st.2=0∧st.1=digs (atS st m).2++(atS st m).1.1∧(atS st m).2≤top:=by
 unfold atS at h0 ⊢
 split
 · rename_i h;rw [if_pos h] at h0;exact numS_zero (v:=(numS st.1 st.2).2) rfl h0
 · rename_i h;rw [if_neg h] at h0;unfold failS at h0
   split at h0
   · rename_i h1;rcases h1 with h1 | h1
     · exact absurd h0 h1
     · cases h1
   · cases h0
theorem atS_back {z m:Nat} (h:z≤m) (hm:m≤top) (r:List UInt8):atS (digs z++r,0) m=((r,0),z):=by
 have h1:=numS_back (z:Int) r;have h2:clipN (z:Int)=z:=by unfold clipN; omega
 rw [h2] at h1;unfold atS;rw [h1,if_pos h]
def gS (st:Sta):Sta × (Int × Int):=((atS (atS st 1114111).1 647).1,(((atS st 1114111).2:Int),((atS (atS st 1114111).1 647).2:Int)))
def rdN:Nat→Sta→Sta × List (Int × Int)
  | 0,st=>(st,[])
  | n+1,st=>((gS (rdN n st).1).1,(rdN n st).2++[(gS (rdN n st).1).2])
theorem gS_ok {st:Sta} (h:InOk st):InOk (gS st).1:=atS_ok (atS_ok h _) _
theorem rdN_ok:∀ (n:Nat) {st:Sta},InOk st→InOk (rdN n st).1
  | 0,_,h=>h
  | n+1,_,h=>gS_ok (rdN_ok n h)
theorem rdN_len:∀ (n:Nat) (st:Sta),(rdN n st).2.length=n
  | 0,_=>rfl
  | n+1,st=>by show ((rdN n st).2++[_]).length=_; rw [List.length_append,rdN_len n st]; rfl
theorem rdN_rng:∀ (n:Nat) (st:Sta),∀ g ∈ (rdN n st).2,(0≤g.1∧g.1≤1114111)∧0≤g.2∧g.2≤647
  | 0,_=>fun g hg=>by cases hg
  | n+1,st=>fun g hg=>by
   rcases List.mem_append.1 hg with hg | hg
   · exact rdN_rng n st g hg
   · rw [List.mem_singleton.1 hg];have h1:=atS_le (rdN n st).1 1114111;have h2:=atS_le (atS (rdN n st).1 1114111).1 647;unfold gS;simp only;omega
def readS (st:Sta):Sta × List (Int × Int):=((rdN (atS st 1024).2 (atS st 1024).1).1,if (rdN (atS st 1024).2 (atS st 1024).1).1.2=0 then (rdN (atS st 1024).2 (atS st 1024).1).2 else [])
theorem readS_len (st:Sta):(readS st).2.length≤1024:=by
 unfold readS;simp only
 split
 · rw [rdN_len]; exact atS_le _ _
 · exact Nat.zero_le _
theorem readS_rng (st:Sta):∀ g ∈ (readS st).2,(0≤g.1∧g.1≤1114111)∧0≤g.2∧g.2≤647:=by
 unfold readS;simp only
 split
 · exact rdN_rng _ _
 · exact fun g hg=>by cases hg
def MayL (l:List (Int × Int)):Prop:=∀ g ∈ l,(0≤g.1∧g.1≤1114111)∧0≤g.2∧g.2≤647
theorem gS_back {g:Int × Int} (h:(0≤g.1∧g.1≤1114111)∧0≤g.2∧g.2≤647) (r:List UInt8):gS (gBytes g++r,0)=((r,0),g):=by
 obtain ⟨x,s⟩ := g;obtain ⟨⟨h1,h2⟩,h3,h4⟩ := h;simp only at h1 h2 h3 h4;obtain ⟨x,rfl⟩ := Int.eq_ofNat_of_zero_le h1;obtain ⟨s,rfl⟩ := Int.eq_ofNat_of_zero_le h3
 have hx:clipN (x:Int)=x:=by unfold clipN; have:(1114111:Nat)≤top:=by decide
                             omega
 have hs:clipN (s:Int)=s:=by unfold clipN; have:(1114111:Nat)≤top:=by decide
                             omega
 unfold gS gBytes;simp only;rw [hx,hs,List.append_assoc,atS_back (by omega) (by decide),atS_back (by omega) (by decide)]
theorem rdN_back {l:List (Int × Int)} (h:MayL l) (r:List UInt8):∀ j,j≤l.length→rdN j (l.flatMap gBytes++r,0)=(((l.drop j).flatMap gBytes++r,0),l.take j)
  | 0,_=>by simp [rdN]
  | j+1,hj=>by
   have hjl:j<l.length:=by omega
   have ih:=rdN_back h r j (by omega);show ((gS (rdN j _).1).1,(rdN j _).2++[(gS (rdN j _).1).2])=_;rw [ih];simp only;rw [List.drop_eq_getElem_cons hjl,List.flatMap_cons,List.append_assoc,gS_back (h _ (List.getElem_mem hjl)),List.take_succ_eq_append_getElem hjl]
theorem readS_back {l:List (Int × Int)} (h:MayL l) (hl:l.length≤1024) (r:List UInt8):readS (packG l++r,0)=((r,0),l):=by
 have h1:atS (packG l++r,0) 1024=((l.flatMap gBytes++r,0),l.length):=by
  unfold packG
  rw [show clipN (l.length:Int)=l.length by unfold clipN; have:(1024:Nat)≤top:=by decide
                                            omega,List.append_assoc]
  exact atS_back hl (by decide) _
 unfold readS;rw [h1];simp only;rw [rdN_back h r l.length (Nat.le_refl _),List.drop_of_length_le (Nat.le_refl _),List.take_of_length_le (Nat.le_refl _)];simp
end Go.Proofs.YtagolklnjhpbdaaDoor.K

namespace Go.Proofs.YtagolklnjhpbdaaDoor.K
def AllC (p:Cel→Prop) (l:List Cel):Prop:=∀ c ∈ l,p c
section
variable {p:Cel→Prop}
end
def Rng (c:Cel):Prop:=-2147483648≤c.rune∧c.rune≤2147483647
structure ActR where
 kind:Int
 at_:Int
 n:Int
 style:Int
 rune:Int
end Go.Proofs.YtagolklnjhpbdaaDoor.K

namespace Go.Proofs.YtagolklnjhpbdaaDoor.K
open Go.RowKit Go.Proofs.YtagolklnjhpbdaaDoor.I
def okC (c:Cel):Prop:=(0≤c.rune∧c.rune≤1114111)∧(0≤c.style∧c.style≤647)∧0≤c.part∧c.part≤3
instance (c:Cel):Decidable (okC c):=by unfold okC; exact inferInstance
def runB (n:Nat) (c:Cel):List UInt8:=digs (clipN (n:Int))++(digs (clipN c.rune)++(digs (clipN c.style)++digs (clipN c.part)))
def packC:Nat→List Cel→List UInt8
  | _,[]=>[]
  | n,[c]=>runB (n+1) c
  | n,c::d::l=>if d=c then packC (n+1) (d::l) else runB (n+1) c++packC 0 (d::l)
def wrapN (b:Bool):Int:=if b=true then 1 else 0
def packR (r:Ro):List UInt8:=digs (clipN (wrapN r.wrapped))++packC 0 r.l
theorem runB_len (n:Nat) (c:Cel):(runB n c).length≤36:=by
 have h1:=digs_nine (clipN (n:Int)) (clipN_le _);have h2:=digs_nine (clipN c.rune) (clipN_le _);have h3:=digs_nine (clipN c.style) (clipN_le _);have h4:=digs_nine (clipN c.part) (clipN_le _);unfold runB;simp only [List.length_append];omega
theorem packC_len:∀ (l:List Cel) (n:Nat),(packC n l).length≤36*l.length
  | [],_=>by simp [packC]
  | [c],n=>by have:=runB_len (n+1) c; simp only [packC,List.length_singleton]; omega
  | c::d::l,n=>by
   have h1:=packC_len (d::l) (n+1);have h2:=packC_len (d::l) 0;have h3:=runB_len (n+1) c;unfold packC
   split
   · simp only [List.length_cons] at h1 ⊢; omega
   · simp only [List.length_cons,List.length_append] at h2 ⊢; omega
theorem packR_len (r:Ro):(packR r).length≤9+36*r.l.length:=by
 have h1:=digs_nine (clipN (wrapN r.wrapped)) (clipN_le _);have h2:=packC_len r.l 0;unfold packR;rw [List.length_append];omega
theorem packC_two (n:Nat) (c d:Cel) (l:List Cel):packC n (c::d::l)=if d=c then packC (n+1) (d::l) else runB (n+1) c++packC 0 (d::l):=by rw [packC]
theorem packC_run (c:Cel) (l:List Cel) (hl:l.head?≠some c):∀ (n k:Nat),packC k (List.replicate (n+1) c++l)=runB (k+n+1) c++packC 0 l
  | 0,k=>by
   show packC k (c::l)=_
   match l,hl with
   | [],_=>simp [packC]
   | d::l,hl =>
    have hne:d≠c:=fun e=>hl (by rw [e]; rfl)
    rw [packC_two,if_neg hne]
  | n+1,k=>by
   have ih:=packC_run c l hl n (k+1);rw [List.replicate_succ,List.cons_append];have e:List.replicate (n+1) c++l=c::(List.replicate n c++l):=by rw [List.replicate_succ,List.cons_append]
   rw [e] at ih ⊢;rw [packC_two,if_pos rfl,ih,show k+1+n+1=k+(n+1)+1 by omega]
theorem packC_same (l:List Cel) (j k:Nat) (h:j+1<l.length) (he:l[j+1]=l[j]):packC k (l.drop j)=packC (k+1) (l.drop (j+1)):=by
 rw [List.drop_eq_getElem_cons (show j<l.length by omega),List.drop_eq_getElem_cons h];rw [packC_two,if_pos he]
theorem packC_other (l:List Cel) (j k:Nat) (hj:j<l.length) (h:∀ h2:j+1<l.length,l[j+1]≠l[j]):packC k (l.drop j)=runB (k+1) l[j]++packC 0 (l.drop (j+1)):=by
 rw [List.drop_eq_getElem_cons hj];by_cases h2:j+1<l.length
 · rw [List.drop_eq_getElem_cons h2];rw [packC_two,if_neg (h h2)]
 · rw [List.drop_of_length_le (by omega)];simp [packC]
def zeroF (st:Sta) (n:Nat):Sta:=if n=0 then failS st.1 st.2 1 else st
def r1 (st:Sta) (m:Nat):Sta × Nat:=atS st m
def r2 (st:Sta) (m:Nat):Sta × Nat:=atS (zeroF (r1 st m).1 (r1 st m).2) 1114111
def r3 (st:Sta) (m:Nat):Sta × Nat:=atS (r2 st m).1 647
def r4 (st:Sta) (m:Nat):Sta × Nat:=atS (r3 st m).1 3
def runS (st:Sta) (m:Nat):Sta × (Nat × Cel):=((r4 st m).1,((r1 st m).2,⟨((r2 st m).2:Int),((r3 st m).2:Int),((r4 st m).2:Int)⟩))
theorem r1_def (st:Sta) (m:Nat):r1 st m=atS st m:=rfl
theorem r2_def (st:Sta) (m:Nat):r2 st m=atS (zeroF (r1 st m).1 (r1 st m).2) 1114111:=by rw [r2]
theorem r3_def (st:Sta) (m:Nat):r3 st m=atS (r2 st m).1 647:=by rw [r3]
theorem r4_def (st:Sta) (m:Nat):r4 st m=atS (r3 st m).1 3:=by rw [r4]
theorem runS_fst (st:Sta) (m:Nat):(runS st m).1=(r4 st m).1:=by rw [runS]
theorem runS_num (st:Sta) (m:Nat):(runS st m).2.1=(r1 st m).2:=by rw [runS]
def likeF (st:Sta) (pr:Option Cel) (c:Cel):Sta:=if pr=some c then failS st.1 st.2 1 else st
def rowS:Nat→Nat→Sta→Option Cel→Sta × List (Nat × Cel)
  | 0,_,st,_=>(st,[])
  | f+1,m,st,pr=>if m=0∨st.2≠0 then (st,[]) else ((rowS f (m - (runS st m).2.1) (likeF (runS st m).1 pr (runS st m).2.2) (some (runS st m).2.2)).1,(runS st m).2::(rowS f (m - (runS st m).2.1) (likeF (runS st m).1 pr (runS st m).2.2) (some (runS st m).2.2)).2)
def expR (R:List (Nat × Cel)):List Cel:=R.flatMap fun q=>List.replicate q.1 q.2
def runsB (R:List (Nat × Cel)):List UInt8:=R.flatMap fun q=>runB q.1 q.2
def readR (st:Sta) (w:Nat):Sta × Ro:=((rowS (w+1) w (atS st 1).1 none).1,if (rowS (w+1) w (atS st 1).1 none).1.2=0 then ⟨expR (rowS (w+1) w (atS st 1).1 none).2,decide ((atS st 1).2=1)⟩ else ⟨[],false⟩)
theorem zeroF_ok {st:Sta} (h:InOk st) (n:Nat):InOk (zeroF st n):=by
 unfold zeroF
 split
 · exact failS_ok h
 · exact h
theorem likeF_ok {st:Sta} (h:InOk st) (pr:Option Cel) (c:Cel):InOk (likeF st pr c):=by
 unfold likeF
 split
 · exact failS_ok h
 · exact h
theorem runS_ok {st:Sta} (h:InOk st) (m:Nat):InOk (runS st m).1:=by
 have h1:InOk (r1 st m).1:=by rw [r1_def]; exact atS_ok h m
 have h2:InOk (r2 st m).1:=by rw [r2_def]; exact atS_ok (zeroF_ok h1 _) _
 have h3:InOk (r3 st m).1:=by rw [r3_def]; exact atS_ok h2 _
 rw [runS_fst,r4_def];exact atS_ok h3 3
theorem rowS_ok:∀ (f m:Nat) {st:Sta} (pr:Option Cel),InOk st→InOk (rowS f m st pr).1
  | 0,_,_,_,h=>h
  | f+1,m,st,pr,h=>by
   unfold rowS
   split
   · exact h
   · exact rowS_ok f _ _ (likeF_ok (runS_ok h _) _ _)
theorem readR_ok {st:Sta} (h:InOk st) (w:Nat):InOk (readR st w).1:=rowS_ok _ _ _ (atS_ok h _)
theorem fail_zero {l:List UInt8} {e:Nat} (h:(failS l e 1).2=0):False:=by
 unfold failS at h
 split at h
 · rename_i h1;rcases h1 with h1 | h1
   · exact h1 h
   · cases h1
 · cases h
theorem zeroF_zero {st:Sta} {n:Nat} (h:(zeroF st n).2=0):zeroF st n=st∧1≤n∧st.2=0:=by
 unfold zeroF at h ⊢
 split
 · rename_i h1; rw [if_pos h1] at h; exact (fail_zero h).elim
 · rename_i h1; rw [if_neg h1] at h; exact ⟨rfl,by omega,h⟩
theorem likeF_zero {st:Sta} {pr:Option Cel} {c:Cel} (h:(likeF st pr c).2=0):likeF st pr c=st∧pr≠some c∧st.2=0:=by
 unfold likeF at h ⊢
 split
 · rename_i h1; rw [if_pos h1] at h; exact (fail_zero h).elim
 · rename_i h1; rw [if_neg h1] at h; exact ⟨rfl,h1,h⟩
theorem clip_nat {v:Nat} (h:v≤top):clipN (v:Int)=v:=by unfold clipN; omega
theorem runS_zero {st:Sta} {m:Nat} (h0:(runS st m).1.2=0):st.2=0∧st.1=runB (runS st m).2.1 (runS st m).2.2++(runS st m).1.1∧1≤(runS st m).2.1∧(runS st m).2.1≤m∧okC (runS st m).2.2:=by
 rw [runS_fst,r4_def] at h0;obtain ⟨h1,e2,t4⟩ := atS_zero h0;rw [← r4_def] at e2 t4;rw [r3_def] at h1;obtain ⟨h4,e5,t3⟩ := atS_zero h1;rw [← r3_def] at e5 t3;rw [r2_def] at h4;obtain ⟨h7,e8,t2⟩ := atS_zero h4;rw [← r2_def] at e8 t2;obtain ⟨hz,hn,hz0⟩ := zeroF_zero h7;rw [hz] at e8;rw [r1_def] at hz0;obtain ⟨k1,e0,t1⟩ := atS_zero hz0;rw [← r1_def] at e0 t1;have hm:(r1 st m).2≤m:=by rw [r1_def]; exact atS_le st m
 have q1:(r2 st m).2≤1114111:=by rw [r2_def]; exact atS_le _ _
 have q2:(r3 st m).2≤647:=by rw [r3_def]; exact atS_le _ _
 have q3:(r4 st m).2≤3:=by rw [r4_def]; exact atS_le _ _
 refine ⟨k1,?_,hn,hm,?_⟩
 · unfold runB runS;simp only;rw [clip_nat t1,clip_nat t2,clip_nat t3,clip_nat t4,List.append_assoc,List.append_assoc,List.append_assoc,← e2,← e5,← e8,← e0]
 · unfold okC runS;simp only;omega
def Good:Option Cel→List (Nat × Cel)→Prop
  | _,[]=>True
  | pr,q::R=>1≤q.1∧okC q.2∧pr≠some q.2∧Good (some q.2) R
theorem rowS_zero:∀ (f m:Nat) (st:Sta) (pr:Option Cel),m<f→(rowS f m st pr).1.2=0→st.2=0∧st.1=runsB (rowS f m st pr).2++(rowS f m st pr).1.1∧Good pr (rowS f m st pr).2∧(expR (rowS f m st pr).2).length=m
  | 0,m,_,_,h,_=>absurd h (by omega)
  | f+1,m,st,pr,h,h0=>by
   unfold rowS at h0 ⊢;by_cases hc:m=0∨st.2≠0
   · rw [if_pos hc] at h0 ⊢;have hm:m=0:=hc.resolve_right (fun e=>e h0);exact ⟨h0,by simp [runsB],trivial,by rw [hm]; rfl⟩
   · rw [if_neg hc] at h0 ⊢;obtain ⟨q,hq⟩ : ∃ q,runS st m=q:=⟨_,rfl⟩;have hle:1≤q.2.1→m - q.2.1<f:=fun _=>by omega
     rw [hq] at h0 ⊢;by_cases hq1:1≤q.2.1
     · obtain ⟨e1,e2,e3,e4⟩ := rowS_zero f (m - q.2.1) (likeF q.1 pr q.2.2) (some q.2.2) (hle hq1) h0;obtain ⟨g1,g2,g3⟩ := likeF_zero e1;have hz:=runS_zero (st:=st) (m:=m) (by rw [hq]; exact g3);rw [hq] at hz;obtain ⟨z1,z2,z3,z4,z5⟩ := hz;rw [g1] at e2;rw [g1] at e3 e4 ⊢;refine ⟨z1,?_,⟨z3,z5,g2,e3⟩,?_⟩
       · show st.1=runsB (q.2::_)++_;unfold runsB;rw [List.flatMap_cons,List.append_assoc];show st.1=runB q.2.1 q.2.2++(runsB _++_);rw [← e2];exact z2
       · show (expR (q.2::_)).length=m;unfold expR;rw [List.flatMap_cons,List.length_append,List.length_replicate];show q.2.1+(expR _).length=m;rw [e4];omega
     ·
       exfalso
       have hbad:∀ (f:Nat) (m:Nat) (s:Sta) (p:Option Cel),s.2≠0→(rowS f m s p).1.2≠0:=by
        intro f m s p hs;cases f with
        | zero=>exact hs
        | succ f=>unfold rowS; rw [if_pos (.inr hs)]; exact hs
       refine hbad f _ _ _ ?_ h0;intro e;obtain ⟨g1,g2,g3⟩ := likeF_zero e;have hz:=runS_zero (st:=st) (m:=m) (by rw [hq]; exact g3);rw [hq] at hz;exact hq1 hz.2.2.1
theorem good_head {pr:Option Cel} {R:List (Nat × Cel)} (h:Good pr R) (hp:pr≠none):(expR R).head?≠pr:=by
 cases R with
 | nil=>exact fun e=>hp e.symm
 | cons q R =>
  obtain ⟨h1,h2,h3,h4⟩ := h;obtain ⟨n,c⟩ := q;obtain ⟨k,rfl⟩ : ∃ k,n=k+1:=⟨n - 1,by simp only at h1; omega⟩;unfold expR;rw [List.flatMap_cons];simp only;rw [List.replicate_succ,List.cons_append];intro e;exact h3 e.symm
theorem packC_exp:∀ (R:List (Nat × Cel)) (pr:Option Cel),Good pr R→packC 0 (expR R)=runsB R
  | [],_,_=>rfl
  | (n,c)::R,pr,h=>by
   obtain ⟨h1,h2,h3,h4⟩ := h;simp only at h1 h2 h3 h4;obtain ⟨k,rfl⟩ : ∃ k,n=k+1:=⟨n - 1,by omega⟩;have ih:=packC_exp R (some c) h4;have e:expR ((k+1,c)::R)=List.replicate (k+1) c++expR R:=by unfold expR; rw [List.flatMap_cons]
   rw [e,packC_run c _ (good_head h4 (by simp)),ih,Nat.zero_add];unfold runsB;rw [List.flatMap_cons]
theorem good_ok:∀ (R:List (Nat × Cel)) (pr:Option Cel),Good pr R→AllC okC (expR R)
  | [],_,_=>fun c hc=>by cases hc
  | (n,c)::R,pr,h=>by
   obtain ⟨h1,h2,h3,h4⟩ := h;intro d hd;unfold expR at hd;rw [List.flatMap_cons] at hd;rcases List.mem_append.1 hd with hd | hd
   · rw [(List.mem_replicate.1 hd).2]; exact h2
   · exact good_ok R _ h4 d hd
theorem readR_zero {st:Sta} {w:Nat} (h0:(readR st w).1.2=0):st.2=0∧st.1=packR (readR st w).2++(readR st w).1.1∧AllC okC (readR st w).2.l∧(readR st w).2.l.length=w:=by
 unfold readR at h0 ⊢;simp only at h0 ⊢;rw [if_pos h0];obtain ⟨h1,h2,h3,h4⟩ := rowS_zero _ _ _ _ (by omega) h0;obtain ⟨k1,k2,k3⟩ := atS_zero h1;refine ⟨k1,?_,good_ok _ _ h3,h4⟩;unfold packR;simp only;have hw:wrapN (decide ((atS st 1).2=1))=(((atS st 1).2:Nat):Int):=by
  have:=atS_le st 1;unfold wrapN;by_cases e:(atS st 1).2=1
  · simp [e]
  · rw [if_neg (by simpa using e)]; omega
 rw [hw,clip_nat k3,packC_exp _ _ h3,List.append_assoc,← h2,← k2]
theorem runS_back {n:Nat} {c:Cel} {m:Nat} (h1:1≤n) (h2:n≤m) (h3:m≤2000) (hc:okC c) (r:List UInt8):runS (runB n c++r,0) m=((r,0),(n,c)):=by
 obtain ⟨x,s,p⟩ := c;obtain ⟨⟨a1,a2⟩,⟨a3,a4⟩,a5,a6⟩ := hc;simp only at a1 a2 a3 a4 a5 a6;obtain ⟨x,rfl⟩ := Int.eq_ofNat_of_zero_le a1;obtain ⟨s,rfl⟩ := Int.eq_ofNat_of_zero_le a3;obtain ⟨p,rfl⟩ := Int.eq_ofNat_of_zero_le a5;have ht:(2000000:Nat)≤top:=by decide
 have e1:atS (runB n ⟨x,s,p⟩++r,0) m=((digs x++(digs s++(digs p++r)),0),n):=by
  unfold runB;simp only;rw [clip_nat (by omega),clip_nat (by omega),clip_nat (by omega),clip_nat (by omega),List.append_assoc,List.append_assoc,List.append_assoc];exact atS_back h2 (by omega) _
 have f1:r1 (runB n ⟨x,s,p⟩++r,0) m=((digs x++(digs s++(digs p++r)),0),n):=e1;have e2:zeroF (digs x++(digs s++(digs p++r)),0) n=(digs x++(digs s++(digs p++r)),0):=by unfold zeroF; rw [if_neg (by omega)]
 have f2:r2 (runB n ⟨x,s,p⟩++r,0) m=((digs s++(digs p++r),0),x):=by rw [r2_def,f1]; simp only; rw [e2]; exact atS_back (by omega) (by decide) _
 have f3:r3 (runB n ⟨x,s,p⟩++r,0) m=((digs p++r,0),s):=by rw [r3_def,f2]; exact atS_back (by omega) (by decide) _
 have f4:r4 (runB n ⟨x,s,p⟩++r,0) m=((r,0),p):=by rw [r4_def,f3]; exact atS_back (by omega) (by decide) _
 unfold runS;rw [f1,f2,f3,f4]
theorem head_run (c:Cel):∀ l:List Cel,∃ n t,c::l=List.replicate (n+1) c++t∧t.head?≠some c∧t.length≤l.length
  | []=>⟨0,[],rfl,by simp,Nat.le_refl _⟩
  | d::l=>by
   by_cases h:d=c
   · subst h;obtain ⟨n,t,h1,h2,h3⟩ := head_run d l;exact ⟨n+1,t,by rw [List.replicate_succ,List.cons_append,← h1],h2,by simp only [List.length_cons]; omega⟩
   · exact ⟨0,d::l,rfl,fun e=>h (by simpa using e),Nat.le_refl _⟩
theorem rowS_back (r:List UInt8):∀ (N:Nat) (l:List Cel),l.length≤N→∀ (f:Nat) (pr:Option Cel),AllC okC l→l.length≤2000→l.length<f→(pr≠none→l.head?≠pr)→(rowS f l.length (packC 0 l++r,0) pr).1=(r,0)∧expR (rowS f l.length (packC 0 l++r,0) pr).2=l:=by
 intro N
 induction N with
 | zero =>
  intro l hN f pr _ _ hf _;obtain rfl:l=[]:=List.eq_nil_of_length_eq_zero (by omega);obtain ⟨f,rfl⟩ : ∃ k,f=k+1:=⟨f - 1,by simp at hf; omega⟩;unfold rowS;rw [if_pos (.inl rfl)];exact ⟨by simp [packC],rfl⟩
 | succ N ih =>
  intro l hN f pr hok h2 hf hpr;obtain ⟨f,rfl⟩ : ∃ k,f=k+1:=⟨f - 1,by omega⟩;cases l with
  | nil =>
   unfold rowS;rw [if_pos (.inl rfl)];exact ⟨by simp [packC],rfl⟩
  | cons c l =>
   have hc:okC c:=hok c List.mem_cons_self;obtain ⟨n,t,h3,h4,h5⟩ := head_run c l;have hpr':pr≠some c:=fun e=>hpr (by rw [e]; simp) (by rw [e]; rfl)
   have hlen:(c::l).length=n+1+t.length:=by rw [h3,List.length_append,List.length_replicate]
   have hB:packC 0 (c::l)++r=runB (n+1) c++(packC 0 t++r):=by
    rw [h3,packC_run c t h4,List.append_assoc,Nat.zero_add]
   have hR:runS (packC 0 (c::l)++r,0) (c::l).length=((packC 0 t++r,0),(n+1,c)):=by
    rw [hB];exact runS_back (by omega) (by omega) h2 hc _
   unfold rowS;rw [if_neg (by simp),hR];simp only;have hl:likeF (packC 0 t++r,0) pr c=(packC 0 t++r,0):=by unfold likeF; rw [if_neg hpr']
   rw [hl,show (c::l).length - (n+1)=t.length by omega];obtain ⟨i1,i2⟩ := ih t (by simp only [List.length_cons] at hN; omega) f (some c) (fun d hd=>hok d (by rw [h3]; exact List.mem_append_right _ hd)) (by omega) (by simp only [List.length_cons] at hf; omega) (fun _=>h4);refine ⟨i1,?_⟩;unfold expR at i2 ⊢;rw [List.flatMap_cons,i2];exact h3.symm
theorem readR_back {q:Ro} (h:AllC okC q.l) (hw:q.l.length≤2000) (r:List UInt8):readR (packR q++r,0) q.l.length=((r,0),q):=by
 obtain ⟨l,b⟩ := q;simp only at h hw;have h1:atS (packR ⟨l,b⟩++r,0) 1=((packC 0 l++r,0),if b=true then 1 else 0):=by
  unfold packR;simp only;rw [List.append_assoc];cases b
  · exact atS_back (z:=0) (by decide) (by decide) _
  · exact atS_back (z:=1) (by decide) (by decide) _
 obtain ⟨e1,e2⟩ := rowS_back r l.length l (Nat.le_refl _) (l.length+1) none h hw (by omega) (fun e=>absurd rfl e);unfold readR;rw [h1];simp only;rw [e1,e2];simp only;cases b <;> rfl
theorem readR_rng (st:Sta) (w:Nat):AllC okC (readR st w).2.l:=by
 by_cases h:(readR st w).1.2=0
 · exact (readR_zero h).2.2.1
 · have:(readR st w).2=⟨[],false⟩ := by
    have h':¬ (rowS (w+1) w (atS st 1).1 none).1.2=0:=h;unfold readR;rw [if_neg h']
   rw [this];exact fun c hc=>by cases hc
end Go.Proofs.YtagolklnjhpbdaaDoor.K
