import Derived.Test.YtagolklnjhpbdaaDoorRows
import Derived.Lib.Hide
import GoSem.Claim
import Derived.Laws.BitsAllLaws
import Derived.Laws.Bits128
import Derived.Laws.BitsLemmas
import Derived.WalkKit
import Derived.WalkLawsBesides
import Derived.WalkSpells
import Derived.Outline
import Derived.Below
import Derived.IntWalk
import Derived.OwnWalk
namespace Go.Proofs.YtagolklnjhpbdaaDoor
open Go Go.RowKit
theorem gDx {α : Type} {a : Array α} {i : Nat} {d : α} : a.getD i d = a[i]?.getD d := Array.getD_eq_getD_getElem? ..
theorem gEx {a : Array Value} {i : Nat} {d v : Value} (h : a.getD i d = v) : a[i]?.getD d = v := by rw [← gDx]; exact h
theorem gSx {α : Type} {a : Array α} {i : Nat} {b : α} : a[i]? = some b ↔ ∃ h : i < a.size, a[i] = b := Array.getElem?_eq_some_iff
theorem hDx {p : Prop} (h : p) : Hid p := Lib.hid h
end Go.Proofs.YtagolklnjhpbdaaDoor

namespace Go.Proofs.YtagolklnjhpbdaaDoor.K
structure Cel where
 rune:Int
 style:Int
 part:Int
deriving DecidableEq
def blk (s:Int):Cel:=⟨32,s,0⟩
structure Ro where
 l:List Cel
 wrapped:Bool
deriving DecidableEq
def badC (p:Bool) (c:Cel) (t:List Cel):Bool :=
 if c.part=1 then (match t with | d::_=>decide (d.part≠2) | []=>true)
 else if c.part=2 then !p
 else if c.part=3 then (match t with | _::_=>true | []=>false)
 else false
def fixC (p:Bool) (c:Cel) (t:List Cel):Cel:=if badC p c t then blk c.style else c
def mendG:Bool→List Cel→List Cel
  | _,[]=>[]
  | p,c::t=>fixC p c t::mendG (decide ((fixC p c t).part=1)) t
def mend (l:List Cel):List Cel:=mendG false l
def Whole (l:List Cel):Prop:=mend l=l
def blanks (n:Nat) (s:Int):List Cel:=List.replicate n (blk s)
def nearN (w:Int):Nat:=(min (max w 0) 1000).toNat
theorem nearN_le (w:Int):nearN w≤1000:=by unfold nearN; omega
def trimG:List Cel→List Cel
  | []=>[]
  | c::t=>if c=blk 0 then trimG t else c::t
def trimS (r:Ro):List Cel:=if r.wrapped then r.l else (trimG r.l.reverse).reverse
def glyphs (r:Ro):List (Int × Int):=((trimS r).filter fun c=>decide (c.part=0∨c.part=1)).map fun c=>(c.rune,c.style)
theorem blanks_length (n:Nat) (s:Int):(blanks n s).length=n:=List.length_replicate ..
end Go.Proofs.YtagolklnjhpbdaaDoor.K

namespace Go.Proofs.YtagolklnjhpbdaaDoor.K
end Go.Proofs.YtagolklnjhpbdaaDoor.K

namespace Go.Proofs.YtagolklnjhpbdaaDoor.I
def top:Nat:=2 ^ 62
def clipN (n:Int):Nat:=min n.toNat top
theorem clipN_le (n:Int):clipN n≤top:=Nat.min_le_right _ _
def digs (m:Nat):List UInt8:=if m<128 then [UInt8.ofNat m] else UInt8.ofNat (m % 128+128)::digs (m / 128)
termination_by m
decreasing_by omega
theorem digs_small {m:Nat} (h:m<128):digs m=[UInt8.ofNat m]:=by rw [digs,if_pos h]
theorem digs_big {m:Nat} (h:¬ m<128):digs m=UInt8.ofNat (m % 128+128)::digs (m / 128):=by rw [digs,if_neg h]
theorem digs_pos (m:Nat):0<(digs m).length:=by
 by_cases h:m<128
 · rw [digs_small h]; simp
 · rw [digs_big h]; simp
theorem digs_mono:∀ (b a:Nat),a≤b→(digs a).length≤(digs b).length:=by
 intro b
 induction b using Nat.strongRecOn with
 | ind b ih =>
  intro a h;by_cases hb:b<128
  · rw [digs_small hb,digs_small (by omega)]; simp
  · by_cases ha:a<128
    · rw [digs_small ha]; exact digs_pos b
    · rw [digs_big ha,digs_big hb];have:=ih (b / 128) (by omega) (a / 128) (Nat.div_le_div_right h);simp; omega
theorem digs_nine (m:Nat) (h:m≤top):(digs m).length≤9:=by
 have e:(digs top).length=9:=by
  unfold top;rw [digs_big (by decide),digs_big (by decide),digs_big (by decide),digs_big (by decide),digs_big (by decide),digs_big (by decide),digs_big (by decide),digs_big (by decide),digs_small (by decide)]
  rfl
 have:=digs_mono top m h;omega
theorem low_byte (m:Nat):(bits .or .i64 ((m:Int) % 128) 128) % 256=((UInt8.ofNat (m % 128+128)).toNat:Int):=by
 have h1:m % 128<2 ^ 7:=Nat.mod_lt _ (by decide);have h:=(bits_nat .i64 8 (by decide) (fun n h0 h1=>by
  simp [IntKind.wrap,IntKind.bits,IntKind.signed];omega) (m % 128) 128 (by omega) (by decide)).2
 have e:((m:Int) % 128)=((m % 128:Nat):Int):=by omega
 rw [e,show (128:Int)=((128:Nat):Int) from rfl,h];have ho:m % 128 ||| 128=m % 128+128:=by
  have:=Nat.two_pow_add_eq_or_of_lt h1 1;simp at this;rw [Nat.or_comm,← this,Nat.add_comm]
 rw [ho];simp
end Go.Proofs.YtagolklnjhpbdaaDoor.I

namespace Go.Proofs.YtagolklnjhpbdaaDoor.S
def r1 (x:Nat):Nat:=if x % 2=1 then (x / 2) ^^^ 3988292384 else x / 2
def rn:Nat→Nat→Nat
  | 0,x=>x
  | n+1,x=>rn n (r1 x)
def tbl (i:Nat):Nat:=[0,498536548,997073096,651767980,1994146192,1802195444,1303535960,1342533948,3988292384,4027552580,3604390888,3412177804,2607071920,2262029012,2685067896,3183342108].getD i 0
def hstep (x:Nat):Nat:=(x / 16) ^^^ tbl (x % 16)
def bstep (c b:Nat):Nat:=hstep (hstep (c ^^^ b))
def crc (c:Nat) (l:List UInt8):Nat:=l.foldl (fun c b=>bstep c b.toNat) c
def sumOf (l:List UInt8):Nat:=crc 4294967295 l ^^^ 4294967295
def num:List UInt8→Nat
  | []=>0
  | b::l=>b.toNat ^^^ (256*num l)
theorem xor_mod_two (x y:Nat):(x ^^^ y) % 2=(x % 2+y % 2) % 2:=by
 have h:(x ^^^ y) % 2=(x % 2) ^^^ (y % 2):=Nat.xor_mod_two_pow (n:=1);rw [h];rcases Nat.mod_two_eq_zero_or_one x with hx | hx <;> rcases Nat.mod_two_eq_zero_or_one y with hy | hy <;> rw [hx,hy] <;> rfl
theorem r1_xor (x y:Nat):r1 (x ^^^ y)=r1 x ^^^ r1 y:=by
 have h:=xor_mod_two x y;unfold r1;rw [Nat.xor_div_two];rcases Nat.mod_two_eq_zero_or_one x with hx | hx <;> rcases Nat.mod_two_eq_zero_or_one y with hy | hy <;> rw [hx,hy] at h <;> simp only [h,hx,hy] <;> simp
 · rw [Nat.xor_assoc]
 · rw [Nat.xor_assoc,Nat.xor_comm (y / 2),← Nat.xor_assoc]
 · rw [Nat.xor_assoc,Nat.xor_comm 3988292384,Nat.xor_assoc,Nat.xor_self,Nat.xor_zero]
theorem r1_double (y:Nat):r1 (2*y)=y:=by unfold r1; rw [if_neg (by omega)]; omega
theorem rn_xor (n:Nat):∀ x y,rn n (x ^^^ y)=rn n x ^^^ rn n y:=by
 induction n with
 | zero=>intro x y; rfl
 | succ n ih=>intro x y; simp only [rn,r1_xor,ih]
theorem rn_pow (n:Nat):∀ y,rn n (2 ^ n*y)=y:=by
 induction n with
 | zero=>intro y; simp [rn]
 | succ n ih=>intro y; simp only [rn]; rw [show 2 ^ (n+1)*y=2*(2 ^ n*y) from by rw [Nat.pow_succ]; simp [Nat.mul_assoc,Nat.mul_comm,Nat.mul_left_comm]]; rw [r1_double,ih]
theorem rn_add (n m:Nat):∀ x,rn (n+m) x=rn m (rn n x):=by
 induction n with
 | zero=>intro x; simp [rn]
 | succ n ih=>intro x; rw [show n+1+m=(n+m)+1 from by omega]; simp only [rn,ih]
theorem r1_lt {x:Nat} (h:x<4294967296):r1 x<4294967296:=by
 unfold r1
 split
 · exact Nat.xor_lt_two_pow (n:=32) (by omega) (by decide)
 · omega
theorem rn_lt (n:Nat):∀ {x:Nat},x<4294967296→rn n x<4294967296:=by
 induction n with
 | zero=>intro x h; exact h
 | succ n ih=>intro x h; exact ih (r1_lt h)
theorem small_half:∀ i,i<16→rn 4 i=tbl i:=by decide
theorem split_low (x k:Nat):x=(2 ^ k*(x / 2 ^ k)) ^^^ (x % 2 ^ k):=by
 apply Nat.eq_of_testBit_eq
 intro i;rw [Nat.testBit_xor,Nat.testBit_two_pow_mul,Nat.testBit_mod_two_pow];by_cases h:i<k
 · simp [h,show ¬ k≤i from by omega]
 · have h':k≤i:=by omega
   simp [h,h',Nat.testBit_div_two_pow]
theorem hstep_eq (x:Nat):hstep x=rn 4 x:=by
 have h:=split_low x 4;rw [h,rn_xor,rn_pow,small_half _ (by omega),← h]
 rfl
theorem hstep_lt {x:Nat} (h:x<4294967296):hstep x<4294967296:=by rw [hstep_eq]; exact rn_lt 4 h
theorem bstep_eq (c b:Nat):bstep c b=rn 8 (c ^^^ b):=by
 unfold bstep;rw [hstep_eq,hstep_eq,← rn_add]
theorem byte_lt (b:UInt8):b.toNat<256:=b.toNat_lt
theorem bstep_lt {c:Nat} (b:UInt8) (h:c<4294967296):bstep c b.toNat<4294967296:=by
 rw [bstep_eq]; exact rn_lt 8 (Nat.xor_lt_two_pow (n:=32) h (by have:=byte_lt b; omega))
theorem crc_lt (l:List UInt8):∀ {c:Nat},c<4294967296→crc c l<4294967296:=by
 induction l with
 | nil=>intro c h; exact h
 | cons b l ih=>intro c h; exact ih (bstep_lt b h)
theorem crc_append (c:Nat) (l m:List UInt8):crc c (l++m)=crc (crc c l) m:=by simp [crc]
theorem crc_snoc (c:Nat) (l:List UInt8) (b:UInt8):crc c (l++[b])=bstep (crc c l) b.toNat:=by simp [crc]
theorem sumOf_lt (l:List UInt8):sumOf l<4294967296:=Nat.xor_lt_two_pow (n:=32) (crc_lt l (by decide)) (by decide)
end Go.Proofs.YtagolklnjhpbdaaDoor.S

namespace Go.Proofs.YtagolklnjhpbdaaDoor.K
def gBytes (g:Int × Int):List UInt8:=I.digs (I.clipN g.1)++I.digs (I.clipN g.2)
def packG (l:List (Int × Int)):List UInt8:=I.digs (I.clipN (l.length:Int))++l.flatMap gBytes
theorem gBytes_len (g:Int × Int):(gBytes g).length≤18:=by
 have h1:=I.digs_nine (I.clipN g.1) (by unfold I.clipN; exact Nat.min_le_right _ _);have h2:=I.digs_nine (I.clipN g.2) (by unfold I.clipN; exact Nat.min_le_right _ _);unfold gBytes;rw [List.length_append];omega
theorem flat_gBytes_len (l:List (Int × Int)):(l.flatMap gBytes).length≤18*l.length:=by
 induction l with
 | nil=>simp
 | cons g l ih =>
  have:=gBytes_len g;rw [List.flatMap_cons,List.length_append,List.length_cons];omega
theorem packG_len (l:List (Int × Int)):(packG l).length≤9+18*l.length:=by
 have h1:=I.digs_nine (I.clipN (l.length:Int)) (by unfold I.clipN; exact Nat.min_le_right _ _);have h2:=flat_gBytes_len l;unfold packG;rw [List.length_append];omega
theorem flat_snoc (l:List (Int × Int)) (k:Nat) (h:k<l.length):(l.take (k+1)).flatMap gBytes=(l.take k).flatMap gBytes++gBytes l[k]:=by
 rw [List.take_succ_eq_append_getElem h,List.flatMap_append];simp
def nextC (c:Nat) (l:List (Int × Int)):Nat:=(c*65536 % 281474976710597+S.sumOf (packG l)) % 281474976710597
def chainB (L:List (List (Int × Int))):Nat:=L.foldl nextC 0
structure Bk where
 L:List (List (Int × Int))
 G:List (Int × Int)
end Go.Proofs.YtagolklnjhpbdaaDoor.K

namespace Go.Proofs.YtagolklnjhpbdaaDoor.I
def scan:List UInt8→Nat→Nat→Nat × Nat × Nat
  | [],i,_=>if 9≤i then (0,0,1) else (0,0,2)
  | b::r,i,n=>if 9≤i then (0,0,1) else if 128≤b.toNat then scan r (i+1) (n+b.toNat % 128*128 ^ i)
      else if (0<i∧b.toNat=0)∨top<n+b.toNat % 128*128 ^ i then (0,0,1) else (n+b.toNat % 128*128 ^ i,i+1,0)
def firstS (l:List UInt8):Nat × Nat × Nat:=scan l 0 0
theorem scan_digs:∀ (m i n:Nat) (r:List UInt8),n+m*128 ^ i≤top→i+(digs m).length≤9→(i=0∨0<m)→scan (digs m++r) i n=(n+m*128 ^ i,i+(digs m).length,0):=by
 intro m
 induction m using Nat.strongRecOn with
 | ind m ih =>
  intro i n r h9 hl h0;have hp:=digs_pos m;by_cases hb:m<128
  · rw [digs_small hb];have e:(UInt8.ofNat m).toNat=m:=by simp; omega
    simp only [List.cons_append,List.nil_append,scan,e];rw [if_neg (by omega),if_neg (by omega),Nat.mod_eq_of_lt hb,if_neg (by omega)];simp
  · rw [digs_big hb];have e:(UInt8.ofNat (m % 128+128)).toNat=m % 128+128:=by simp; omega
    have hl2:(digs m).length=(digs (m / 128)).length+1:=by rw [digs_big hb]; simp
    have key:n+m % 128*128 ^ i+m / 128*128 ^ (i+1)=n+m*128 ^ i:=by
     have:m / 128*128 ^ (i+1)=(m / 128*128)*128 ^ i:=by rw [Nat.pow_succ,Nat.mul_comm (128 ^ i) 128,Nat.mul_assoc]
     rw [this,Nat.add_assoc,← Nat.add_mul]
     congr 2
     omega
    simp only [List.cons_append,scan,e];rw [if_neg (by omega),if_pos (by omega),show (m % 128+128) % 128=m % 128 from by omega,ih (m / 128) (by omega) (i+1) _ r (by omega) (by omega) (.inr (by omega)),key];simp;omega
theorem first_digs (m:Nat) (r:List UInt8) (h:m≤top):firstS (digs m++r)=(m,(digs m).length,0):=by
 have:=scan_digs m 0 0 r (by simpa using h) (by have:=digs_nine m h; omega) (.inl rfl)
 simpa [firstS] using this
theorem scan_only:∀ (l:List UInt8) (i n v sz:Nat),scan l i n=(v,sz,0)→∃ m,v=n+m*128 ^ i∧l.take (sz - i)=digs m∧(0<m∨i=0)∧v≤top∧i<sz∧sz - i≤l.length
  | [],i,n,v,sz,h=>by
   unfold scan at h
   split at h <;> cases h
  | b::r,i,n,v,sz,h=>by
   unfold scan at h
   split at h
   · cases h
   · split at h
     · rename_i h9 h128;obtain ⟨m,hv,ht,hm,htop,hlt,hle⟩ := scan_only r (i+1) _ v sz h;have hb:=b.toNat_lt;have hm0:0<m:=hm.resolve_right (by omega);have hbig:¬ m*128+b.toNat % 128<128:=by omega
       refine ⟨m*128+b.toNat % 128,?_,?_,.inl (by omega),htop,by omega,by simp; omega⟩
       · rw [hv,Nat.pow_succ,Nat.add_mul,Nat.mul_assoc m 128,Nat.mul_comm 128 (128 ^ i)];omega
       · rw [digs_big hbig,show sz - i=(sz - (i+1))+1 from by omega,List.take_succ_cons,ht]
         congr 1
         · have e:(m*128+b.toNat % 128) % 128+128=b.toNat:=by omega
           rw [e]; simp
         · congr 1; omega
     · split at h
       · cases h
       · rename_i h9 h128 hf;cases h;have hb:=b.toNat_lt;refine ⟨b.toNat,by rw [Nat.mod_eq_of_lt (by omega)],?_,?_,by omega,by omega,by simp⟩
         · rw [digs_small (by omega),show i+1 - i=1 from by omega]; simp
         · omega
theorem first_only {l:List UInt8} {v sz:Nat} (h:firstS l=(v,sz,0)):l.take sz=digs v∧v≤top∧0<sz∧sz≤l.length:=by
 obtain ⟨m,hv,ht,_,htop,hlt,hle⟩ := scan_only l 0 0 v sz h;have:m=v:=by simpa using hv.symm
 subst this;exact ⟨by simpa using ht,htop,hlt,by simpa using hle⟩
theorem or_seven (N x k:Nat) (hN:N<128 ^ k) (hk:k<9) (hx:x<128):bits .or .i64 (N:Int) (((x*128 ^ k:Nat)):Int)=((N+x*128 ^ k:Nat):Int):=by
 have e:128 ^ k=2 ^ (7*k):=by rw [show (128:Nat)=2 ^ 7 from rfl,← Nat.pow_mul]
 have h63:128 ^ k*128≤2 ^ 63:=by
  rw [e,show (128:Nat)=2 ^ 7 from rfl,← Nat.pow_add];exact Nat.pow_le_pow_right (by decide) (by omega)
 have hb:x*128 ^ k<2 ^ 63:=Nat.lt_of_lt_of_le (Nat.mul_lt_mul_of_pos_right hx (Nat.pow_pos (by decide))) (by rw [Nat.mul_comm]; exact h63);have ha:N<2 ^ 63:=by
  have:128 ^ k≤128 ^ k*128:=Nat.le_mul_of_pos_right _ (by decide);omega
 have h:=(bits_nat .i64 63 (by decide) (fun n h0 h1=>by
  simp [IntKind.wrap,IntKind.bits,IntKind.signed];omega) N (x*128 ^ k) ha hb).2
 rw [h]
 congr 1
 rw [e,Nat.mul_comm x,Nat.or_comm,Nat.add_comm];exact (Nat.two_pow_add_eq_or_of_lt (by rw [← e]; exact hN) x).symm
end Go.Proofs.YtagolklnjhpbdaaDoor.I

namespace Go.Proofs.YtagolklnjhpbdaaDoor.I
open Go.RowKit
theorem drop_cons (s:ByteArray) (k:Nat) (h:k<s.size):s.data.toList.drop k=s[k]::s.data.toList.drop (k+1):=by
 rw [List.drop_eq_getElem_cons (by show k<s.size; exact h)]; rfl
theorem or_shift (N x k:Nat) (hN:N<128 ^ k) (hk:k<9) (hx:x<128):∃ Z:Nat,bits .or .i64 (N:Int) (wrap64 ((x:Int)*2 ^ (7*k)))=(Z:Int)∧(Z:Int)≤9223372036854775807∧Hid (Z=N+x*128 ^ k∧Z<128 ^ (k+1)):=by
 have e:128 ^ k=2 ^ (7*k):=by rw [show (128:Nat)=2 ^ 7 from rfl,← Nat.pow_mul]
 have h63:128 ^ k*128≤2 ^ 63:=by
  rw [e,show (128:Nat)=2 ^ 7 from rfl,← Nat.pow_add];exact Nat.pow_le_pow_right (by decide) (by omega)
 have hmul:x*128 ^ k≤127*128 ^ k:=Nat.mul_le_mul_right _ (by omega);have hlt:N+x*128 ^ k<128 ^ (k+1):=by rw [Nat.pow_succ]; omega
 have hs:N+x*128 ^ k<2 ^ 63:=by rw [Nat.pow_succ] at hlt; omega
 refine ⟨N+x*128 ^ k,?_,by omega,hDx ⟨rfl,hlt⟩⟩;rw [← or_seven N x k hN hk hx]
 congr 1
 have hc:((x:Int)*2 ^ (7*k))=((x*128 ^ k:Nat):Int):=by rw [e,Int.natCast_mul,Int.natCast_pow]; rfl
 rw [hc];exact IntWalk.wrap64_in _ ⟨by omega,by omega⟩
set_option maxRecDepth 100000 in
set_option maxHeartbeats 1000000 in
theorem first_any (s:ByteArray) (hs:(s.size:Int)≤1000000) (v sz e:Nat) (hsc:firstS s.data.toList=(v,sz,e)) (w:World) :
    Calls Tryd.prog 88 #[.string s] w fun en w'=>en=.returned (.tuple #[.int .i64 v,.int .i64 sz,.int .i64 e])∧w=w':=by
 have HS:=hDx hsc;clear hsc;obtain ⟨M,hM⟩ : ∃ M:Nat,(M:Int)=min (s.size:Int) 9:=⟨min s.size 9,by omega⟩;have hM9:(M:Int)≤9:=by omega
 have hMs:(M:Int)≤s.size:=by omega
 have HM:=hDx hM;have hmn:(if (9:Int)<s.size then (9:Int) else s.size)=(M:Int):=by by_cases h:(9:Int)<s.size <;> simp [h] <;> omega
 clear hM
 go_enter Tryd.func88,Tryd.ntmps88
 go_wp2
 go_loop [5,11] (fun c i=>∃ k N:Nat,k≤M∧i=.int .i64 k∧c=.int .i64 N∧(N:Int)≤9223372036854775807∧Hid (N<128 ^ k∧scan (s.data.toList.drop k) k N=(v,sz,e))) (fun _ i=>M - (intOf i).toNat)
 case atStart=>exact ⟨0,0,by omega,rfl,rfl,by omega,hDx ⟨by decide,by have:=HS.out; simpa [firstS] using this⟩⟩
 case round =>
  obtain ⟨k,N,hk,rfl,rfl,hN,hF⟩ := hrel;by_cases hlt:k<M
  · have hks:k<s.size:=by omega
    have hb:(s[k].toNat:Int)<256:=by have:=s[k].toNat_lt; omega
    have e1:bits .and .u8 (s[k].toNat:Int) 127=((s[k].toNat % 128:Nat):Int):=by
     have:=bits_mask .u8 8 (by decide) wraps_u8 7 (by decide) (s[k].toNat:Int) (by omega) (by omega)
     simpa using this
    obtain ⟨x,hx⟩ : ∃ x:Nat,s[k].toNat % 128=x:=⟨_,rfl⟩;rw [hx] at e1;have hx128:(x:Int)<128:=by omega
    have HX:=hDx hx;clear hx;obtain ⟨Z,e2,hZ63,hZ⟩ := or_shift N x k hF.out.1 (by omega) (by omega);have hstep:scan (s[k]::s.data.toList.drop (k+1)) k N=(v,sz,e):=by
     have h:=hF.out.2
     rwa [drop_cons s k hks] at h
    simp only [scan] at hstep;rw [if_neg (by omega),HX.out,← hZ.out.1] at hstep;have HSt:=hDx hstep;clear hstep;by_cases h128:128≤(s[k].toNat:Int)
    · have h2:=HSt.out;rw [if_pos (by omega)] at h2;have H2:=hDx h2;clear h2
      go_wp2
      go_round
      case rel=>exact ⟨k+1,Z,by omega,by go_num,rfl,hZ63,hDx ⟨hZ.out.2,H2.out⟩⟩
      case measure=>simp [intOf]; omega
    · have h2:=HSt.out;rw [if_neg (by omega)] at h2;by_cases hbad:0<k∧s[k].toNat=0
      · rw [if_pos (.inl hbad)] at h2;obtain ⟨hk0,hb0⟩ := hbad;have hb0':((s[k].toNat:Int) == 0)=true:=by rw [beq_iff_eq]; omega
        have H2:=hDx h2;clear h2 hb0
        go_wp2
        all_goals go_ret3
        all_goals (have h:=H2.out; cases h; exact ⟨rfl,rfl⟩)
      · by_cases htop:top<Z
        · rw [if_pos (.inr htop)] at h2;have H2:=hDx h2;have htop':(4611686018427387904:Int)<Z:=by unfold top at htop; omega
          clear h2 htop;by_cases hk0:0<k
          · have hb0':((s[k].toNat:Int) == 0)=false:=by rw [beq_eq_false_iff_ne]; omega
            clear hbad
            go_wp2
            all_goals go_ret3
            all_goals (have h:=H2.out; cases h; exact ⟨rfl,rfl⟩)
          · clear hbad
            go_wp2
            all_goals go_ret3
            all_goals (have h:=H2.out; cases h; exact ⟨rfl,rfl⟩)
        · rw [if_neg (by omega)] at h2;have H2:=hDx h2;have htop':(Z:Int)≤4611686018427387904:=by unfold top at htop; omega
          clear h2 htop;by_cases hk0:0<k
          · have hb0':((s[k].toNat:Int) == 0)=false:=by rw [beq_eq_false_iff_ne]; omega
            clear hbad
            go_wp2
            all_goals go_ret3
            all_goals (have h:=H2.out; cases h; exact ⟨by simp,rfl⟩)
          · clear hbad
            go_wp2
            all_goals go_ret3
            all_goals (have h:=H2.out; cases h; exact ⟨by simp,rfl⟩)
  · obtain rfl:k=M:=by omega
    have hend:=hF.out.2;by_cases h9:9≤(s.size:Int)
    · have hk9:k=9:=by have:=HM.out; omega
      have hres:(0,0,1)=(v,sz,e):=by
       rw [← hend,hk9];cases s.data.toList.drop 9 <;> simp [scan]
      have HR:=hDx hres;clear hres hk9 hend
      go_wp2
      all_goals go_ret3
      all_goals (have h:=HR.out; cases h; exact ⟨rfl,rfl⟩)
    · have hks:k=s.size:=by have:=HM.out; omega
      have hres:(0,0,2)=(v,sz,e):=by
       rw [← hend,List.drop_of_length_le (by show s.size≤k; omega)];simp [scan];omega
      have HR:=hDx hres;clear hres hks hend
      go_wp2
      all_goals go_ret3
      all_goals (have h:=HR.out; cases h; exact ⟨rfl,rfl⟩)
end Go.Proofs.YtagolklnjhpbdaaDoor.I
