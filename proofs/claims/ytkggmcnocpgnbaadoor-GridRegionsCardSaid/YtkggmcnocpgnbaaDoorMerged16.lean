/- Plain facts on runes out of bytes: one byte's step, runs of bytes, what is encoded is decoded, what is told is valid. No Go here. -/
import Derived.Test.YtkggmcnocpgnbaaDoorRows
import Derived.WalkKit
import Derived.WalkLawsBesides
import Derived.WalkSpells
import Derived.Outline
import Derived.Lib.Hide
import Derived.Below
import Derived.IntWalk
import Derived.OwnWalk
import Derived.Laws.Cover4
import Derived.Laws.BytesArg
import Derived.Test.YtkggmcnocpgnbaaDoorJSev
namespace Go.Proofs.YtkggmcnocpgnbaaDoor.Y

/-- first bytes: from, to, mask, need, low, high -/
abbrev Row := Nat × Nat × Nat × Nat × Nat × Nat
def tab : List Row := [(0, 127, 127, 0, 0, 0), (194, 223, 31, 1, 128, 191), (224, 224, 15, 2, 160, 191), (225, 236, 15, 2, 128, 191), (237, 237, 15, 2, 128, 159), (238, 239, 15, 2, 128, 191), (240, 240, 7, 3, 144, 191), (241, 243, 7, 3, 128, 191), (244, 244, 7, 3, 128, 143)]
def look : List Row → Nat → Option Row
  | [], _ => none
  | x :: t, b => if x.1 ≤ b ∧ b ≤ x.2.1 then some x else look t b
def zeroRow : Row := (0, 0, 0, 0, 0, 0)
/-- what the rest of the table says -/
def rest (k : Nat) (b : Nat) : Option Row := look (tab.drop k) b
theorem rest_end (b : Nat) : rest 9 b = none := rfl
theorem rest_step (k : Nat) (hk : k < 9) (b : Nat) : rest k b = if (tab.getD k zeroRow).1 ≤ b ∧ b ≤ (tab.getD k zeroRow).2.1 then some (tab.getD k zeroRow) else rest (k + 1) b := by
  have hk' : k < tab.length := hk
  have h : tab.drop k = tab.getD k zeroRow :: tab.drop (k + 1) := by
    rw [List.drop_eq_getElem_cons hk']
    simp [List.getD_eq_getElem?_getD, hk']
  unfold rest
  rw [h]
  rfl
def bad : Nat := 65533

/-- a sequence that isn't whole: its first byte, its bits so far, how many bytes it needs -/
structure St where
  lead : Nat
  rune : Nat
  need : Nat
deriving DecidableEq
def St.zero : St := ⟨0, 0, 0⟩
/-! ### first bytes, as the document says -/
/-! ### what a decoder may be -/
def validN (r : Nat) : Prop := r < 55296 ∨ (57344 ≤ r ∧ r < 1114112)
instance (r : Nat) : Decidable (validN r) := by unfold validN; infer_instance
/-! ### what is encoded is decoded -/
def fixI (r : Int) : Nat := if r < 0 ∨ 1114111 < r ∨ (55296 ≤ r ∧ r ≤ 57343) then bad else r.toNat
/-- the bytes of a rune that is one -/
def encN (c : Nat) : List Nat :=
  if c < 128 then [c]
  else if c < 2048 then [192 + c / 64, 128 + c % 64]
  else if c < 65536 then [224 + c / 4096, 128 + c / 64 % 64, 128 + c % 64]
  else [240 + c / 262144, 128 + c / 4096 % 64, 128 + c / 64 % 64, 128 + c % 64]
def encS (r : Int) : List UInt8 := (encN (fixI r)).map UInt8.ofNat
/-! ### all bytes at once -/
end Go.Proofs.YtkggmcnocpgnbaaDoor.Y

/- What runes are as bytes; the contract of the document's own Encode, where glyph is wanting. -/
namespace Go.Proofs.YtkggmcnocpgnbaaDoor.Y
open Go.RowKit

theorem utf8_encode (z : Int) : (Utf8.encode z).data.toList = encS z := by
  have hv : Utf8.valid z = decide (¬ (z < 0 ∨ 1114111 < z ∨ (55296 ≤ z ∧ z ≤ 57343))) := by
    unfold Utf8.valid
    rw [Bool.eq_iff_iff]
    simp
    omega
  unfold Utf8.encode encS fixI Utf8.runeError
  rw [hv]
  by_cases h : z < 0 ∨ 1114111 < z ∨ (55296 ≤ z ∧ z ≤ 57343)
  · rw [if_pos h]
    simp only [h, not_true, decide_false]
    rfl
  · rw [if_neg h]
    simp only [h, not_false_eq_true, decide_true, if_true]
    unfold encN
    by_cases h1 : z.toNat < 128
    · rw [if_pos h1, if_pos h1]; rfl
    · rw [if_neg h1, if_neg h1]
      by_cases h2 : z.toNat < 2048
      · rw [if_pos h2, if_pos h2]; rfl
      · rw [if_neg h2, if_neg h2]
        by_cases h3 : z.toNat < 65536
        · rw [if_pos h3, if_pos h3]; rfl
        · rw [if_neg h3, if_neg h3]; rfl
theorem runesBytes_enc (zs : List Int) : (runesBytes zs).data.toList = zs.flatMap encS := by
  unfold runesBytes
  have key : ∀ (l : List Int) (s : ByteArray), (l.foldl (fun r n => r ++ Utf8.encode n) s).data.toList = s.data.toList ++ l.flatMap encS := by
    intro l
    induction l with
    | nil => intro s; simp
    | cons z l ih =>
      intro s
      rw [List.foldl_cons, ih, List.flatMap_cons, ← utf8_encode]
      simp
  rw [key]
  rfl
end Go.Proofs.YtkggmcnocpgnbaaDoor.Y

/- The program's grid: the text of each row. -/
namespace Go.Proofs.YtkggmcnocpgnbaaDoor.K
open Go.RowKit Go.Shelf

attribute [local go_sem] Oper.semAt_some

/-- a row's runes, and its text -/
def runesR (r : Ro) : List Int := (glyphs r).map Prod.fst
def txt (r : Ro) : ByteArray := runesBytes (runesR r)
theorem info_strT : (Tryd.prog.info? 9).map (fun i => (i.zero, i.size, i.bytes)) = some (some (.string ⟨#[]⟩), 1, 16) := by kernel_rfl
theorem info_runeT : (Tryd.prog.info? 21).map (fun i => (i.zero, i.size, i.bytes)) = some (some (.int .i32 0), 1, 4) := by kernel_rfl
theorem trimG_le : ∀ l : List Cel, (trimG l).length ≤ l.length
  | [] => Nat.le_refl _
  | c :: l => by
    unfold trimG
    split
    · exact Nat.le_trans (trimG_le l) (Nat.le_succ _)
    · exact Nat.le_refl _
theorem glyphs_le (r : Ro) : (glyphs r).length ≤ r.l.length := by
  rw [glyphs_glF]
  refine Nat.le_trans (glF_length _) ?_
  unfold trimS
  split
  · exact Nat.le_refl _
  · rw [List.length_reverse]
    exact Nat.le_trans (trimG_le _) (by rw [List.length_reverse]; exact Nat.le_refl _)
/-- texts that come back -/
structure StrsIn (a : Option Addr) (n c : Nat) (l : List ByteArray) (w : World) : Prop where
  len : n = l.length
  fit : n ≤ c
  top : (c : Int) ≤ 9223372036854775807
  at_ : l = [] ∨ ∃ b off, a = some ⟨b, off, none⟩ ∧ b < w.heap.size ∧ ∀ i s, l[i]? = some s → w.cell? ⟨b, off + i, none⟩ = some (.string s)
theorem StrsIn.belowAll {a : Option Addr} {n c : Nat} {l : List ByteArray} {w w' : World} (h : StrsIn a n c l w) (hb : Below w.heap.size w w') : StrsIn a n c l w' := by
  refine ⟨h.len, h.fit, h.top, h.at_.imp id ?_⟩
  rintro ⟨b, off, ha, hl, hi⟩
  exact ⟨b, off, ha, Nat.lt_of_lt_of_le hl hb.size, fun i g hg => (hb.cell (p := ⟨b, off + i, none⟩) hl).trans (hi i g hg)⟩
theorem strsIn_own {T : TypeId} {base : Nat} {v : Value} {l : List ByteArray} {w : World} (h : w.ownsRow base T 1 v l.length (l.map Value.string)) : ∃ a c, v = .slice a l.length c ∧ StrsIn a l.length c l w := by
  rcases h.2 with ⟨rfl, h0⟩ | ⟨g, cap, cur, rfl, hbase, hg, hc, hm, hs, ht⟩
  · exact ⟨none, 0, by rw [h0], rfl, by omega, by decide, .inl (List.length_eq_zero_iff.1 h0)⟩
  · have hlt := (Array.getElem?_eq_some_iff.1 hg).1
    refine ⟨some ⟨g, 0, none⟩, cap, rfl, rfl, hc, by unfold maxLen at hm; omega, .inr ⟨g, 0, rfl, hlt, fun i c hi => ?_⟩⟩
    have hil : i < l.length := (List.getElem?_eq_some_iff.1 hi).1
    rw [Nat.zero_add, World.ownsRow.cellAt h i (by omega), List.getElem?_map, hi]
    rfl
def TxtPost (rs : List Ro) (w : World) (e : Ending) (w' : World) : Prop := ∃ a c, e = .returned (.slice a rs.length c) ∧ StrsIn a rs.length c (rs.map txt) w' ∧ Below w.heap.size w w'
/-- between two rounds -/
structure TxI (base : Nat) (w : World) (rs : List Ro) (V : World) : Prop where
  ex : ∃ v, Boxed V base 127 v ∧ V.ownsRow (base + 2) 9 1 v rs.length ((rs.map txt).map Value.string)
  b : Below base w V
theorem ownsRow_grown {T : TypeId} {size base n : Nat} {v : Value} {xs : List Value} {V V' : World} {row : Option Nat} (h : V.ownsRow base T size v n xs) (hg : V.grownBy V' row) (hr : ∀ r, row = some r → ∃ o : Obj, V.heap[r]? = some o ∧ o.isCells = false) : V'.ownsRow base T size v n xs := by
  refine h.kept hg ?_
  cases hv : v.ownBlock with
  | none => exact .inl rfl
  | some q =>
    right
    intro e
    obtain ⟨o, ho, hc⟩ := hr q e.symm
    exact absurd (row_cellsV h hv ho) (by rw [hc]; decide)
theorem TxI.grown {base : Nat} {w : World} {rs : List Ro} {V V' : World} {row : Option Nat} (h : TxI base w rs V) (hm : base ≤ V.heap.size) (hg : V.grownBy V' row) (hr : ∀ r, row = some r → base ≤ r ∧ ∃ o : Obj, V.heap[r]? = some o ∧ o.isCells = false) : TxI base w rs V' := by
  obtain ⟨⟨v, h1, h2⟩, h3⟩ := h
  exact ⟨⟨v, boxed_grown h1 hg (fun r e => (hr r e).2), ownsRow_grown h2 hg (fun r e => (hr r e).2)⟩, h3.grown hg hm (fun r e => (hr r e).1)⟩

theorem conv_own {base : Nat} {v : Value} {zs : List Int} {k : Nat} {V : World} (h : V.ownsRow base 21 1 v k (zs.map (Value.int .i32))) : (convert 125 9 v).run Tryd.prog V = .ok (.string (runesBytes zs)) V := by
  have hl := h.1
  rw [List.length_map, Nat.mul_one] at hl
  rcases h.2 with ⟨rfl, h0⟩ | ⟨g, cap, cur, rfl, _⟩
  · have hz : zs = [] := List.length_eq_zero_iff.1 (by omega)
    subst hz
    exact run_convert_runes_nil (P := Tryd.prog) V 125 9 21 0 0 Tryd.underlying125 Tryd.underlying21 Tryd.underlying9
  · have hh := run_convert_runes (P := Tryd.prog) V 125 9 21 ⟨g, 0, none⟩ k cap zs (by omega) Tryd.underlying125 Tryd.underlying21 Tryd.underlying9 (fun j hj => by
      have hadd : ((⟨g, 0, none⟩ : Addr).add j) = ⟨g, 0 + j, none⟩ := by unfold Addr.add; split <;> simp_all
      rw [hadd, Nat.zero_add, World.ownsRow.cellAt h j (by omega), List.getElem?_map, List.getElem?_eq_getElem hj, List.getD_eq_getElem?_getD, List.getElem?_eq_getElem hj]
      rfl)
    rw [← hl, List.take_length] at hh
    rw [← hl]
    exact hh
theorem KeepL.grown {L : List Nat} {A B : World} {row : Option Nat} (hg : A.grownBy B row) (hr : ∀ r, row = some r → r ∉ L) : KeepL L A B := ⟨hg.size, fun b hb hl => hg.block b hl (fun e => hr b e.symm hb)⟩
theorem KeepL.setCell {L : List Nat} {A : World} {B o : Nat} (h : B ∉ L) (v : Value) : KeepL L A (A.setCell ⟨B, o, none⟩ v) := ⟨(KeepsWalks.setCell A _ v).size, fun b hb _ => Below.heap_setCell _ _ _ b (fun e => h (by rw [show B = b from e.symm]; exact hb))⟩
set_option maxRecDepth 100000 in
set_option maxHeartbeats 8000000 in
theorem gtext_in (n : Nat) (hn : 20 ≤ n) {g q : Nat} {x : Gd} (w : World) (h : Gr g q x w) :
    CallsIn Fence.wide n Tryd.prog 61 #[.pointer (some ⟨g, 0, none⟩)] w (TxtPost x.rs w) := by
  have h1 : 1 ≤ n := by omega
  obtain ⟨us, cap, h⟩ := h
  obtain ⟨i0, hi, hz0, hz1, hz2⟩ := info_parts info_strT
  obtain ⟨i1, ji, jz0, jz1, jz2⟩ := info_parts info_runeT
  have hll : ∀ r ∈ x.rs, r.l.length ≤ 1000 := fun r hr => by rw [h.ok.len r hr]; exact h.ok.w2
  obtain ⟨its, hi1, hi2⟩ := its_of h.rv hll
  have hf := h.few
  have hfit := h.fit
  have hqw := h.lt.2
  obtain ⟨w1, hw1⟩ : ∃ w1, w.alloc (.cells #[.slice none 0 0] 127) = w1 := ⟨_, rfl⟩
  have b01 : Below w.heap.size w w1 := by rw [← hw1]; exact (Below.refl _ _).alloc (Nat.le_refl _) _
  have hs1 : w1.heap.size = w.heap.size + 1 := by rw [← hw1, World.size_alloc]
  have hg1 := h.below b01
  have c1 := hg1.c1
  rw [← hw1] at c1
  have hlen : its.length = us.length := by rw [← hi1, List.length_map]
  have hlk : LooksV w1.heap.size (some ⟨q, 0, none⟩) us.length cap (its.map It.u) (w1.alloc (.cells #[.slice (some ⟨q, 0, none⟩) us.length cap] 66)) := by
    rw [hi1]; exact looksV_new hg1.rin
  rw [hs1] at hlk
  have bO : Boxed w1 w.heap.size 127 (.slice none 0 0) := by rw [← hw1]; exact Boxed.new _ _ _
  have HIts := Lib.hid hi2
  have HLk := Lib.hid hlk
  have HBO := Lib.hid bO
  have HB01 := Lib.hid b01
  have HS1 := Lib.hid hs1
  have HW1 := Lib.hid hw1
  have HLl := Lib.hid hll
  have HLen : Hid (its.length ≤ 1000) := Lib.hid (by omega)
  obtain ⟨len, hle⟩ : ∃ len, us.length = len := ⟨_, rfl⟩
  rw [hle] at c1 hf HLk
  clear hi2 hlk bO b01 hs1 hw1 hll h hi1 hg1 hlen hle hfit
  refine callsIn_of_wp_marks Tryd.func61 rfl trivial ?_ rfl
  simp only [Tryd.ntmps61, List.size_toArray, List.length_cons, List.length_nil, Nat.reduceAdd, Nat.reduceSub, Array.replicate_succ, Array.replicate_zero, List.push_toArray, List.append_toArray, List.nil_append, List.cons_append]
  gi_wp2_with fail
  refine ⟨by first | trivial | omega, ?_⟩
  refine (down_in (n - 1) _ _ _ _).mono ?_
  rintro e w' ⟨rfl, rfl⟩
  gi_wp2_with fail
  rw [HW1.out]
  obtain ⟨w2, hw2⟩ : ∃ w2, w1.alloc (.cells #[.slice (some ⟨q, 0, none⟩) len cap] 66) = w2 := ⟨_, rfl⟩
  rw [hw2]
  have hlk2 := HLk.out
  rw [hw2] at hlk2
  have b12 : Below w1.heap.size w1 w2 := by rw [← hw2]; exact (Below.refl _ _).alloc (Nat.le_refl _) _
  have b02 : Below w.heap.size w w2 := HB01.out.trans (b12.mono HB01.out.size)
  have bO2 : Boxed w2 w.heap.size 127 (.slice none 0 0) := by rw [← hw2]; exact HBO.out.alloc _
  have hz : w2.heap.size = w.heap.size + 2 := by rw [← hw2, World.size_alloc, HS1.out]
  have hlk : ∀ b ∈ lookV (w.heap.size + 1) (some ⟨q, 0, none⟩) its, b < w2.heap.size := by
    have h := hlk2.all
    intro b hb
    exact h b (by cases its <;> exact hb)
  have HLk2 := Lib.hid hlk2
  have HB02 := Lib.hid b02
  have HBO2 := Lib.hid bO2
  have HHlk := Lib.hid hlk
  have HZ := Lib.hid hz
  clear hlk2 b12 b02 bO2 hz hlk hw2 HLk c1
  refine wpIn_rangeFunc_ownH rfl h1 (gf := 104) (lb := #[.pointer (some ⟨w.heap.size + 1, 0, none⟩)]) rfl trivial (enters_of Tryd.func104 (by kernel_rfl) rfl)
    (down_stopsG It.u (n - 1) (by omega) (w.heap.size + 1) _ _ _ its (by have := HLen.out; omega) w2 HLk2.out) keepL_t (keepL_b HHlk.out) (Below.refl _ _) (fun _ => rfl)
    (fun pre V => pre.length ≤ its.length ∧ w2.heap.size ≤ V.heap.size ∧ TxI w.heap.size w (pre.map It.r) V)
    (fun _ _ _ => False)
    (fun s X Y row hs hg hr => ⟨hs.1, Nat.le_trans hs.2.1 hg.size, hs.2.2.grown hs.2.2.b.size hg (fun r e => ⟨by have := (hr r e).1; have := HB02.out.size; omega, (hr r e).2⟩)⟩)
    (fun c s X Y row hs hg hr => hs)
    ⟨Nat.zero_le _, Nat.le_refl _, ⟨_, HBO2.out, World.ownsRow_nil _ _ _ _⟩, HB02.out⟩
    (fun x a' V => ∃ Bx, w2.heap.size ≤ Bx ∧ RoB 27 Bx (.slice x.u.a x.u.n x.u.c) x.u.b V ∧ a' = { tmps := #[.pointer (some ⟨g, 0, none⟩), undef, .slice none 0 0, .pointer (some ⟨w.heap.size, 0, none⟩), .pointer (some ⟨Bx, 0, none⟩), undef, undef, undef, .pointer (some ⟨g, 0, none⟩), .pointer (some ⟨g, 0, none⟩), .pointer (some ⟨g, 1, none⟩), .slice (some ⟨q, 0, none⟩) len cap, .func (.func 104) #[] #[.pointer (some ⟨w.heap.size + 1, 0, none⟩)], x.u.val, undef, undef, undef, undef, undef, undef, undef, undef, undef, undef, undef, undef, undef, undef, undef, undef, undef, undef, undef], defers := [] })
    (fun x a' s X Y row hs hg hr => by
      obtain ⟨Bx, hb1, hb2, hb3⟩ := hs
      refine ⟨Bx, hb1, hb2.grown hg (fun e => ?_), hb3⟩
      obtain ⟨_, o, ho, hc⟩ := hr Bx e
      rw [show X.heap[Bx]? = _ from hb2] at ho
      cases ho
      cases hc)
    ?assign ?body ?done ?stop
  case assign =>
    rintro l pre x V K' ⟨hpl, hsz, hI⟩ hK'
    obtain ⟨ua, un, uc, ub, hu⟩ : ∃ ua un uc ub, x.u = ⟨ua, un, uc, ub⟩ := ⟨_, _, _, _, rfl⟩
    rw [hu] at hK' ⊢
    simp only [Rv.val] at hK' ⊢
    gi_wp2
    refine hK' _ _ ((KeepsOthers.alloc _ _).from _) (KeepL.of_below ((Below.refl _ V).alloc (Nat.le_refl _) _) (fun b hb => Nat.lt_of_lt_of_le (HHlk.out b hb) hsz)) ⟨hpl, Nat.le_trans hsz (by simp), hI.grown hI.b.size (World.grownBy_alloc V _ none) (fun r e => by cases e)⟩ ⟨V.heap.size, hsz, RoB.new _ _ _ _, ?_⟩
    first | rfl | simp
  case body =>
    rintro l pre x a' V hl0 - ⟨hpl, hsz, hI⟩ ⟨Bx, hBx, hX, rfl⟩ hlt
    have b0V := hI.b
    have hxv : RowV .i32 x.u.val x.r V := RowV.belowAll x.2.1 b0V
    have hxl := x.2.2
    obtain ⟨⟨vv, hv, hrow⟩, -⟩ := hI
    obtain ⟨r, hr⟩ : ∃ r, x.r = r := ⟨_, rfl⟩
    have hr' : x.1.2 = r := hr
    rw [hr'] at hxl
    obtain ⟨ua, un, uc, ub, hu⟩ : ∃ ua un uc ub, x.u = ⟨ua, un, uc, ub⟩ := ⟨_, _, _, _, rfl⟩
    rw [hu] at hX hxv ⊢
    rw [hr] at hxv
    simp only [Rv.val] at hX hxv ⊢
    obtain ⟨hub, hce, -, hcp, hmx, hlen⟩ := hxv.of
    have r0 := hX.c0
    have r1 := hX.c1
    have hgl := glyphs_any ua un uc ub r.l V hce (by omega) hcp hmx
    have hre : (⟨r.l, ub⟩ : Ro) = r := by rw [hub]
    rw [hre] at hgl
    have hgle := glyphs_le r
    have HGl := Lib.hid hgl
    have HV := Lib.hid hv
    have hlm : (pre.map It.r).length = pre.length := List.length_map ..
    rw [hlm] at hrow
    obtain ⟨Ls, hLs⟩ : ∃ Ls, ((pre.map It.r).map txt).map Value.string = Ls := ⟨_, rfl⟩
    rw [hLs] at hrow
    have HLs := Lib.hid hLs
    have HRow := Lib.hid hrow
    have HB0V := Lib.hid b0V
    have HSz := Lib.hid hsz
    have HXr := Lib.hid hr
    obtain ⟨gs, hgs⟩ : ∃ gs, glyphs r = gs := ⟨_, rfl⟩
    have hN : gs.length ≤ 1000 := by rw [← hgs]; omega
    rw [hgs] at HGl
    have HGs := Lib.hid hgs
    have HPl : Hid (pre.length + 1 ≤ 1000) := Lib.hid (by have := HLen.out; omega)
    have HPl2 : Hid (pre.length + 1 ≤ its.length) := Lib.hid hlt
    have HVl : Hid (w.heap.size < V.heap.size) := Lib.hid hv.lt
    clear hX hxv hce hcp hmx hlen hre hgl hgle hgs hv hrow b0V hsz hr hr' hu hub hxl hpl hlt hl0 hlm hLs
    gi_wp2_with fail
    refine ⟨trivial, fun _ => by omega, ?_⟩
    refine (CallsIn.inRound l (callsIn_wide.2 HGl.out)).mono ?_
    rintro e V2 ⟨ga, gn, gc, rfl, hP, hb2⟩
    have HLg := Lib.hid hP.len
    have HP := Lib.hid hP
    have HB2 := Lib.hid hb2
    clear hP hb2 HGl r0 r1
    gi_wp2_with fail
    have hgn : gn ≤ 1000 := by have := HLg.out; omega
    gi_loopw [5, 17] (fun s i wr => ∃ j : Nat, i = .int .i64 (j : Int) ∧ j ≤ gn ∧ Hid (wr.ownsRow V2.heap.size 21 1 s j (((gs.take j).map Prod.fst).map (Value.int .i32)) ∧ Below V2.heap.size V2 wr)) (fun _ i _ => gn - (intOf i).toNat)
    case atStart => exact ⟨0, rfl, Nat.zero_le _, Lib.hid ⟨World.ownsRow_nil _ _ _ _, Below.refl _ _⟩⟩
    case round =>
      obtain ⟨j, rfl, hj, HF⟩ := hrel
      by_cases hlt : j < gn
      · have hd : decide (j < gn) = true := decide_eq_true hlt
        have hjg : j < gs.length := by rw [← HLg.out]; exact hlt
        have hP2 := HP.out.belowAll HF.out.2
        obtain ⟨b, off, rfl, hb, hA⟩ := hP2.at_.resolve_left (by intro e; rw [e] at hjg; simp at hjg)
        have hk := hA j gs[j] (List.getElem?_eq_getElem hjg)
        have htk := take_last gs j hjg
        obtain ⟨⟨z, sty⟩, hge⟩ : ∃ k, gs[j] = k := ⟨_, rfl⟩
        rw [hge] at hk htk
        obtain ⟨k0, k1⟩ := hk
        simp only at k0 k1
        obtain ⟨Lj, hLj⟩ : ∃ Lj, ((gs.take j).map Prod.fst).map (Value.int .i32) = Lj := ⟨_, rfl⟩
        have hrow1 := HF.out.1
        rw [hLj] at hrow1
        have HRow1 := Lib.hid hrow1
        have HBw : Hid (V2.heap.size ≤ wr.heap.size) := Lib.hid HF.out.2.size
        have HTk : Hid (((gs.take (j + 1)).map Prod.fst).map (Value.int .i32) = Lj ++ [.int .i32 z]) := Lib.hid (by rw [htk, List.map_append, List.map_append, hLj]; rfl)
        have hbs : Below wr.heap.size wr ((wr.alloc (.cells #[.int .i32 z, .int .i64 sty] 61)).alloc (.cells #[.int .i32 z] 21)) := ((Below.refl _ _).alloc (Nat.le_refl _) _).alloc (by simp) _
        have HBs := Lib.hid hbs
        have HJ : Hid (j + 1 ≤ 1000) := Lib.hid (by omega)
        clear hA hjg hP2 htk hge hbs hb hLj hrow1
        gi_wp2_with (gi_at_builtin; refine wpListIn_append_own _ rfl _ _ 125 rfl V2.heap.size 21 i1 _ 1 4 Tryd.underlying125 ji jz0 jz1 jz2 rfl (by decide) _ j _ rfl (U.belowAll HRow1.out HBs.out) ⟨wr.heap.size + 1, 0, none⟩ 1 1 [.int .i32 z] rfl rfl ?c1 ?c2 ?c3 ?c4 ?c5 ?_)
        case c1 =>
          intro t q' hq'
          match t, hq' with
          | 0, hq' =>
            obtain rfl : Value.int .i32 z = q' := by simpa using hq'
            have h := World.alloc_heap_new (wr.alloc (.cells #[.int .i32 z, .int .i64 sty] 61)) (.cells #[.int .i32 z] 21)
            rw [World.size_alloc] at h
            show World.cell? _ ⟨wr.heap.size + 1, 0, none⟩ = _
            simp only [World.cell?, h]
            rfl
          | t + 1, hq' => simp at hq'
        case c2 => intro u hu; rw [List.mem_singleton.1 hu]; rfl
        case c3 => have := HJ.out; unfold maxLen; omega
        case c4 => have := HJ.out; omega
        case c5 => exact Nat.le_trans HBw.out HBs.out.size
        intro v' w5 hown' hgrow _
        rw [← HTk.out] at hown'
        have HF5 : Hid (w5.ownsRow V2.heap.size 21 1 v' (j + 1) (((gs.take (j + 1)).map Prod.fst).map (Value.int .i32)) ∧ Below V2.heap.size V2 w5) := Lib.hid ⟨hown', (HF.out.2.trans (HBs.out.mono HBw.out)).grown hgrow (Nat.le_trans HBw.out HBs.out.size) (fun k hk => (World.ownsRow.lt HRow1.out k hk).1)⟩
        clear hown' hgrow HRow1 HBs
        gi_wp2
        go_roundw
        case rel => exact ⟨j + 1, by go_num, by omega, HF5⟩
        case measure => simp [intOf]; omega
      · obtain rfl : j = gn := by omega
        have hd : decide (j < j) = false := by simp
        have hd' : decide ((j : Int) < (j : Int)) = false := by simp
        have hcv := conv_own HF.out.1
        rw [List.take_of_length_le (by rw [← HLg.out]; exact Nat.le_refl _)] at hcv
        have htx : runesBytes (gs.map Prod.fst) = txt r := by unfold txt runesR; rw [HGs.out]
        rw [htx] at hcv
        have hB2 : Below V.heap.size V wr := HB2.out.trans (HF.out.2.mono HB2.out.size)
        have hvw : Boxed wr w.heap.size 127 vv := (hB2.block _ HVl.out).trans HV.out
        have hrw := U.belowAll HRow.out hB2
        have e3 := hvw.cell
        have HB2' := Lib.hid hB2
        have HVw := Lib.hid hvw
        have HRw := Lib.hid hrw
        have hbs : Below wr.heap.size wr (wr.alloc (.cells #[.string (txt r)] 9)) := (Below.refl _ _).alloc (Nat.le_refl _) _
        have HBs := Lib.hid hbs
        have HZw : Hid (w.heap.size + 2 ≤ wr.heap.size) := Lib.hid (by have := HZ.out; have := HSz.out; have := hB2.size; omega)
        clear htx hB2 hvw hrw hbs
        gi_wp2_with (gi_at_builtin; refine wpListIn_append_own _ rfl _ _ 127 rfl (w.heap.size + 2) 9 i0 _ 1 16 Tryd.underlying127 hi hz0 hz1 hz2 rfl (by decide) _ pre.length _ rfl (U.belowAll HRw.out HBs.out) ⟨wr.heap.size, 0, none⟩ 1 1 [.string (txt r)] rfl rfl ?c1 ?c2 ?c3 ?c4 ?c5 ?_)
        case c1 =>
          intro t q' hq'
          match t, hq' with
          | 0, hq' =>
            obtain rfl : Value.string (txt r) = q' := by simpa using hq'
            have h := World.alloc_heap_new wr (.cells #[.string (txt r)] 9)
            show World.cell? _ ⟨wr.heap.size, 0, none⟩ = _
            simp only [World.cell?, h]
            rfl
          | t + 1, hq' => simp at hq'
        case c2 => intro u hu; rw [List.mem_singleton.1 hu]; rfl
        case c3 => have := HPl.out; unfold maxLen; omega
        case c4 => have := HPl.out; omega
        case c5 => exact Nat.le_trans HZw.out HBs.out.size
        intro v' w5 hown' hgrow _
        obtain ⟨g', cap', rfl⟩ := ownsRow_succ hown'
        obtain ⟨q1, q2, q3, q4, q5⟩ := HVw.out.appended (n₀ := w.heap.size) (by decide) (U.weaken HRw.out (by omega)) (by have := HZw.out; omega) (Nat.le_refl _) (U.weaken hown' (by omega)) hgrow
        have hc1 := q1.cell
        have hf1 := q1.frozen
        have hkl : KeepL (lookV (w.heap.size + 1) (some ⟨q, 0, none⟩) its) V (w5.setCell ⟨w.heap.size, 0, none⟩ (.slice (some ⟨g', 0, none⟩) (pre.length + 1) cap')) := by
          have hin : ∀ b ∈ lookV (w.heap.size + 1) (some ⟨q, 0, none⟩) its, b = w.heap.size + 1 ∨ b = q := fun b hb => by
            unfold lookV at hb
            rcases List.mem_cons.1 hb with h | h
            · exact .inl h
            · right
              cases its with
              | nil => cases h
              | cons z zs => simpa [blkV] using h
          refine keepL_t (KeepL.of_below (HB2'.out.trans (HBs.out.mono HB2'.out.size)) (fun b hb => Nat.lt_of_lt_of_le (HHlk.out b hb) HSz.out)) (keepL_t (KeepL.grown hgrow (fun k hk hb => ?_)) (KeepL.setCell (fun hb => ?_) _))
          · have h1 := (World.ownsRow.lt HRw.out k hk).1
            have h2 := hin k hb
            omega
          · have h2 := hin _ hb
            omega
        have HKl := Lib.hid hkl
        have HQ4 := Lib.hid q4
        have HQ5 := Lib.hid q5
        have HQ2 := Lib.hid q2
        have HQ3 := Lib.hid ((hown'.kept (grownBy_setCell' w5 w.heap.size (.slice (some ⟨g', 0, none⟩) (pre.length + 1) cap')) (.inr (q1.not_row (by decide) hown').symm)))
        clear hown' hgrow q1 q2 q3 q4 q5 hkl
        gi_wp2
        have hkf : KeepsFrom w2.heap.size V wr := (KeepB.of_below (L := []) HB2'.out).from_ (fun p hp => by cases hp) _
        refine ⟨hkf.trans (HQ4.out.from _), HKl.out, ?_, ?_, ⟨⟨.slice (some ⟨g', 0, none⟩) (pre.length + 1) cap', ?_, ?_⟩, ?_⟩⟩
        · rw [List.length_append, List.length_singleton]; exact HPl2.out
        · exact Nat.le_trans HSz.out (Nat.le_trans HB2'.out.size HQ4.out.size)
        · exact HQ2.out
        · have h := HQ3.out
          rw [← HLs.out] at h
          rw [List.map_append, List.map_append, List.map_append, List.length_append, List.length_map]
          show World.ownsRow _ _ _ _ _ (pre.length + 1) (_ ++ [Value.string (txt x.r)])
          rw [HXr.out]
          exact h
        · exact HB0V.out.trans ((HB2'.out.mono HB0V.out.size).trans HQ5.out)
  case done =>
    rintro D xs V hD rfl ⟨hpl, hsz, ⟨⟨v, hv, hrow⟩, hB⟩⟩ hK
    have hc := hv.cell
    have HV := Lib.hid hv
    have HRow := Lib.hid hrow
    have HB := Lib.hid hB
    have HK := Lib.hid hK
    have HD := Lib.hid hD
    clear hv hrow hB hK hD
    gi_wp2
    refine ⟨by simp, .inl ⟨_, _, rfl, run_takeDeferred HK.out, ?_⟩⟩
    have hr2 := ownsRow_putObj HRow.out (.deferred none) HK.out rfl
    have hb2 := HB.out.trans (belowK_b (w := w) (Nat.le_refl _) V D _ (.deferred none) (by have := HD.out; have := HZ.out; omega) HK.out rfl rfl)
    rw [HIts.out] at hr2
    have hl : x.rs.length = (x.rs.map txt).length := by rw [List.length_map]
    rw [hl] at hr2
    obtain ⟨a, c, rfl, hin⟩ := strsIn_own hr2
    rw [← hl] at hin
    refine ⟨_, results_tmp rfl _ _ _, a, c, by rw [← hl]; rfl, hin, hb2⟩
  case stop =>
    rintro D c pre V hD _ h
    exact h.elim
theorem gtext_any {g q : Nat} {x : Gd} (w : World) (h : Gr g q x w) :
    Calls Tryd.prog 61 #[.pointer (some ⟨g, 0, none⟩)] w (TxtPost x.rs w) :=
  (callsIn_wide (n := 20)).1 (gtext_in 20 (by decide) w h)
end Go.Proofs.YtkggmcnocpgnbaaDoor.K
