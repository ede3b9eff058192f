/- The contracts of num.Of and of In's methods Fail, Num, End, Err, Left. -/
import Derived.Test.YtjlljkdlgkociaaMerged0
import Derived.RangeFuncBox
namespace Go.Proofs.Ytjlljkdlgkociaa.I
open Go.RowKit

/-- Block p is an In: what is left, and the first error. -/
def InBlk (p : Nat) (s : ByteArray) (e : Nat) (w : World) : Prop := w.heap[p]? = some (.cells #[.string s, .int .i64 e] 121 (0, 0))
theorem InBlk.lt {p : Nat} {s : ByteArray} {e : Nat} {w : World} (h : InBlk p s e w) : p < w.heap.size := (Array.getElem?_eq_some_iff.1 h).1
theorem InBlk.c0 {p : Nat} {s : ByteArray} {e : Nat} {w : World} (h : InBlk p s e w) : w.cell? ⟨p, 0, none⟩ = some (.string s) := by simp [World.cell?, show w.heap[p]? = _ from h]
theorem InBlk.c1 {p : Nat} {s : ByteArray} {e : Nat} {w : World} (h : InBlk p s e w) : w.cell? ⟨p, 1, none⟩ = some (.int .i64 e) := by simp [World.cell?, show w.heap[p]? = _ from h]
theorem InBlk.fr {p : Nat} {s : ByteArray} {e : Nat} {w : World} (h : InBlk p s e w) (o : Nat) : w.frozen? ⟨p, o, none⟩ = false := by simp [World.frozen?, show w.heap[p]? = _ from h]
theorem InBlk.set0 {p : Nat} {s : ByteArray} {e : Nat} {w : World} (h : InBlk p s e w) (s' : ByteArray) : InBlk p s' e (w.setCell ⟨p, 0, none⟩ (.string s')) := by
  unfold InBlk at *
  simp [World.setCell, Array.getElem?_modify, h]
theorem InBlk.set1 {p : Nat} {s : ByteArray} {e : Nat} {w : World} (h : InBlk p s e w) (e' : Nat) : InBlk p s e' (w.setCell ⟨p, 1, none⟩ (.int .i64 e')) := by
  unfold InBlk at *
  simp [World.setCell, Array.getElem?_modify, h]
theorem grown_set (w : World) (p o : Nat) (v : Value) : w.grownBy (w.setCell ⟨p, o, none⟩ v) (some p) :=
  ⟨rfl, rfl, rfl, (KeepsWalks.setCell w _ v).size, fun k _ hk => Below.heap_setCell w ⟨p, o, none⟩ v k (fun e => hk (by rw [e]))⟩
theorem grown_trans {a b c : World} {p : Nat} (h : a.grownBy b (some p)) (k : b.grownBy c (some p)) : a.grownBy c (some p) :=
  ⟨k.os.trans h.os, k.tape.trans h.tape, k.output.trans h.output, Nat.le_trans h.size k.size, fun i hi hn => (k.block i (Nat.lt_of_lt_of_le hi h.size) hn).trans (h.block i hi hn)⟩
theorem grown_refl (w : World) (p : Nat) : w.grownBy w (some p) := ⟨rfl, rfl, rfl, Nat.le_refl _, fun _ _ _ => rfl⟩
/-- The In at block p: these bytes are left, this is the error. -/
def InSt (p : Nat) (l : List UInt8) (e : Nat) (w : World) : Prop := ∃ s : ByteArray, InBlk p s e w ∧ s.data.toList = l ∧ (s.size : Int) ≤ 1000000
theorem inst_len {l : List UInt8} {s : ByteArray} (h : s.data.toList = l) : s.size = l.length := by rw [← h]; rfl

theorem of_any (s : ByteArray) (hs : (s.size : Int) ≤ 1000000) (w : World) : Calls Try.prog 21 #[.string s] w fun e w' => e = .returned (.pointer (some ⟨w.heap.size, 0, none⟩)) ∧ InSt w.heap.size s.data.toList 0 w' ∧ w' = w.alloc (.cells #[.string s, .int .i64 0] 121) := by
  go_enter Try.func21, Try.ntmps21
  go_wp2
  go_ret
  exact ⟨rfl, ⟨s, World.alloc_heap_new _ _, rfl, hs⟩, rfl⟩

/-- What Fail does. -/
def failS (l : List UInt8) (e er : Nat) : List UInt8 × Nat := if e ≠ 0 ∨ er = 0 then (l, e) else ([], er)
/-- A method's answer, the In behind it, and all else as it was. -/
def Took (p : Nat) (v : Value) (st : List UInt8 × Nat) (w : World) (e : Ending) (w' : World) : Prop := e = .returned v ∧ InSt p st.1 st.2 w' ∧ w.grownBy w' (some p)
theorem fail_any (p : Nat) (l : List UInt8) (e er : Nat) (w : World) (h : InSt p l e w) : Calls Try.prog 83 #[.pointer (some ⟨p, 0, none⟩), .int .i64 er] w (Took p (.tuple #[]) (failS l e er) w) := by
  obtain ⟨s, hb, hl, hs⟩ := h
  have c0 := hb.c0
  have c1 := hb.c1
  have f0 := hb.fr 0
  have f1 := hb.fr 1
  have HB := Lib.hid hb
  have HL := Lib.hid hl
  clear hb hl
  by_cases he : e = 0
  · subst he
    by_cases her : er = 0
    · subst her
      have hf : failS l 0 0 = (l, 0) := by simp [failS]
      rw [hf]
      clear hf
      go_enter Try.func83, Try.ntmps83
      go_wp2
      go_end0
      exact ⟨rfl, ⟨s, HB.out, HL.out, hs⟩, grown_refl _ _⟩
    · have hf : failS l 0 er = ([], er) := by simp [failS, her]
      have ht : ((er : Int) == 0) = false := by rw [beq_eq_false_iff_ne]; omega
      rw [hf]
      clear hf her
      go_enter Try.func83, Try.ntmps83
      go_wp2
      go_end0
      exact ⟨rfl, ⟨⟨#[]⟩, (HB.out.set1 er).set0 _, rfl, by decide⟩, grown_trans (grown_set _ _ _ _) (grown_set _ _ _ _)⟩
  · have hf : failS l e er = (l, e) := by simp [failS, he]
    have ht : ((e : Int) == 0) = false := by rw [beq_eq_false_iff_ne]; omega
    have ht2 : ((e : Int) != 0) = true := by rw [bne_iff_ne]; omega
    rw [hf]
    clear hf he
    go_enter Try.func83, Try.ntmps83
    go_wp2
    go_end0
    exact ⟨rfl, ⟨s, HB.out, HL.out, hs⟩, grown_refl _ _⟩
/-- What Num does. -/
def numS (l : List UInt8) (e : Nat) : (List UInt8 × Nat) × Nat := if (firstS l).2.2 = 0 then ((l.drop (firstS l).2.1, e), (firstS l).1) else (failS l e (firstS l).2.2, 0)
set_option maxHeartbeats 400000 in
theorem innum_any (p : Nat) (l : List UInt8) (e : Nat) (w : World) (h : InSt p l e w) : Calls Try.prog 62 #[.pointer (some ⟨p, 0, none⟩)] w (Took p (.int .i64 (numS l e).2) (numS l e).1 w) := by
  have hst := h
  obtain ⟨s, hb, hl, hs⟩ := h
  have c0 := hb.c0
  have f0 := hb.fr 0
  obtain ⟨v, sz, er, hfs⟩ : ∃ v sz er, firstS l = (v, sz, er) := ⟨_, _, _, rfl⟩
  have H1 := Lib.hid (first_any s hs v sz er (by rw [hl]; exact hfs) w)
  have HB := Lib.hid hb
  have HL := Lib.hid hl
  by_cases her : er = 0
  · subst her
    have hle := (first_only hfs).2.2.2
    have hsz : (sz : Int) ≤ s.size := by rw [inst_len hl]; omega
    have hn : numS l e = ((l.drop sz, e), v) := by simp [numS, hfs]
    rw [hn]
    clear hn hfs hle hb hl hst
    go_enter Try.func62, Try.ntmps62
    go_wp2_with (go_at_call 82; refine H1.out.mono ?_; rintro en w' ⟨rfl, rfl⟩)
    go_ret
    refine ⟨rfl, ⟨s.extract sz s.size, HB.out.set0 _, ?_, by simp; omega⟩, grown_set _ _ _ _⟩
    rw [ByteArray.data_extract]
    simp
    rw [HL.out, List.take_of_length_le (by simp [inst_len HL.out])]
  · have hn : numS l e = (failS l e er, 0) := by simp [numS, hfs, her]
    have ht : ((er : Int) == 0) = false := by rw [beq_eq_false_iff_ne]; omega
    have ht2 : ((er : Int) != 0) = true := by rw [bne_iff_ne]; omega
    have H2 := Lib.hid (fail_any p l e er w hst)
    rw [hn]
    clear hn hfs hb hl hst her
    go_enter Try.func62, Try.ntmps62
    go_wp2_with (first | (go_at_call 82; refine H1.out.mono ?_; rintro en w' ⟨rfl, rfl⟩) | (go_at_call 83; refine H2.out.mono ?_; rintro en w2 ⟨rfl, hi2, hg2⟩; have HI2 := Lib.hid hi2; have HG2 := Lib.hid hg2; clear hi2 hg2))
    go_ret
    exact ⟨rfl, HI2.out, HG2.out⟩
theorem err_any (p : Nat) (l : List UInt8) (e : Nat) (w : World) (h : InSt p l e w) : Calls Try.prog 86 #[.pointer (some ⟨p, 0, none⟩)] w fun en w' => en = .returned (.int .i64 e) ∧ w = w' := by
  obtain ⟨s, hb, hl, hs⟩ := h
  have c1 := hb.c1
  clear hb hl
  go_enter Try.func86, Try.ntmps86
  go_wp2
  go_ret
  exact ⟨rfl, rfl⟩
/-- What End answers. -/
def endS (l : List UInt8) (e : Nat) : Nat := if e = 0 ∧ l ≠ [] then 1 else e
theorem end_any (p : Nat) (l : List UInt8) (e : Nat) (w : World) (h : InSt p l e w) : Calls Try.prog 23 #[.pointer (some ⟨p, 0, none⟩)] w fun en w' => en = .returned (.int .i64 (endS l e : Nat)) ∧ w = w' := by
  obtain ⟨s, hb, hl, hs⟩ := h
  have c0 := hb.c0
  have c1 := hb.c1
  have hsl : s.toList = l := by rw [ByteArray.toList_eq, hl]
  clear hb hl
  by_cases he : e = 0
  · subst he
    by_cases hn : l = []
    · have hr : endS l 0 = 0 := by simp [endS, hn]
      have h1 : s.toList = [] := by rw [hsl, hn]
      have h2 : (!s.toList.isEmpty) = false := by rw [h1]; rfl
      have h3 : s.toList.isEmpty = true := by rw [h1]; rfl
      rw [hr]
      clear hr hn hsl
      go_enter Try.func23, Try.ntmps23
      go_wp2
      go_ret
      exact ⟨rfl, rfl⟩
    · have hr : endS l 0 = 1 := by simp [endS, hn]
      have h3 : s.toList.isEmpty = false := by rw [hsl]; cases l <;> simp_all
      rw [hr]
      clear hr hn hsl
      go_enter Try.func23, Try.ntmps23
      go_wp2
      go_ret
      exact ⟨rfl, rfl⟩
  · have hr : endS l e = e := by simp [endS, he]
    have ht : ((e : Int) == 0) = false := by rw [beq_eq_false_iff_ne]; omega
    rw [hr]
    clear hr he hsl
    go_enter Try.func23, Try.ntmps23
    go_wp2
    go_ret
    exact ⟨rfl, rfl⟩
end Go.Proofs.Ytjlljkdlgkociaa.I

/- A line out of bytes, as the program and the document read it. -/
namespace Go.Proofs.Ytjlljkdlgkociaa.K
open Go.RowKit Go.Proofs.Ytjlljkdlgkociaa.I

theorem numS_zero {l l' : List UInt8} {e e' v : Nat} (h : numS l e = ((l', e'), v)) (h0 : e' = 0) : e = 0 ∧ l = digs v ++ l' ∧ v ≤ top := by
  unfold numS at h
  split at h
  · rename_i h2
    obtain ⟨⟨v1, sz1, e1⟩, hf⟩ : ∃ q, firstS l = q := ⟨_, rfl⟩
    rw [hf] at h h2
    simp only at h h2
    subst h2
    simp only [Prod.mk.injEq] at h
    obtain ⟨⟨rfl, rfl⟩, rfl⟩ := h
    obtain ⟨h3, h4, _, _⟩ := first_only hf
    exact ⟨h0, by rw [← h3, List.take_append_drop], h4⟩
  · rename_i h2
    unfold failS at h
    split at h
    · rename_i h3
      simp only [Prod.mk.injEq] at h
      obtain ⟨⟨_, rfl⟩, _⟩ := h
      rcases h3 with h3 | h3
      · exact absurd h0 h3
      · exact absurd h3 h2
    · rename_i h3
      simp only [Prod.mk.injEq] at h
      obtain ⟨⟨_, rfl⟩, _⟩ := h
      exact absurd h0 (fun e => h2 e)
theorem numS_back (z : Int) (r : List UInt8) : numS (digs (clipN z) ++ r) 0 = ((r, 0), clipN z) := by
  unfold numS
  rw [first_digs _ _ (clipN_le z)]
  simp

/-- what is left, and the error -/
abbrev Sta := List UInt8 × Nat
def InOk (st : Sta) : Prop := st.2 ≠ 0 → st.1 = []
/-- a number of at most m -/
def atS (st : Sta) (m : Nat) : Sta × Nat := if (numS st.1 st.2).2 ≤ m then numS st.1 st.2 else (failS (numS st.1 st.2).1.1 (numS st.1 st.2).1.2 1, 0)
theorem atS_le (st : Sta) (m : Nat) : (atS st m).2 ≤ m := by
  unfold atS
  split
  · assumption
  · exact Nat.zero_le _
/-- read without an error: those bytes -/
theorem atS_zero {st : Sta} {m : Nat} (h0 : (atS st m).1.2 = 0) : st.2 = 0 ∧ st.1 = digs (atS st m).2 ++ (atS st m).1.1 ∧ (atS st m).2 ≤ top := by
  unfold atS at h0 ⊢
  split
  · rename_i h
    rw [if_pos h] at h0
    exact numS_zero (v := (numS st.1 st.2).2) rfl h0
  · rename_i h
    rw [if_neg h] at h0
    unfold failS at h0
    split at h0
    · rename_i h1
      rcases h1 with h1 | h1
      · exact absurd h0 h1
      · cases h1
    · cases h0
theorem atS_back {z m : Nat} (h : z ≤ m) (hm : m ≤ top) (r : List UInt8) : atS (digs z ++ r, 0) m = ((r, 0), z) := by
  have h1 := numS_back (z : Int) r
  have h2 : clipN (z : Int) = z := by unfold clipN; omega
  rw [h2] at h1
  unfold atS
  rw [h1, if_pos h]
/-- a glyph -/
def gS (st : Sta) : Sta × (Int × Int) := ((atS (atS st 1114111).1 647).1, (((atS st 1114111).2 : Int), ((atS (atS st 1114111).1 647).2 : Int)))
def rdN : Nat → Sta → Sta × List (Int × Int)
  | 0, st => (st, [])
  | n + 1, st => ((gS (rdN n st).1).1, (rdN n st).2 ++ [(gS (rdN n st).1).2])
theorem rdN_len : ∀ (n : Nat) (st : Sta), (rdN n st).2.length = n
  | 0, _ => rfl
  | n + 1, st => by show ((rdN n st).2 ++ [_]).length = _; rw [List.length_append, rdN_len n st]; rfl
theorem rdN_rng : ∀ (n : Nat) (st : Sta), ∀ g ∈ (rdN n st).2, (0 ≤ g.1 ∧ g.1 ≤ 1114111) ∧ 0 ≤ g.2 ∧ g.2 ≤ 647
  | 0, _ => fun g hg => by cases hg
  | n + 1, st => fun g hg => by
    rcases List.mem_append.1 hg with hg | hg
    · exact rdN_rng n st g hg
    · rw [List.mem_singleton.1 hg]
      have h1 := atS_le (rdN n st).1 1114111
      have h2 := atS_le (atS (rdN n st).1 1114111).1 647
      unfold gS
      simp only
      omega
/-- a line -/
def readS (st : Sta) : Sta × List (Int × Int) := ((rdN (atS st 1024).2 (atS st 1024).1).1, if (rdN (atS st 1024).2 (atS st 1024).1).1.2 = 0 then (rdN (atS st 1024).2 (atS st 1024).1).2 else [])
theorem readS_len (st : Sta) : (readS st).2.length ≤ 1024 := by
  unfold readS
  simp only
  split
  · rw [rdN_len]; exact atS_le _ _
  · exact Nat.zero_le _
theorem readS_rng (st : Sta) : ∀ g ∈ (readS st).2, (0 ≤ g.1 ∧ g.1 ≤ 1114111) ∧ 0 ≤ g.2 ∧ g.2 ≤ 647 := by
  unfold readS
  simp only
  split
  · exact rdN_rng _ _
  · exact fun g hg => by cases hg
/-- may it be a line? -/
def MayL (l : List (Int × Int)) : Prop := ∀ g ∈ l, (0 ≤ g.1 ∧ g.1 ≤ 1114111) ∧ 0 ≤ g.2 ∧ g.2 ≤ 647
theorem gS_back {g : Int × Int} (h : (0 ≤ g.1 ∧ g.1 ≤ 1114111) ∧ 0 ≤ g.2 ∧ g.2 ≤ 647) (r : List UInt8) : gS (gBytes g ++ r, 0) = ((r, 0), g) := by
  obtain ⟨x, s⟩ := g
  obtain ⟨⟨h1, h2⟩, h3, h4⟩ := h
  simp only at h1 h2 h3 h4
  obtain ⟨x, rfl⟩ := Int.eq_ofNat_of_zero_le h1
  obtain ⟨s, rfl⟩ := Int.eq_ofNat_of_zero_le h3
  have hx : clipN (x : Int) = x := by unfold clipN; have : (1114111 : Nat) ≤ top := by decide
                                      omega
  have hs : clipN (s : Int) = s := by unfold clipN; have : (1114111 : Nat) ≤ top := by decide
                                      omega
  unfold gS gBytes
  simp only
  rw [hx, hs, List.append_assoc, atS_back (by omega) (by decide), atS_back (by omega) (by decide)]
theorem rdN_back {l : List (Int × Int)} (h : MayL l) (r : List UInt8) : ∀ j, j ≤ l.length → rdN j (l.flatMap gBytes ++ r, 0) = (((l.drop j).flatMap gBytes ++ r, 0), l.take j)
  | 0, _ => by simp [rdN]
  | j + 1, hj => by
    have hjl : j < l.length := by omega
    have ih := rdN_back h r j (by omega)
    show ((gS (rdN j _).1).1, (rdN j _).2 ++ [(gS (rdN j _).1).2]) = _
    rw [ih]
    simp only
    rw [List.drop_eq_getElem_cons hjl, List.flatMap_cons, List.append_assoc, gS_back (h _ (List.getElem_mem hjl)), List.take_succ_eq_append_getElem hjl]
theorem readS_back {l : List (Int × Int)} (h : MayL l) (hl : l.length ≤ 1024) (r : List UInt8) : readS (packG l ++ r, 0) = ((r, 0), l) := by
  have h1 : atS (packG l ++ r, 0) 1024 = ((l.flatMap gBytes ++ r, 0), l.length) := by
    unfold packG
    rw [show clipN (l.length : Int) = l.length by unfold clipN; have : (1024 : Nat) ≤ top := by decide
                                                  omega, List.append_assoc]
    exact atS_back hl (by decide) _
  unfold readS
  rw [h1]
  simp only
  rw [rdN_back h r l.length (Nat.le_refl _), List.drop_of_length_le (Nat.le_refl _), List.take_of_length_le (Nat.le_refl _)]
  simp
end Go.Proofs.Ytjlljkdlgkociaa.K

/- What is true of all cells stays true of what the calls make; rows that are bounded. -/
namespace Go.Proofs.Ytjlljkdlgkociaa.K

def AllC (p : Cel → Prop) (l : List Cel) : Prop := ∀ c ∈ l, p c
section
variable {p : Cel → Prop}
theorem all_mendG (hb : ∀ s, p (blk s)) : ∀ (l : List Cel) (q : Bool), AllC p l → AllC p (mendG q l)
  | [], _, _ => fun _ hc => by cases hc
  | c :: t, q, hl => fun d hd => by
    rcases List.mem_cons.1 hd with rfl | hd
    · unfold fixC
      cases badC q c t
      · exact hl c (by simp)
      · exact hb _
    · exact all_mendG hb t _ (fun x hx => hl x (by simp [hx])) d hd
theorem all_mend (hb : ∀ s, p (blk s)) {l : List Cel} (hl : AllC p l) : AllC p (mend l) := all_mendG hb l false hl
theorem all_blanks (hb : ∀ s, p (blk s)) (n : Nat) (s : Int) : AllC p (blanks n s) := fun c hc => by rw [(List.mem_replicate.1 hc).2]; exact hb s
theorem all_append {a b : List Cel} (ha : AllC p a) (h : AllC p b) : AllC p (a ++ b) := fun c hc => by
  rcases List.mem_append.1 hc with hc | hc
  · exact ha c hc
  · exact h c hc
theorem all_take {l : List Cel} (h : AllC p l) (n : Nat) : AllC p (l.take n) := fun c hc => h c (List.mem_of_mem_take hc)
theorem all_resize (hb : ∀ s, p (blk s)) {r : Ro} (hl : AllC p r.l) (w : Int) : AllC p (resizeS r w).l := by
  unfold resizeS
  split
  · exact hl
  · exact all_mend hb (all_append (all_take hl _) (all_blanks hb _ _))
end
/-- a rune is one of 32 bits -/
def Rng (c : Cel) : Prop := -2147483648 ≤ c.rune ∧ c.rune ≤ 2147483647
theorem rng_blk (s : Int) : Rng (blk s) := ⟨by show (-2147483648 : Int) ≤ 32; decide, by show (32 : Int) ≤ 2147483647; decide⟩
/-- an act of the statements -/
structure ActR where
  kind : Int
  at_ : Int
  n : Int
  style : Int
  rune : Int
end Go.Proofs.Ytjlljkdlgkociaa.K
