/- The contracts of In's Raw and Text, of Few, and of Out.Text at a list that is empty. -/
import Derived.Test.YtghnkpfnpidncaaDoorISmall
import Derived.OwnWalk
import Derived.Maps.AppendAt
namespace Go.Proofs.YtghnkpfnpidncaaDoor.I
open Go.RowKit

/-- What Raw does. -/
def rawS (l : List UInt8) (e : Nat) (n : Nat) : (List UInt8 × Nat) × List UInt8 := if l.length < n then (failS l e 2, []) else ((l.drop n, e), l.take n)
/-- A method's text, the In behind it, and all else as it was. -/
def TookS (p : Nat) (b : List UInt8) (st : List UInt8 × Nat) (w : World) (e : Ending) (w' : World) : Prop := ∃ t : ByteArray, e = .returned (.string t) ∧ t.data.toList = b ∧ InSt p st.1 st.2 w' ∧ w.grownBy w' (some p)
set_option maxHeartbeats 400000 in
theorem inraw_any (p : Nat) (l : List UInt8) (e : Nat) (n : Int) (w : World) (h : InSt p l e w) : Calls Tryd.prog 72 #[.pointer (some ⟨p, 0, none⟩), .int .i64 n] w (TookS p (rawS l e n.toNat).2 (rawS l e n.toNat).1 w) := by
  have hst := h
  obtain ⟨s, hb, hl, hs⟩ := h
  have c0 := hb.c0
  have f0 := hb.fr 0
  have hlen := inst_len hl
  have HB := Lib.hid hb
  have HL := Lib.hid hl
  have H2 := Lib.hid (fail_any p l e 2 w hst)
  clear hb hl hst
  rcases Int.lt_or_le n 0 with hn | hn
  · have hr : rawS l e n.toNat = ((l, e), []) := by rw [show n.toNat = 0 from by omega]; simp [rawS]
    rw [hr]
    clear hr hlen
    go_enter Tryd.func72, Tryd.ntmps72
    go_wp2
    go_ret
    refine ⟨_, rfl, by simp, ⟨_, HB.out.set0 _, ?_, ?_⟩, grown_set _ _ _ _⟩
    · first | exact HL.out | (rw [← HL.out]; simp)
    · first | exact hs | (simp; omega)
  · obtain ⟨m, rfl⟩ := Int.eq_ofNat_of_zero_le hn
    rw [Int.toNat_natCast]
    by_cases hlt : s.size < m
    · have hr : rawS l e m = (failS l e 2, []) := by unfold rawS; rw [if_pos (by omega)]
      rw [hr]
      clear hr hlen
      go_enter Tryd.func72, Tryd.ntmps72
      go_wp2_with (go_at_call 58; refine H2.out.mono ?_; rintro en w2 ⟨rfl, hi2, hg2⟩; have HI2 := Lib.hid hi2; have HG2 := Lib.hid hg2; clear hi2 hg2)
      go_ret
      exact ⟨_, rfl, rfl, HI2.out, HG2.out⟩
    · have hr : rawS l e m = ((l.drop m, e), l.take m) := by unfold rawS; rw [if_neg (by omega)]
      rw [hr]
      have hle : (m : Int) ≤ s.size := by omega
      clear hr hlen hlt
      go_enter Tryd.func72, Tryd.ntmps72
      go_wp2
      go_ret
      refine ⟨_, rfl, by rw [← HL.out]; simp, ⟨_, HB.out.set0 _, ?_, ?_⟩, grown_set _ _ _ _⟩
      · rw [← HL.out, ByteArray.data_extract]
        simp
        rw [List.take_of_length_le (by rw [List.length_drop]; exact Nat.le_refl _)]
      · simp; omega
/-- What Text does. -/
def textS (l : List UInt8) (e : Nat) : (List UInt8 × Nat) × List UInt8 := rawS (numS l e).1.1 (numS l e).1.2 (numS l e).2
theorem intext_any (p : Nat) (l : List UInt8) (e : Nat) (w : World) (h : InSt p l e w) : Calls Tryd.prog 59 #[.pointer (some ⟨p, 0, none⟩)] w (TookS p (textS l e).2 (textS l e).1 w) := by
  have H1 := Lib.hid (innum_any p l e w h)
  clear h
  go_enter Tryd.func59, Tryd.ntmps59
  go_wp2_with fail
  refine H1.out.mono ?_
  rintro en w1 ⟨rfl, hi1, hg1⟩
  have H2 := Lib.hid (inraw_any p _ _ (((numS l e).2 : Nat) : Int) w1 hi1)
  rw [Int.toNat_natCast] at H2
  have HG := Lib.hid hg1
  clear hi1 hg1
  go_wp2_with fail
  refine H2.out.mono ?_
  rintro en w2 ⟨t, rfl, ht, hi2, hg2⟩
  have HT := Lib.hid ht
  have HI := Lib.hid hi2
  have HG2 := Lib.hid hg2
  clear ht hi2 hg2
  go_wp2
  go_ret
  exact ⟨_, rfl, HT.out, HI.out, grown_trans HG.out HG2.out⟩
theorem textS_back (s : ByteArray) (r : List UInt8) (hs : (s.size : Int) ≤ 1000000) : textS (textB s ++ r) 0 = ((r, 0), s.data.toList) := by
  have hc : clipN (s.size : Int) = s.size := by unfold clipN top; simp; omega
  have hn : numS (textB s ++ r) 0 = ((s.data.toList ++ r, 0), s.size) := by
    unfold textB numS
    rw [hc, List.append_assoc, first_digs s.size _ (by unfold top; omega)]
    simp
  unfold textS
  rw [hn]
  unfold rawS
  have hsl : s.data.toList.length = s.size := rfl
  rw [if_neg (by simp), List.drop_left' hsl, List.take_left' hsl]
theorem text_zero (base B : Nat) (a : Option Addr) (cap : Nat) (bs : List UInt8) (w : World) (hO : OutAt base B bs w) :
    Calls Tryd.prog 28 #[.pointer (some ⟨B, 0, none⟩), .slice a 0 cap] w (Wrote base B bs w) := by
  go_enter Tryd.func28, Tryd.ntmps28
  go_wp2
  go_loop [9] (fun i => i = .int .i64 0) (fun _ => 0)
  case atStart => rfl
  case round =>
    subst hrel
    go_wp2
    go_ret
    exact ⟨rfl, hO, Below.refl _ _, Keeps.refl _ _⟩

theorem info9 : (Tryd.prog.info? 9).map (fun i => (i.zero, i.size, i.bytes)) = some (some (.string ⟨#[]⟩), 1, 16) := by kernel_rfl
theorem beq_lists {a b : ByteArray} (h : a.data.toList = b.data.toList) : (a.toList == b.toList) = true := by
  rw [ByteArray.toList_eq, ByteArray.toList_eq, h]; simp
theorem textB_len (s : ByteArray) : (textB s).length ≤ 9 + s.size := by
  have h := digs_nine (clipN s.size) (clipN_le _)
  have hsl : s.data.toList.length = s.size := rfl
  unfold textB
  rw [List.length_append]
  omega
theorem textsOf_len {m : Nat} : ∀ (ts : List ByteArray), (∀ t ∈ ts, (t.size : Int) ≤ m) → (textsOf ts).length ≤ (9 + m) * ts.length
  | [], _ => by simp [textsOf]
  | t :: ts, h => by
    have h1 := textsOf_len ts (fun x hx => h x (List.mem_cons_of_mem _ hx))
    have h2 := textB_len t
    have h3 := h t List.mem_cons_self
    have e : textsOf (t :: ts) = textB t ++ textsOf ts := by simp [textsOf]
    rw [e, List.length_append, List.length_cons, Nat.mul_add, Nat.mul_one]
    omega
theorem textsOf_drop (ts : List ByteArray) (k : Nat) (h : k < ts.length) : textsOf (ts.drop k) = textB (ts.getD k ByteArray.empty) ++ textsOf (ts.drop (k + 1)) := by
  unfold textsOf
  rw [List.drop_eq_getElem_cons h, List.flatMap_cons]
  simp [h]
theorem InSt.grown {p : Nat} {l : List UInt8} {e : Nat} {w w' : World} {row : Option Nat} (h : InSt p l e w) (hg : w.grownBy w' row) (hne : some p ≠ row) : InSt p l e w' := by
  obtain ⟨s, hb, hl, hs⟩ := h
  exact ⟨s, (hg.block p hb.lt hne).trans hb, hl, hs⟩

end Go.Proofs.YtghnkpfnpidncaaDoor.I
