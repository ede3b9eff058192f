/- The contracts of In's Raw and Text, of Few, and of Out.Text at a list that is empty. -/
import Derived.Test.YthhaefcglhghfaaOnly
import Derived.OwnWalk
import Derived.Maps.AppendAt
namespace Go.Proofs.Ythhaefcglhghfaa
open Go.RowKit

/-- What Raw does. -/
def rawS (l : List UInt8) (e : Nat) (n : Nat) : (List UInt8 × Nat) × List UInt8 := if l.length < n then (failS l e 2, []) else ((l.drop n, e), l.take n)
/-- A method's text, the In behind it, and all else as it was. -/
def TookS (p : Nat) (b : List UInt8) (st : List UInt8 × Nat) (w : World) (e : Ending) (w' : World) : Prop := ∃ t : ByteArray, e = .returned (.string t) ∧ t.data.toList = b ∧ InSt p st.1 st.2 w' ∧ w.grownBy w' (some p)
set_option maxHeartbeats 400000 in
theorem inraw_any (p : Nat) (l : List UInt8) (e : Nat) (n : Int) (w : World) (h : InSt p l e w) : Calls Try.prog 23 #[.pointer (some ⟨p, 0, none⟩), .int .i64 n] w (TookS p (rawS l e n.toNat).2 (rawS l e n.toNat).1 w) := by
  have hst := h
  obtain ⟨s, hb, hl, hs⟩ := h
  have c0 := hb.c0
  have f0 := hb.fr 0
  have hlen := inst_len hl
  have HB := Lib.hid hb
  have HL := Lib.hid hl
  have H2 := Lib.hid (fail_any p l e 2 w hst)
  clear hb hl hst
  rcases Int.lt_or_le n 0 with hn | hn
  · have hr : rawS l e n.toNat = ((l, e), []) := by rw [show n.toNat = 0 from by omega]; simp [rawS]
    rw [hr]
    clear hr hlen
    go_enter Try.func23, Try.ntmps23
    go_wp2
    go_ret
    refine ⟨_, rfl, by simp, ⟨_, HB.out.set0 _, ?_, ?_⟩, grown_set _ _ _ _⟩
    · first | exact HL.out | (rw [← HL.out]; simp)
    · first | exact hs | (simp; omega)
  · obtain ⟨m, rfl⟩ := Int.eq_ofNat_of_zero_le hn
    rw [Int.toNat_natCast]
    by_cases hlt : s.size < m
    · have hr : rawS l e m = (failS l e 2, []) := by unfold rawS; rw [if_pos (by omega)]
      rw [hr]
      clear hr hlen
      go_enter Try.func23, Try.ntmps23
      go_wp2_with (go_at_call 25; refine H2.out.mono ?_; rintro en w2 ⟨rfl, hi2, hg2⟩; have HI2 := Lib.hid hi2; have HG2 := Lib.hid hg2; clear hi2 hg2)
      go_ret
      exact ⟨_, rfl, rfl, HI2.out, HG2.out⟩
    · have hr : rawS l e m = ((l.drop m, e), l.take m) := by unfold rawS; rw [if_neg (by omega)]
      rw [hr]
      have hle : (m : Int) ≤ s.size := by omega
      clear hr hlen hlt
      go_enter Try.func23, Try.ntmps23
      go_wp2
      go_ret
      refine ⟨_, rfl, by rw [← HL.out]; simp, ⟨_, HB.out.set0 _, ?_, ?_⟩, grown_set _ _ _ _⟩
      · rw [← HL.out, ByteArray.data_extract]
        simp
        rw [List.take_of_length_le (by rw [List.length_drop]; exact Nat.le_refl _)]
      · simp; omega
/-- What Text does. -/
def textS (l : List UInt8) (e : Nat) : (List UInt8 × Nat) × List UInt8 := rawS (numS l e).1.1 (numS l e).1.2 (numS l e).2
theorem intext_any (p : Nat) (l : List UInt8) (e : Nat) (w : World) (h : InSt p l e w) : Calls Try.prog 21 #[.pointer (some ⟨p, 0, none⟩)] w (TookS p (textS l e).2 (textS l e).1 w) := by
  have H1 := Lib.hid (innum_any p l e w h)
  clear h
  go_enter Try.func21, Try.ntmps21
  go_wp2_with fail
  refine H1.out.mono ?_
  rintro en w1 ⟨rfl, hi1, hg1⟩
  have H2 := Lib.hid (inraw_any p _ _ (((numS l e).2 : Nat) : Int) w1 hi1)
  rw [Int.toNat_natCast] at H2
  have HG := Lib.hid hg1
  clear hi1 hg1
  go_wp2_with fail
  refine H2.out.mono ?_
  rintro en w2 ⟨t, rfl, ht, hi2, hg2⟩
  have HT := Lib.hid ht
  have HI := Lib.hid hi2
  have HG2 := Lib.hid hg2
  clear ht hi2 hg2
  go_wp2
  go_ret
  exact ⟨_, rfl, HT.out, HI.out, grown_trans HG.out HG2.out⟩
theorem textS_back (s : ByteArray) (r : List UInt8) (hs : (s.size : Int) ≤ 1000000) : textS (textB s ++ r) 0 = ((r, 0), s.data.toList) := by
  have hc : clipN (s.size : Int) = s.size := by unfold clipN top; simp; omega
  have hn : numS (textB s ++ r) 0 = ((s.data.toList ++ r, 0), s.size) := by
    unfold textB numS
    rw [hc, List.append_assoc, first_digs s.size _ (by unfold top; omega)]
    simp
  unfold textS
  rw [hn]
  unfold rawS
  have hsl : s.data.toList.length = s.size := rfl
  rw [if_neg (by simp), List.drop_left' hsl, List.take_left' hsl]
theorem text_zero (base B : Nat) (a : Option Addr) (cap : Nat) (bs : List UInt8) (w : World) (hO : OutAt base B bs w) :
    Calls Try.prog 14 #[.pointer (some ⟨B, 0, none⟩), .slice a 0 cap] w (Wrote base B bs w) := by
  go_enter Try.func14, Try.ntmps14
  go_wp2
  go_loop [9] (fun i => i = .int .i64 0) (fun _ => 0)
  case atStart => rfl
  case round =>
    subst hrel
    go_wp2
    go_ret
    exact ⟨rfl, hO, Below.refl _ _, Keeps.refl _ _⟩

theorem info9 : (Try.prog.info? 9).map (fun i => (i.zero, i.size, i.bytes)) = some (some (.string ⟨#[]⟩), 1, 16) := by kernel_rfl
/-- v is a slice of the call's own that holds the texts ts, each of at most m bytes. -/
def OwnS (base m : Nat) (w : World) (v : Value) (ts : List ByteArray) : Prop := w.ownsRow base 9 1 v ts.length (ts.map Value.string) ∧ ∀ t ∈ ts, (t.size : Int) ≤ m
def FewPost (n m : Nat) (w : World) (e : Ending) (w' : World) : Prop := ∃ v ts, e = .returned v ∧ OwnS w.heap.size m w' v ts ∧ (ts.length : Int) ≤ n ∧ Below w.heap.size w w'

set_option maxHeartbeats 1000000 in
theorem few_some (n m : Nat) (hn : (n : Int) ≤ 100) (hm : (m : Int) ≤ 1000) (ss : List ByteArray) (b off len cap : Nat) (w : World) (hlen : (len : Int) ≤ 9223372036854775807) (hls : len ≤ ss.length) (hsz : ∀ i, ((ss.getD i ByteArray.empty).size : Int) ≤ 9223372036854775807)
    (hcell : Strs w b off ss) :
    Calls Try.prog 30 #[.slice (some ⟨b, off, none⟩) len cap, .int .i64 n, .int .i64 m] w (FewPost n m w) := by
  have HC := Lib.hid hcell
  have HZ := Lib.hid hsz
  clear hcell hsz
  obtain ⟨i0, hi, hz0, hz1, hz2⟩ := info_parts info9
  go_enter Try.func30, Try.ntmps30
  go_wp2
  go_loopw [7, 8] (fun v i wr => ∃ k : Nat, ∃ ts : List ByteArray, k ≤ len ∧ k ≤ n ∧ i = .int .i64 k ∧ ts.length = k ∧ OwnS w.heap.size m wr v ts ∧ Below w.heap.size w wr) (fun _ i _ => len - (intOf i).toNat)
  case atStart => exact ⟨0, [], by omega, by omega, rfl, rfl, ⟨World.ownsRow_nil _ _ _ _, by simp⟩, Below.refl _ _⟩
  case round =>
    obtain ⟨k, ts, hk, hk5, rfl, htl, ⟨hrow, hts⟩, hB⟩ := hrel
    rw [htl] at hrow
    have HL := Lib.hid htl
    have HTS := Lib.hid hts
    clear htl hts
    have hle := hB.size
    by_cases hlt : k < len
    · by_cases hlt5 : k < n
      · have hc0 := HC.out k (by omega)
        have hb0 : b < w.heap.size := World.block_lt_of_cell? w _ hc0
        have hc := (hB.cell (p := ⟨b, off + k, none⟩) hb0).trans hc0
        have hz := HZ.out k
        obtain ⟨s, hs⟩ : ∃ s, ss.getD k ByteArray.empty = s := ⟨_, rfl⟩
        rw [hs] at hc hz
        clear hc0 hs
        have HBw := Lib.hid hB
        clear hB
        go_wp2_with (first | (go_at_call 10; refine (cut_any s m hz hm _).mono ?_; rintro e w' ⟨⟨t, rfl, hts, htl⟩, rfl⟩; clear htl) | (at_builtin; refine wpList_append_own _ rfl _ _ 57 rfl w.heap.size 9 i0 (.string ⟨#[]⟩) 1 16 Try.underlying57 hi hz0 hz1 hz2 rfl (by decide) _ _ _ rfl (hrow.alloc _) ⟨wr.heap.size, 0, none⟩ 1 1 [.string t] rfl rfl ?c1 ?c2 ?c3 ?c4 ?c5 ?_))
        case c1 => exact cell_one_new _ _ _
        case c2 => simp [Value.oneCell']
        case c3 => unfold maxLen; omega
        case c4 => omega
        case c5 => simp; omega
        intro v' w1 hown' hgrow _
        have hB1 : Below w.heap.size w w1 := (HBw.out.alloc hle _).grown hgrow (by simp; omega) (fun j hj => (hrow.lt j hj).1)
        have HR := Lib.hid hown'
        have HB1 := Lib.hid hB1
        clear hown' hgrow hB1 hrow
        go_wp2
        go_roundw
        case rel => exact ⟨k + 1, ts ++ [t], by omega, by omega, by go_num, by simp [HL.out], ⟨by have h := HR.out; simpa [HL.out] using h, fun x hx => by rcases List.mem_append.1 hx with h | h; exact HTS.out x h; obtain rfl := List.mem_singleton.1 h; exact hts⟩, HB1.out⟩
        case measure => simp [intOf]; omega
      · have HBw := Lib.hid hB
        have HR := Lib.hid hrow
        clear hB hrow
        go_wp2
        go_ret
        exact ⟨_, ts, rfl, ⟨by rw [HL.out]; exact HR.out, HTS.out⟩, by rw [HL.out]; omega, HBw.out⟩
    · have HBw := Lib.hid hB
      have HR := Lib.hid hrow
      clear hB hrow
      go_wp2
      go_ret
      exact ⟨_, ts, rfl, ⟨by rw [HL.out]; exact HR.out, HTS.out⟩, by rw [HL.out]; omega, HBw.out⟩
theorem few_none (n m : Nat) (a : Option Addr) (cap : Nat) (w : World) :
    Calls Try.prog 30 #[.slice a 0 cap, .int .i64 n, .int .i64 m] w (FewPost n m w) := by
  go_enter Try.func30, Try.ntmps30
  go_wp2
  go_loop [7, 8] (fun v i => v = .slice none 0 0 ∧ i = .int .i64 0) (fun _ _ => 0)
  case atStart => exact ⟨rfl, rfl⟩
  case round =>
    obtain ⟨rfl, rfl⟩ := hrel
    go_wp2
    go_ret
    exact ⟨_, [], rfl, ⟨World.ownsRow_nil _ _ _ _, by simp⟩, by simp, Below.refl _ _⟩
theorem OwnS.split {base m : Nat} {w : World} {v : Value} {ts : List ByteArray} (h : OwnS base m w v ts) : (v = .slice none 0 0 ∧ ts = []) ∨ ∃ g cap cur, v = .slice (some ⟨g, 0, none⟩) ts.length cap ∧ w.heap[g]? = some (.cells cur 9 (0, 0)) ∧ base ≤ g ∧ Strs w g 0 ts := by
  obtain ⟨hr, _⟩ := h
  rcases hr.2 with ⟨hv, h0⟩ | ⟨g, cap, cur, hv, hb, hg, _, _, _, _⟩
  · exact .inl ⟨hv, List.length_eq_zero_iff.1 h0⟩
  · refine .inr ⟨g, cap, cur, hv, hg, hb, fun i hi => ?_⟩
    have hc := hr.cells (g := g) (by rw [hv]; rfl) i (.string (ts.getD i ByteArray.empty)) (by simp [hi])
    have hadd : (⟨g, 0, none⟩ : Addr).add i = ⟨g, 0 + i, none⟩ := by unfold Addr.add; split <;> simp_all
    rwa [hadd] at hc
theorem size_getD {m : Nat} {ts : List ByteArray} (h : ∀ t ∈ ts, (t.size : Int) ≤ m) (i : Nat) : ((ts.getD i ByteArray.empty).size : Int) ≤ m := by
  by_cases hi : i < ts.length
  · have : ts.getD i ByteArray.empty = ts[i] := by simp [hi]
    rw [this]
    exact h _ (List.getElem_mem hi)
  · have : ts.getD i ByteArray.empty = ByteArray.empty := by simp; rw [List.getElem?_eq_none (by omega)]; rfl
    rw [this]
    show ((0 : Nat) : Int) ≤ m
    omega
end Go.Proofs.Ythhaefcglhghfaa
