/- The contracts of Slot's Key, Count, Forget, Put. -/
import Derived.Test.YtghnkpfnpidncaaDoorPSlot
namespace Go.Proofs.YtghnkpfnpidncaaDoor.P
open Go.RowKit Go.Shelf


/-- Where Put is left. -/
def PutPost (p : Nat) (mo : Option Nat) (r : (Int × PL) × Int) (w : World) (e : Ending) (w' : World) : Prop :=
  e = .returned (.int .i64 r.2) ∧ ∃ mo', SlotAt p mo' r.1.1 r.1.2 w' ∧ (mo' = mo ∨ ∃ b, mo' = some b ∧ w.heap.size ≤ b) ∧ Turned p mo w w'
theorem putPost_same {p : Nat} {mo : Option Nat} {k : Int} {L : PL} {w : World} {x : Int} (h : SlotAt p mo k L w) {r : (Int × PL) × Int} (hr : r = ((k, L), x)) : PutPost p mo r w (.returned (.int .i64 x)) w := by
  subst hr
  exact ⟨rfl, mo, h, .inl rfl, Turned.refl _ _ _⟩
set_option maxRecDepth 100000 in
theorem put_arg (p : Nat) (mo : Option Nat) (k : Int) (L : PL) (key index count : Int) (d : ByteArray) (w : World) (h : SlotAt p mo k L w) (hbad : count < 1 ∨ 4096 < count ∨ index < 0 ∨ count ≤ index ∨ key < 1) :
    Calls Tryd.prog 23 #[.pointer (some ⟨p, 0, none⟩), .int .i64 key, .int .i64 index, .int .i64 count, .string d] w (PutPost p mo (putS k L key index count (bl d)) w) := by
  have hr : putS k L key index count (bl d) = ((k, L), 6) := by unfold putS; rw [if_pos hbad]
  have HR := Lib.hid (putPost_same h hr)
  clear h hr
  by_cases h1 : count < 1
  · go_enter Tryd.func23, Tryd.ntmps23
    go_wp2
    go_ret
    exact HR.out
  by_cases h2 : 4096 < count
  · go_enter Tryd.func23, Tryd.ntmps23
    go_wp2
    go_ret
    exact HR.out
  by_cases h3 : index < 0
  · go_enter Tryd.func23, Tryd.ntmps23
    go_wp2
    go_ret
    exact HR.out
  by_cases h4 : count ≤ index
  · go_enter Tryd.func23, Tryd.ntmps23
    go_wp2
    go_ret
    exact HR.out
  have h5 : key < 1 := by omega
  clear hbad
  go_enter Tryd.func23, Tryd.ntmps23
  go_wp2
  go_ret
  exact HR.out
set_option maxRecDepth 100000 in
theorem put_old (p : Nat) (mo : Option Nat) (k : Int) (L : PL) (key index count : Int) (d : ByteArray) (w : World) (h : SlotAt p mo k L w) (h1 : 1 ≤ count) (h2 : count ≤ 4096) (h3 : 0 ≤ index) (h4 : index < count) (h5 : 1 ≤ key) (h6 : key < k) :
    Calls Tryd.prog 23 #[.pointer (some ⟨p, 0, none⟩), .int .i64 key, .int .i64 index, .int .i64 count, .string d] w (PutPost p mo (putS k L key index count (bl d)) w) := by
  have hr : putS k L key index count (bl d) = ((k, L), 8) := by unfold putS; rw [if_neg (by omega), if_pos h6]
  have HR := Lib.hid (putPost_same h hr)
  have hc := h.cells.1
  clear h hr
  go_enter Tryd.func23, Tryd.ntmps23
  go_wp2
  go_ret
  exact HR.out
set_option maxRecDepth 100000 in
theorem put_count (p : Nat) (mo : Option Nat) (k : Int) (L : PL) (key index count : Int) (d : ByteArray) (w : World) (h : SlotAt p mo k L w) (h1 : 1 ≤ count) (h2 : count ≤ 4096) (h3 : 0 ≤ index) (h4 : index < count) (h5 : 1 ≤ key) (h6 : key = k) (h7 : count ≠ L.length) :
    Calls Tryd.prog 23 #[.pointer (some ⟨p, 0, none⟩), .int .i64 key, .int .i64 index, .int .i64 count, .string d] w (PutPost p mo (putS k L key index count (bl d)) w) := by
  subst h6
  have hr : putS key L key index count (bl d) = ((key, L), 1) := by unfold putS; rw [if_neg (by omega), if_neg (by omega), if_neg (by omega), if_pos h7]
  have HR := Lib.hid (putPost_same h hr)
  have hc := h.cells.1
  have hc1 := h.cells.2.1
  obtain ⟨N, hN⟩ : ∃ N, L.length = N := ⟨_, rfl⟩
  rw [hN] at hc1 h7
  have hne : (count == (N : Int)) = false := by simpa using h7
  have hne2 : (count != (N : Int)) = true := by simpa using h7
  clear h hr hN h7
  go_enter Tryd.func23, Tryd.ntmps23
  go_wp2
  go_ret
  exact HR.out
set_option maxRecDepth 100000 in
theorem put_there (p : Nat) (b : Nat) (k : Int) (L : PL) (key : Int) (index : Nat) (count : Nat) (d : ByteArray) (w : World) (h : SlotAt p (some b) k L w) (h4 : index < count) (h5 : 1 ≤ key) (h6 : key = k) (h7 : count = L.length) (u : List UInt8) (h8 : L.getD index none = some u) :
    Calls Tryd.prog 23 #[.pointer (some ⟨p, 0, none⟩), .int .i64 key, .int .i64 (index : Int), .int .i64 (count : Int), .string d] w (PutPost p (some b) (putS k L key index count (bl d)) w) := by
  subst h6
  have hlen := h.len_le
  have hr : putS key L key index count (bl d) = ((key, L), 0) := by unfold putS; rw [if_neg (by omega), if_neg (by omega), if_neg (by omega), if_neg (by omega), Int.toNat_natCast, h8]
  obtain ⟨s, hrun, _⟩ := h.2.2.2.look2 (i := index) (by omega) hlen
  rw [h8] at hrun
  have hb : Below w.heap.size w (w.alloc (.cells #[.string s] 88)) := (Below.refl _ _).alloc (Nat.le_refl _) _
  have HR : Hid (PutPost p (some b) (putS key L key index count (bl d)) w (.returned (.int .i64 0)) (w.alloc (.cells #[.string s] 88))) := Lib.hid (by rw [hr]; exact ⟨rfl, some b, h.belowAll hb, .inl rfl, Turned.of_below hb⟩)
  have hc := h.cells.1
  have hc1 := h.cells.2.1
  have hc2 := h.cells.2.2
  rw [← h7] at hc1 hlen
  have hlen' : (count : Int) ≤ 4096 := by omega
  have hc1' : (1 : Int) ≤ count := by omega
  have hi0 : (0 : Int) ≤ index := by omega
  have hic : (index : Int) < count := by omega
  simp only [Option.isSome_some] at hrun
  clear h hr hb h7 h8 hlen h4
  go_enter Tryd.func23, Tryd.ntmps23
  go_wp2
  go_ret
  exact HR.out
theorem run_build56 (w : World) (s : ByteArray) : (Instr.build 88 #[(0, .string s)]).run Tryd.prog w = .ok (.agg #[.string s]) w := by kernel_rfl
set_option maxRecDepth 100000 in
theorem put_new (p : Nat) (b : Nat) (k : Int) (L : PL) (key : Int) (index : Nat) (count : Nat) (d : ByteArray) (w : World) (h : SlotAt p (some b) k L w) (hpb : p ≠ b) (h4 : index < count) (h5 : 1 ≤ key) (h6 : key = k) (h7 : count = L.length) (h8 : L.getD index none = none) :
    Calls Tryd.prog 23 #[.pointer (some ⟨p, 0, none⟩), .int .i64 key, .int .i64 (index : Int), .int .i64 (count : Int), .string d] w (PutPost p (some b) (putS k L key index count (bl d)) w) := by
  subst h6
  have hlen := h.len_le
  have hr : putS key L key index count (bl d) = ((key, L.set index (some (bl d))), 0) := by unfold putS; rw [if_neg (by omega), if_neg (by omega), if_neg (by omega), if_neg (by omega), Int.toNat_natCast, h8]
  obtain ⟨s, hrun, _⟩ := h.2.2.2.look2 (i := index) (by omega) hlen
  rw [h8] at hrun
  have hb : Below w.heap.size w (w.alloc (.cells #[.string s] 88)) := (Below.refl _ _).alloc (Nat.le_refl _) _
  have ha := h.belowAll hb
  obtain ⟨w2, hrun2, hm2, hg2⟩ := ha.2.2.2.put (i := index) (by omega) hlen h8 d
  have HR : Hid (PutPost p (some b) (putS key L key index count (bl d)) w (.returned (.int .i64 0)) w2) := Lib.hid (by
    rw [hr]
    refine ⟨rfl, some b, ⟨?_, ?_, h5, hm2⟩, .inl rfl, ?_⟩
    · rw [List.length_set]; exact (hg2.block p ha.lt (by intro e; cases e; exact hpb rfl)).trans ha.1
    · have := putS_sound h.2.1 key index count (bl d); rw [hr] at this; exact this
    · exact ⟨hg2.os, hg2.tape, hg2.output, Nat.le_trans (by simp) hg2.size, fun j hj h1 h2 => (hg2.block j (by simp; omega) h2).trans (hb.block j hj)⟩)
  have hc := h.cells.1
  have hc1 := h.cells.2.1
  have hc2 := h.cells.2.2
  have hd2 := ha.cells.2.2
  rw [← h7] at hc1 hlen
  have hlen' : (count : Int) ≤ 4096 := by omega
  have hc1' : (1 : Int) ≤ count := by omega
  have hi0 : (0 : Int) ≤ index := by omega
  have hic : (index : Int) < count := by omega
  simp only [Option.isSome_none] at hrun
  clear h hr hb h7 h8 hlen h4 ha hm2 hg2
  go_enter Tryd.func23, Tryd.ntmps23
  go_wp2
  go_ret
  exact HR.out
/-- the world in which a new message's map is laid into the slot -/
def laid (p : Nat) (key : Int) (count : Nat) (w : World) : World := (((w.setCell ⟨p, 0, none⟩ (.int .i64 key)).setCell ⟨p, 1, none⟩ (.int .i64 (count : Int))).setCell ⟨p, 2, none⟩ (.map (some w.heap.size))).alloc (.map #[] 0)
theorem size_setCell (w : World) (a : Addr) (v : Value) : (w.setCell a v).heap.size = w.heap.size := by simp [World.setCell]
set_option maxRecDepth 100000 in
theorem laid_slot {p : Nat} {mo : Option Nat} {k : Int} {L : PL} {w : World} (h : SlotAt p mo k L w) {key : Int} {count : Nat} (hk : 1 ≤ key) (h1 : 1 ≤ count) (h2 : count ≤ 4096) :
    SlotAt p (some w.heap.size) key (List.replicate count none) (laid p key count w) ∧ Turned p mo w (laid p key count w) := by
  have hp := h.lt
  obtain ⟨w3, hw3⟩ : ∃ w3, ((w.setCell ⟨p, 0, none⟩ (.int .i64 key)).setCell ⟨p, 1, none⟩ (.int .i64 (count : Int))).setCell ⟨p, 2, none⟩ (.map (some w.heap.size)) = w3 := ⟨_, rfl⟩
  have hs3 : w3.heap.size = w.heap.size := by rw [← hw3, size_setCell, size_setCell, size_setCell]
  have hl : laid p key count w = w3.alloc (.map #[] 0) := by unfold laid; rw [hw3]
  have hblk : ∀ j, j ≠ p → w3.heap[j]? = w.heap[j]? := fun j hj => by
    rw [← hw3, Below.heap_setCell _ _ _ _ hj, Below.heap_setCell _ _ _ _ hj, Below.heap_setCell _ _ _ _ hj]
  have h3 : w3.heap[p]? = some (.cells #[.int .i64 key, .int .i64 (count : Int), .map (some w.heap.size)] 55 (0, 0)) := by
    rw [← hw3]
    simp [World.setCell, Array.getElem?_modify, h.1]
  have hos : w3.os = w.os ∧ w3.tape = w.tape ∧ w3.output = w.output := by rw [← hw3]; exact ⟨rfl, rfl, rfl⟩
  rw [hl]
  have hm := MapAt.made w3 count
  rw [hs3] at hm
  refine ⟨⟨?_, .inr ⟨hk, by simpa using h1, by simpa using h2⟩, hk, hm⟩, ?_⟩
  · rw [List.length_replicate]
    exact (Below.heap_alloc _ _ _ (by omega)).trans h3
  · exact ⟨hos.1, hos.2.1, hos.2.2, by simp; omega, fun j hj h1 _ => (Below.heap_alloc _ _ _ (by omega)).trans (hblk j h1)⟩
set_option maxRecDepth 100000 in
set_option maxHeartbeats 1000000 in
theorem put_fresh (p : Nat) (mo : Option Nat) (k : Int) (L : PL) (key : Int) (index : Nat) (count : Nat) (d : ByteArray) (w : World) (h : SlotAt p mo k L w) (h2 : count ≤ 4096) (h4 : index < count) (h5 : 1 ≤ key) (h6 : k < key) :
    Calls Tryd.prog 23 #[.pointer (some ⟨p, 0, none⟩), .int .i64 key, .int .i64 (index : Int), .int .i64 (count : Int), .string d] w (PutPost p mo (putS k L key index count (bl d)) w) := by
  have hr : putS k L key index count (bl d) = ((key, (List.replicate count none).set index (some (bl d))), 0) := by unfold putS; rw [if_neg (by omega), if_neg (by omega), if_pos h6, Int.toNat_natCast, Int.toNat_natCast]
  have hp := h.lt
  obtain ⟨hs1, ht1⟩ := laid_slot h (count := count) h5 (by omega) h2
  obtain ⟨w1, hw1⟩ : ∃ w1, laid p key count w = w1 := ⟨_, rfl⟩
  rw [hw1] at hs1 ht1
  have h8 : (List.replicate count (none : Option (List UInt8))).getD index none = none := by simp [List.getD_eq_getElem?_getD, h4]
  have hlr : (List.replicate count (none : Option (List UInt8))).length = count := List.length_replicate ..
  obtain ⟨s, hrun, _⟩ := hs1.2.2.2.look2 (i := index) (by omega) (by omega)
  rw [h8] at hrun
  have hb : Below w1.heap.size w1 (w1.alloc (.cells #[.string s] 88)) := (Below.refl _ _).alloc (Nat.le_refl _) _
  have ha := hs1.belowAll hb
  obtain ⟨w2, hrun2, hm2, hg2⟩ := ha.2.2.2.put (i := index) (by omega) (by omega) h8 d
  have hsz : w.heap.size ≤ w1.heap.size := ht1.size
  have HR : Hid (PutPost p mo (putS k L key index count (bl d)) w (.returned (.int .i64 0)) w2) := Lib.hid (by
    rw [hr]
    refine ⟨rfl, some w.heap.size, ⟨?_, ?_, h5, hm2⟩, .inr ⟨_, rfl, Nat.le_refl _⟩, ?_⟩
    · rw [List.length_set]; exact (hg2.block p ha.lt (by intro e; cases e; omega)).trans ha.1
    · right; simp; omega
    · refine ⟨hg2.os.trans ht1.os, hg2.tape.trans ht1.tape, hg2.output.trans ht1.output, Nat.le_trans hsz (Nat.le_trans (by simp) hg2.size), fun j hj h1 h2 => ?_⟩
      exact (hg2.block j (by simp; omega) (by intro e; cases e; omega)).trans ((hb.block j (by omega)).trans (ht1.block j hj h1 h2)))
  have hc := h.cells.1
  have hc1 := h.cells.2.1
  have hc2 := h.cells.2.2
  have hf0 := h.frozen 0
  have hf1 := h.frozen 1
  have hf2 := h.frozen 2
  have hd2 := hs1.cells.2.2
  have he2 := ha.cells.2.2
  have hmm := @run_makeMap Tryd.prog
  have hlen' : (count : Int) ≤ 4096 := by omega
  have hc1' : (1 : Int) ≤ count := by omega
  have hi0 : (0 : Int) ≤ index := by omega
  have hic : (index : Int) < count := by omega
  simp only [Option.isSome_none] at hrun
  clear h hr hb h2 h8 h4 ha hm2 hg2 hs1 ht1 hlr hsz
  unfold laid at hw1
  go_enter Tryd.func23, Tryd.ntmps23
  go_wp2
  go_ret
  exact HR.out
theorem SlotAt.ne {p : Nat} {b : Nat} {k : Int} {L : PL} {w : World} (h : SlotAt p (some b) k L w) : p ≠ b := by
  obtain ⟨D, ⟨es, clock, hb, _⟩, _⟩ := h.2.2.2
  intro e
  subst e
  rw [h.1] at hb
  cases hb
theorem put_any (p : Nat) (mo : Option Nat) (k : Int) (L : PL) (key index count : Int) (d : ByteArray) (w : World) (h : SlotAt p mo k L w) :
    Calls Tryd.prog 23 #[.pointer (some ⟨p, 0, none⟩), .int .i64 key, .int .i64 index, .int .i64 count, .string d] w (PutPost p mo (putS k L key index count (bl d)) w) := by
  by_cases hbad : count < 1 ∨ 4096 < count ∨ index < 0 ∨ count ≤ index ∨ key < 1
  · exact put_arg p mo k L key index count d w h hbad
  obtain ⟨ix, rfl⟩ := Int.eq_ofNat_of_zero_le (show 0 ≤ index by omega)
  obtain ⟨ct, rfl⟩ := Int.eq_ofNat_of_zero_le (show 0 ≤ count by omega)
  rcases Int.lt_trichotomy key k with hk | hk | hk
  · exact put_old p mo k L key ix ct d w h (by omega) (by omega) (by omega) (by omega) (by omega) hk
  · by_cases hc : (ct : Int) ≠ L.length
    · exact put_count p mo k L key ix ct d w h (by omega) (by omega) (by omega) (by omega) (by omega) hk hc
    · cases mo with
      | none =>
        exfalso
        have h2 : L = [] := h.2.2
        rw [h2] at hc
        simp at hc
        omega
      | some b =>
        cases h8 : L.getD ix none with
        | some u => exact put_there p b k L key ix ct d w h (by omega) (by omega) hk (by omega) u h8
        | none => exact put_new p b k L key ix ct d w h h.ne (by omega) (by omega) hk (by omega) h8
  · exact put_fresh p mo k L key ix ct d w h (by omega) (by omega) (by omega) hk
end Go.Proofs.YtghnkpfnpidncaaDoor.P
