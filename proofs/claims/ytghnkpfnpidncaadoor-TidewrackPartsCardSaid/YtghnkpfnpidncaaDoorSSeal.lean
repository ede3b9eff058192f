/- Contracts of sum.tail, Cut, sum.Seal and sum.Open, in a world that holds the table. -/
import Derived.Test.YtghnkpfnpidncaaDoorSOf
import Derived.Below
import Derived.Deep.RegionWith
import Derived.Laws.IdiomStrings
namespace Go.Proofs.YtghnkpfnpidncaaDoor.S
open Go.RowKit

def tl (C : Nat) : List UInt8 := [UInt8.ofNat (C % 256), UInt8.ofNat (C / 256 % 256), UInt8.ofNat (C / 65536 % 256), UInt8.ofNat (C / 16777216)]
theorem cell_alloc_new (w : World) (cs : Array Value) (t : TypeId) (j : Nat) : (w.alloc (.cells cs t)).cell? ⟨w.heap.size, j, none⟩ = cs[j]? := World.cell?_alloc_new ..

theorem tab_of {w w' : World} (h : Tab w) (hb : Below w.heap.size w w') : Tab w' := fun j hj => by
  have hc := h j hj
  have hl := World.block_lt_of_cell? w _ hc
  exact (hb.cell (p := ⟨0, j, none⟩) hl).trans hc

set_option maxHeartbeats 400000 in
theorem tail_any (C : Nat) (hC : C < 4294967296) (w : World) :
    Calls Tryd.prog 37 #[.int .u32 C] w fun e w' => (∃ t : ByteArray, e = .returned (.string t) ∧ (t.size : Int) ≤ 4 ∧ t.data.toList = tl C) ∧ Below w.heap.size w w' := by
  have hconv := run_convert_bytes_back (P := Tryd.prog) (w.alloc (.cells #[.int .u8 ((C : Int) % 256), .int .u8 ((C : Int) / 256 % 256), .int .u8 ((C : Int) / 65536 % 256), .int .u8 ((C : Int) / 16777216)] 5)) 47 9 5 ⟨w.heap.size, 0, none⟩ 4 (tl C) Tryd.underlying47 Tryd.underlying5 Tryd.underlying9 (by
    intro j hj
    have hj4 : j < 4 := hj
    have hadd : ((⟨w.heap.size, 0, none⟩ : Addr).add j) = ⟨w.heap.size, j, none⟩ := by unfold Addr.add; simp; intro h; exact h.symm
    rw [hadd, cell_alloc_new]
    match j, hj4 with
    | 0, _ => simp [tl]
    | 1, _ => simp [tl]
    | 2, _ => simp [tl]
    | 3, _ => simp [tl]; omega)
  rw [show (tl C).length = 4 from rfl] at hconv
  go_enter Tryd.func37, Tryd.ntmps37
  go_wp2
  go_ret
  exact ⟨⟨_, rfl, by show ((tl C).length : Int) ≤ 4; simp [tl], by simp⟩, (Below.refl _ _).alloc (Nat.le_refl _) _⟩

/-- One text in a new block. -/
theorem of_one (s : ByteArray) (b c : Nat) (w : World) (hc : w.cell? ⟨b, 0, none⟩ = some (.string s)) (hs : (s.size : Int) ≤ 9223372036854775807) (hT : Tab w) :
    Calls Tryd.prog 38 #[.slice (some ⟨b, 0, none⟩) 1 c] w fun e w' => e = .returned (.int .u32 (sumOf s.data.toList : Nat)) ∧ w = w' := by
  have h := of_some [s] b 0 c w (by simp) (fun i => by
    match i with
    | 0 => exact hs
    | i + 1 => simp) (fun i hi => by
    obtain rfl : i = 0 := by simpa using hi
    simpa using hc) hT
  simpa [bytesOf] using h

set_option maxHeartbeats 400000 in
theorem seal_any (s : ByteArray) (hs : (s.size : Int) ≤ 110000) (w : World) (hT : Tab w) :
    Calls Tryd.prog 19 #[.string s] w fun e w' => (∃ u : ByteArray, e = .returned (.string u) ∧ (u.size : Int) ≤ s.size + 4 ∧ u.data.toList = s.data.toList ++ tl (sumOf s.data.toList)) ∧ Below w.heap.size w w' := by
  have hB : Below w.heap.size w (w.alloc (.cells #[.string s] 9)) := (Below.refl _ _).alloc (Nat.le_refl _) _
  have H1 := Lib.hid (of_one s w.heap.size 1 (w.alloc (.cells #[.string s] 9)) (by rw [cell_alloc_new]; rfl) (by omega) (tab_of hT hB))
  have H2 := Lib.hid (tail_any (sumOf s.data.toList) (sumOf_lt _) (w.alloc (.cells #[.string s] 9)))
  have HB := Lib.hid hB
  clear hB hT
  go_enter Tryd.func19, Tryd.ntmps19
  go_wp2_with (first | (go_at_call 38; refine H1.out.mono ?_; rintro e w' ⟨rfl, rfl⟩) | (go_at_call 37; refine H2.out.mono ?_; rintro e w2 ⟨⟨t, rfl, hts, htl⟩, hb2⟩; have HB2 := Lib.hid hb2; have HTL := Lib.hid htl; clear hb2 htl))
  go_ret
  exact ⟨⟨_, rfl, by simp; omega, by simp [HTL.out]⟩, HB.out.trans (HB2.out.mono (by simp))⟩

/-- WHAT Open ANSWERS, of bytes: what is ahead of the last four, and whether these are its sum. -/
def isSealed (l : List UInt8) : Bool := decide (4 ≤ l.length) && (tl (sumOf (l.take (l.length - 4))) == l.drop (l.length - 4))
def opened (l : List UInt8) : List UInt8 := if isSealed l then l.take (l.length - 4) else []
/-- A pair of a text and a bool. -/
def Pair (l : List UInt8) (r : Bool) (w : World) (e : Ending) (w' : World) : Prop := ∃ t : ByteArray, e = .returned (.tuple #[.string t, .bool r]) ∧ t.data.toList = l ∧ Below w.heap.size w w'

theorem open_short (s : ByteArray) (hs : (s.size : Int) < 4) (w : World) :
    Calls Tryd.prog 33 #[.string s] w (Pair (opened s.data.toList) (isSealed s.data.toList) w) := by
  have h0 : isSealed s.data.toList = false := by
    unfold isSealed
    rw [decide_eq_false (by show ¬ 4 ≤ s.size; omega)]; rfl
  have h1 : opened s.data.toList = [] := by unfold opened; rw [h0]; rfl
  rw [h0, h1]
  clear h0 h1
  go_enter Tryd.func33, Tryd.ntmps33
  go_wp2
  go_ret2
  exact ⟨_, rfl, rfl, Below.refl _ _⟩
theorem extract_end (s : ByteArray) (n : Nat) : (s.extract n s.size).data.toList = s.data.toList.drop n := by
  rw [ByteArray.data_extract]
  simp
  rw [List.take_of_length_le (by simp)]
theorem sealed_true {s t : ByteArray} {n : Nat} (hsz : (s.size : Int) = n + 4) (h : t.data.toList = tl (sumOf (s.data.toList.take n))) (he : (!t.toList == (s.extract n s.size).toList) = false) :
    isSealed s.data.toList = true ∧ opened s.data.toList = s.data.toList.take n := by
  have hl : s.data.toList.length = n + 4 := by show s.size = n + 4; omega
  have hd := extract_end s n
  have h2 : isSealed s.data.toList = true := by
    unfold isSealed
    rw [hl, decide_eq_true (by omega), show n + 4 - 4 = n from by omega, ← h]
    rw [ByteArray.toList_eq, ByteArray.toList_eq, hd] at he
    simpa using he
  refine ⟨h2, ?_⟩
  unfold opened
  rw [if_pos h2, hl, show n + 4 - 4 = n from by omega]
theorem sealed_false {s t : ByteArray} {n : Nat} (hsz : (s.size : Int) = n + 4) (h : t.data.toList = tl (sumOf (s.data.toList.take n))) (he : (!t.toList == (s.extract n s.size).toList) = true) :
    isSealed s.data.toList = false ∧ opened s.data.toList = [] := by
  have hl : s.data.toList.length = n + 4 := by show s.size = n + 4; omega
  have hd := extract_end s n
  have h2 : isSealed s.data.toList = false := by
    unfold isSealed
    rw [hl, decide_eq_true (by omega), show n + 4 - 4 = n from by omega, ← h]
    rw [ByteArray.toList_eq, ByteArray.toList_eq, hd] at he
    simpa using he
  refine ⟨h2, ?_⟩
  unfold opened
  rw [if_neg (by rw [h2]; decide)]

set_option maxHeartbeats 400000 in
theorem open_long (s : ByteArray) (n : Nat) (hsz : (s.size : Int) = n + 4) (hs : (n : Int) ≤ 110000) (w : World) (hT : Tab w) :
    Calls Tryd.prog 33 #[.string s] w (Pair (opened s.data.toList) (isSealed s.data.toList) w) := by
  have hyes : ∀ t : ByteArray, _ → _ → _ := fun t => sealed_true (t := t) hsz
  have hno : ∀ t : ByteArray, _ → _ → _ := fun t => sealed_false (t := t) hsz
  have HY := Lib.hid hyes
  have HN := Lib.hid hno
  clear hyes hno
  obtain ⟨L, hL⟩ : ∃ L, opened s.data.toList = L := ⟨_, rfl⟩
  obtain ⟨R, hR⟩ : ∃ R, isSealed s.data.toList = R := ⟨_, rfl⟩
  rw [hL, hR]
  have HL := Lib.hid hL
  have HR := Lib.hid hR
  clear hL hR
  obtain ⟨hd, hE1⟩ : ∃ h, s.extract 0 n = h := ⟨_, rfl⟩
  have hhd : (hd.size : Int) ≤ n := by rw [← hE1]; simp; omega
  have HD : Hid (hd.data.toList = s.data.toList.take n) := Lib.hid (by rw [← hE1]; simp)
  have hB : Below w.heap.size w (w.alloc (.cells #[.string hd] 9)).drew := ((Below.refl _ _).alloc (Nat.le_refl _) _).drew
  have H1 := Lib.hid (of_one hd w.heap.size 1 (w.alloc (.cells #[.string hd] 9)).drew (by simp) (by omega) (tab_of hT hB))
  have H2 := Lib.hid (tail_any (sumOf hd.data.toList) (sumOf_lt _) (w.alloc (.cells #[.string hd] 9)).drew)
  have HB := Lib.hid hB
  clear hB hT
  go_enter Tryd.func33, Tryd.ntmps33
  go_wp2
  go_region_with (first | (go_at_call 38; refine H1.out.mono ?_; rintro e w' ⟨rfl, rfl⟩) | (go_at_call 37; refine H2.out.mono ?_; rintro e w2 ⟨⟨t, rfl, hts, htl⟩, hb2⟩; have HB2 := Lib.hid hb2; have HTL := Lib.hid htl; clear hb2 htl))
  go_wp2
  all_goals go_ret2
  all_goals have htl := HTL.out; rw [HD.out] at htl
  all_goals first
    | (have h : (!t.toList == (s.extract n s.size).toList) = true := by assumption
       obtain ⟨h1, h2⟩ := HN.out t htl h; rw [HL.out] at h2; rw [HR.out] at h1; subst h1; subst h2; exact ⟨_, rfl, rfl, HB.out.trans (HB2.out.mono (by simp))⟩)
    | (have h : (!t.toList == (s.extract n s.size).toList) = false := by assumption
       obtain ⟨h1, h2⟩ := HY.out t htl h; rw [HL.out] at h2; rw [HR.out] at h1; subst h1; subst h2; exact ⟨_, rfl, HD.out, HB.out.trans (HB2.out.mono (by simp))⟩)
end Go.Proofs.YtghnkpfnpidncaaDoor.S
