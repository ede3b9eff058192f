/- The document's Split. -/
import Derived.Test.YtghnkpfnpidncaaPCol
import Derived.OwnWalk
import Derived.Lib.MinMax
namespace Go.Proofs.Ytghnkpfnpidncaa.P
open Go.RowKit Go.Shelf

/-- Where the document's Split is left. -/
def RSplitPost (s : ByteArray) (z : Int) (w : World) (e : Ending) (w' : World) : Prop := ∃ (v : Value) (ss : List ByteArray), e = .returned v ∧ ss.map bl = chunks (bl s) (szN z) ∧ w'.ownsRow w.heap.size 9 1 v ss.length (ss.map Value.string) ∧ Below w.heap.size w w'
set_option maxHeartbeats 1000000 in
theorem rsplit_any (s : ByteArray) (z : Int) (hs : (s.size : Int) ≤ 900000) (w : World) : Calls Try.prog 10 #[.string s, .int .i64 z] w (RSplitPost s z w) := by
  obtain ⟨i0, hi, hz0, hz1, hz2⟩ := info_parts infoS
  have hp := szN_pos z
  have hl := szN_le z
  have hzz : (szN z : Int) = max 1 (min z 8000) := by unfold szN; omega
  obtain ⟨sz, hsz⟩ : ∃ sz, szN z = sz := ⟨_, rfl⟩
  rw [hsz] at hp hl hzz
  have hcp := cntN_pos s.size sz
  have hcl := cntN_le s.size sz hp
  have hcc : (cntN s.size sz : Int) = max 1 (((s.size : Int) + sz - 1).tdiv sz) := by
    unfold cntN
    have e : ((s.size : Int) + sz - 1) = ((s.size + sz - 1 : Nat) : Int) := by omega
    rw [e, ← Int.ofNat_tdiv]
    omega
  have hin := fun k => in_le s.size sz k hp
  obtain ⟨C, hC⟩ : ∃ C, cntN s.size sz = C := ⟨_, rfl⟩
  rw [hC] at hcp hcl hcc hin
  have HSz := Lib.hid hsz
  have HC := Lib.hid hC
  have HIn := Lib.hid hin
  have HZ := Lib.hid hzz
  have HCc := Lib.hid hcc
  clear hsz hC hin
  have hmx : max (1 : Int) (min z 8000) = (sz : Int) := hzz.symm
  have hp' : (1 : Int) ≤ sz := by omega
  have hl' : (sz : Int) ≤ 8000 := by omega
  have hcd : max (1 : Int) (((s.size : Int) + sz - 1) / sz) = (C : Int) := by
    rw [hcc, Int.tdiv_eq_ediv_of_nonneg (by omega)]
  have hcl' : (C : Int) ≤ 900001 := by omega
  clear hcc hzz
  go_enter Try.func10, Try.ntmps10
  go_wp2
  have hrow0 : (w.alloc (.cells #[] 9)).ownsRow w.heap.size 9 1 (.slice (some ⟨w.heap.size, 0, none⟩) 0 0) 0 [] := World.ownsRow_made w #[] 0 (Nat.le_refl _) (by unfold maxLen; omega) rfl
  have hb0 : Below w.heap.size w (w.alloc (.cells #[] 9)) := (Below.refl _ _).alloc (Nat.le_refl _) _
  go_loopw [7, 8] (fun v i wr => ∃ (k : Nat) (ss : List ByteArray), k ≤ C ∧ i = .int .i64 (k : Int) ∧ wr.ownsRow w.heap.size 9 1 v k (ss.map Value.string) ∧ Hid (ss.length = k ∧ ss.map bl = (List.range k).map (chunk (bl s) sz)) ∧ Below w.heap.size w wr) (fun _ i _ => C - (intOf i).toNat)
  case atStart => exact ⟨0, [], by omega, rfl, hrow0, Lib.hid ⟨rfl, rfl⟩, hb0⟩
  case round =>
    obtain ⟨k, ss, hk, rfl, hrow, HSS, hB⟩ := hrel
    have hle := hB.size
    have HB := Lib.hid hB
    clear hB hrow0 hb0
    by_cases hlt : k < C
    · have ha := HIn.out k (by omega)
      obtain ⟨a, hA⟩ : ∃ a, k * sz = a := ⟨_, rfl⟩
      rw [hA] at ha
      obtain ⟨e, hE⟩ : ∃ e, min s.size (a + sz) = e := ⟨_, rfl⟩
      have hp1 : (k : Int) * (sz : Int) = (a : Int) := by rw [← hA, Int.natCast_mul]
      have hm1 : min (s.size : Int) ((a : Int) + sz) = (e : Int) := by omega
      have hae : (a : Int) ≤ e := by omega
      have hes : (e : Int) ≤ s.size := by omega
      have ha' : (a : Int) ≤ s.size := by omega
      have hx : bl (s.extract a e) = chunk (bl s) sz k := by
        unfold chunk
        rw [hA]
        simp only [bl, ByteArray.data_extract, Array.toList_extract]
        rw [List.extract_eq_take_drop]
        rw [← hE]
        have hl : s.data.toList.length = s.size := rfl
        rcases Nat.le_total s.size (a + sz) with h | h
        · rw [Nat.min_eq_left h, List.take_of_length_le (l := List.drop a s.data.toList) (by rw [List.length_drop]; omega), List.take_of_length_le (by rw [List.length_drop]; omega)]
        · rw [Nat.min_eq_right h, Nat.add_sub_cancel_left]
      obtain ⟨x, hxx⟩ : ∃ x, s.extract a e = x := ⟨_, rfl⟩
      rw [hxx] at hx
      have HX := Lib.hid hx
      clear hx hA hE ha
      go_wp2_with (at_builtin; refine wpList_append_own _ rfl _ _ 24 rfl w.heap.size 9 i0 (.string ⟨#[]⟩) 1 16 Try.underlying24 hi hz0 hz1 hz2 rfl (by decide) _ _ _ rfl (hrow.alloc _) ⟨wr.heap.size, 0, none⟩ 1 1 [.string x] rfl rfl ?c1 ?c2 ?c3 ?c4 ?c5 ?_)
      case c1 => exact cell_one_new _ _ _
      case c2 => simp [Value.oneCell']
      case c3 => unfold maxLen; omega
      case c4 => omega
      case c5 => simp; omega
      intro v' w1 hown' hgrow _
      have HB1 : Hid (Below w.heap.size w w1) := Lib.hid ((HB.out.alloc hle _).grown hgrow (by simp; omega) (fun j hj => (hrow.lt j hj).1))
      have HR := Lib.hid hown'
      clear hown' hgrow hrow
      go_wp2
      go_roundw
      case rel =>
        refine ⟨k + 1, ss ++ [x], by omega, by go_num, by rw [List.map_append]; exact HR.out, Lib.hid ⟨by simp [HSS.out.1], ?_⟩, HB1.out⟩
        rw [List.map_append, HSS.out.2, List.range_succ, List.map_append]
        simp [HX.out]
      case measure => simp [intOf]; omega
    · obtain rfl : k = C := by omega
      have HR := Lib.hid hrow
      clear hrow
      go_wp2
      go_ret
      refine ⟨_, ss, rfl, ?_, by rw [HSS.out.1]; exact HR.out, HB.out⟩
      rw [HSS.out.2, HSz.out]
      unfold chunks
      rw [bl_len, HC.out]
end Go.Proofs.Ytghnkpfnpidncaa.P
