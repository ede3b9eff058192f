/- The contract of seq's Feed. -/
import Derived.Test.YtfapmgecebcfaaaDoorQTake
namespace Go.Proofs.YtfapmgecebcfaaaDoor.Q
open Go.RowKit
open Go.Proofs.YtfapmgecebcfaaaDoor.W (OwnI OwnR IntsIn RunesIn wpList_append_ints)
open Go.Proofs.YtfapmgecebcfaaaDoor.Y (Tab)

set_option maxRecDepth 100000 in
set_option maxHeartbeats 8000000 in
theorem feed_any (k : Nat) (p : PS) (s : ByteArray) (hs : (s.size : Int) ≤ 1000) (w : World) (hB : PBlk k p w) (hok : Ok p) (hT : Tab w) (hk : 0 ≠ k) :
    Calls Tryd.prog 13 #[.pointer (some ⟨k, 0, none⟩), .string s] w (MPost w.heap.size k (feedS p s.data.toList).1 (feedS p s.data.toList).2 w) := by
  obtain ⟨P, hP⟩ : ∃ P, MPost w.heap.size k (feedS p s.data.toList).1 (feedS p s.data.toList).2 w = P := ⟨_, rfl⟩
  rw [hP]
  have HP := Lib.hid hP
  obtain ⟨base, hbase⟩ : ∃ base, w.heap.size = base := ⟨_, rfl⟩
  have HBs := Lib.hid hbase
  rw [hbase] at HP
  have hkb : k < base := by rw [← hbase]; exact hB.lt
  have h0 : 0 < base := by rw [← hbase]; exact hT.pos
  have hbw : base ≤ w.heap.size := Nat.le_of_eq hbase.symm
  have HB := Lib.hid hB
  have HT := Lib.hid hT
  have HOk := Lib.hid hok
  have HH0 := Lib.hid h0
  clear hP hbase hB hT hok h0
  go_enter Tryd.func13, Tryd.ntmps13
  go_wp2_with fail
  go_loopw [5, 9] (fun v i wr => ∃ j : Nat, i = .int .i64 (j : Int) ∧ j ≤ s.size ∧ base ≤ wr.heap.size ∧ Hid (OwnA base v (feedS p (s.data.toList.take j)).2 wr ∧ PBlk k (feedS p (s.data.toList.take j)).1 wr ∧ Kept base k w wr)) (fun _ i _ => s.size - (intOf i).toNat)
  case atStart => exact ⟨0, rfl, by omega, hbw, Lib.hid ⟨OwnA.nil _ _, HB.out, Kept.refl _ _ _⟩⟩
  case round =>
    rename_i wr
    obtain ⟨j, rfl, hj, hsz, HF⟩ := hrel
    by_cases hlt : j < s.size
    · have hts : s.data.toList.take (j + 1) = s.data.toList.take j ++ [s[j]] := by
        rw [List.take_succ_eq_append_getElem (by simpa using hlt)]; rfl
      have hsn := feedS_snoc (s.data.toList.take j) s[j] p
      rw [← hts] at hsn
      have hcount := feed_count (s.data.toList.take j) p
      have hok := feed_ok (s.data.toList.take j) p HOk.out
      have htl : (s.data.toList.take j).length ≤ j := List.length_take_le _ _
      obtain ⟨hO, hB, hK⟩ := HF.out
      obtain ⟨⟨p2, l2⟩, hx⟩ : ∃ x, feedS p (s.data.toList.take j) = x := ⟨_, rfl⟩
      rw [hx] at hsn hcount hok hO hB
      simp only at hsn hcount hok hO hB
      have hE : Env base k p2 _ l2 wr := ⟨hO, hB, hkb, hsz, hok, by omega⟩
      have HTk := Lib.hid (take_any base k p2 _ l2 s[j] wr hE (tab_kept HT.out hK HH0.out hk) HH0.out hk)
      have HK := Lib.hid hK
      have HSn := Lib.hid hsn
      clear hts hsn hcount hok htl hO hB hK hx hE HF
      go_wp2_with fail
      refine HTk.out.mono ?_
      rintro e w2 ⟨v', rfl, h1, h2, h3⟩
      have HR : Hid (OwnA base v' (feedS p (s.data.toList.take (j + 1))).2 w2 ∧ PBlk k (feedS p (s.data.toList.take (j + 1))).1 w2 ∧ Kept base k w w2) := Lib.hid ⟨by rw [HSn.out]; exact h1, by rw [HSn.out]; exact h2, HK.out.trans h3⟩
      have hsz2 : base ≤ w2.heap.size := Nat.le_trans hsz h3.size
      clear h1 h2 h3 HTk
      go_wp2
      go_roundw
      case rel => exact ⟨j + 1, by go_num, by omega, hsz2, HR⟩
      case measure => simp [intOf]; omega
    · obtain rfl : j = s.size := by omega
      have hta : s.data.toList.take s.size = s.data.toList := List.take_of_length_le (Nat.le_refl _)
      rw [hta] at HF
      clear hta
      go_wp2
      rw [← HP.out]
      exact ⟨_, rfl, HF.out⟩

end Go.Proofs.YtfapmgecebcfaaaDoor.Q
