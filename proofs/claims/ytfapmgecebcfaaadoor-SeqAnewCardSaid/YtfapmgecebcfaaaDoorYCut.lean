/- The contract of Cut. -/
import Derived.Test.YtfapmgecebcfaaaDoorYDecode
import Derived.RegionTactic
namespace Go.Proofs.YtfapmgecebcfaaaDoor.Y
open Go.RowKit
open Go.Proofs.YtfapmgecebcfaaaDoor.W (OwnR OwnI RunesIn IntsIn isRune runes_one grownBy_of_below)

theorem cut_any (s : ByteArray) (n : Nat) (_ : (s.size : Int) ≤ 9223372036854775807) (hn : (n : Int) ≤ 1000) (w : World) :
    Calls Tryd.prog 11 #[.string s, .int .i64 n] w fun e w' => (∃ t : ByteArray, e = .returned (.string t) ∧ (t.size : Int) ≤ n ∧ t.data.toList = s.data.toList.take n) ∧ w = w' := by
  go_enter Tryd.func11, Tryd.ntmps11
  go_wp2
  · have h : n < s.size := by assumption
    go_ret
    refine ⟨⟨_, rfl, ?_, ?_⟩, rfl⟩
    · simp; omega
    · simp
  · have h : ¬ n < s.size := by assumption
    go_ret
    refine ⟨⟨_, rfl, ?_, ?_⟩, rfl⟩
    · omega
    · rw [List.take_of_length_le (by show s.size ≤ n; omega)]
end Go.Proofs.YtfapmgecebcfaaaDoor.Y
