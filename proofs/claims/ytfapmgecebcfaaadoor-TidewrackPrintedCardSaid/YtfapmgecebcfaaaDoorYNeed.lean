/- The contract of the document's own need: how many bytes come behind a first one, and between which the next one must be. -/
import Derived.Test.YtfapmgecebcfaaaDoorMerged2
namespace Go.Proofs.YtfapmgecebcfaaaDoor.Y
open Go.RowKit

def NeedPost (b : Nat) (w : World) (e : Ending) (w' : World) : Prop := e = .returned (.tuple #[.int .i64 ((needS b).1 : Int), .int .i64 ((needS b).2.1 : Int), .int .i64 ((needS b).2.2 : Int)]) ∧ w = w'
set_option maxRecDepth 100000 in
set_option maxHeartbeats 2000000 in
theorem need_any (b : Nat) (hb : (b : Int) < 256) (w : World) : Calls Tryd.prog 25 #[.int .i64 (b : Int)] w (NeedPost b w) := by
  have key : ∀ x y z : Nat, needS b = (x, y, z) → NeedPost b w (.returned (.tuple #[.int .i64 (x : Int), .int .i64 (y : Int), .int .i64 (z : Int)])) w := by
    intro x y z h
    unfold NeedPost
    rw [h]
    exact ⟨rfl, rfl⟩
  by_cases h1 : 194 ≤ b ∧ b ≤ 223
  · have hv : needS b = (1, 128, 191) := by unfold needS; rw [if_pos h1]
    have HV := Lib.hid (key _ _ _ hv)
    have d1 : decide ((194 : Int) ≤ (b : Int)) = true := by rw [decide_eq_true_eq]; omega
    have d2 : decide ((b : Int) ≤ 223) = true := by rw [decide_eq_true_eq]; omega
    clear key hv h1
    go_enter Tryd.func25, Tryd.ntmps25
    go_wp2
    go_ret3
    exact HV.out
  by_cases h2 : b = 224
  · have hv : needS b = (2, 160, 191) := by unfold needS; rw [if_neg h1, if_pos h2]
    have HV := Lib.hid (key _ _ _ hv)
    have d1 : decide ((194 : Int) ≤ (b : Int)) = true := by rw [decide_eq_true_eq]; omega
    have d2 : decide ((b : Int) ≤ 223) = false := by rw [decide_eq_false_iff_not]; omega
    have d3 : ((b : Int) == 224) = true := by rw [beq_iff_eq]; omega
    clear key hv h1 h2
    go_enter Tryd.func25, Tryd.ntmps25
    go_wp2
    go_ret3
    exact HV.out
  by_cases h3 : b = 237
  · have hv : needS b = (2, 128, 159) := by unfold needS; rw [if_neg h1, if_neg h2, if_pos h3]
    have HV := Lib.hid (key _ _ _ hv)
    have d1 : decide ((194 : Int) ≤ (b : Int)) = true := by rw [decide_eq_true_eq]; omega
    have d2 : decide ((b : Int) ≤ 223) = false := by rw [decide_eq_false_iff_not]; omega
    have d3 : ((b : Int) == 224) = false := by rw [beq_eq_false_iff_ne]; omega
    have d4 : ((b : Int) == 237) = true := by rw [beq_iff_eq]; omega
    clear key hv h1 h2 h3
    go_enter Tryd.func25, Tryd.ntmps25
    go_wp2
    go_ret3
    exact HV.out
  by_cases h4 : 225 ≤ b ∧ b ≤ 239
  · have hv : needS b = (2, 128, 191) := by unfold needS; rw [if_neg h1, if_neg h2, if_neg h3, if_pos h4]
    have HV := Lib.hid (key _ _ _ hv)
    have d1 : decide ((194 : Int) ≤ (b : Int)) = true := by rw [decide_eq_true_eq]; omega
    have d2 : decide ((b : Int) ≤ 223) = false := by rw [decide_eq_false_iff_not]; omega
    have d3 : ((b : Int) == 224) = false := by rw [beq_eq_false_iff_ne]; omega
    have d4 : ((b : Int) == 237) = false := by rw [beq_eq_false_iff_ne]; omega
    have d5 : decide ((225 : Int) ≤ (b : Int)) = true := by rw [decide_eq_true_eq]; omega
    have d6 : decide ((b : Int) ≤ 239) = true := by rw [decide_eq_true_eq]; omega
    clear key hv h1 h2 h3 h4
    go_enter Tryd.func25, Tryd.ntmps25
    go_wp2
    go_ret3
    exact HV.out
  by_cases h5 : b = 240
  · have hv : needS b = (3, 144, 191) := by unfold needS; rw [if_neg h1, if_neg h2, if_neg h3, if_neg h4, if_pos h5]
    have HV := Lib.hid (key _ _ _ hv)
    have d1 : decide ((194 : Int) ≤ (b : Int)) = true := by rw [decide_eq_true_eq]; omega
    have d2 : decide ((b : Int) ≤ 223) = false := by rw [decide_eq_false_iff_not]; omega
    have d3 : ((b : Int) == 224) = false := by rw [beq_eq_false_iff_ne]; omega
    have d4 : ((b : Int) == 237) = false := by rw [beq_eq_false_iff_ne]; omega
    have d5 : decide ((225 : Int) ≤ (b : Int)) = true := by rw [decide_eq_true_eq]; omega
    have d6 : decide ((b : Int) ≤ 239) = false := by rw [decide_eq_false_iff_not]; omega
    have d7 : ((b : Int) == 240) = true := by rw [beq_iff_eq]; omega
    clear key hv h1 h2 h3 h4 h5
    go_enter Tryd.func25, Tryd.ntmps25
    go_wp2
    go_ret3
    exact HV.out
  by_cases h6 : b = 244
  · have hv : needS b = (3, 128, 143) := by unfold needS; rw [if_neg h1, if_neg h2, if_neg h3, if_neg h4, if_neg h5, if_pos h6]
    have HV := Lib.hid (key _ _ _ hv)
    have d1 : decide ((194 : Int) ≤ (b : Int)) = true := by rw [decide_eq_true_eq]; omega
    have d2 : decide ((b : Int) ≤ 223) = false := by rw [decide_eq_false_iff_not]; omega
    have d3 : ((b : Int) == 224) = false := by rw [beq_eq_false_iff_ne]; omega
    have d4 : ((b : Int) == 237) = false := by rw [beq_eq_false_iff_ne]; omega
    have d5 : decide ((225 : Int) ≤ (b : Int)) = true := by rw [decide_eq_true_eq]; omega
    have d6 : decide ((b : Int) ≤ 239) = false := by rw [decide_eq_false_iff_not]; omega
    have d7 : ((b : Int) == 240) = false := by rw [beq_eq_false_iff_ne]; omega
    have d8 : ((b : Int) == 244) = true := by rw [beq_iff_eq]; omega
    clear key hv h1 h2 h3 h4 h5 h6
    go_enter Tryd.func25, Tryd.ntmps25
    go_wp2
    go_ret3
    exact HV.out
  by_cases h7 : 241 ≤ b ∧ b ≤ 243
  · have hv : needS b = (3, 128, 191) := by unfold needS; rw [if_neg h1, if_neg h2, if_neg h3, if_neg h4, if_neg h5, if_neg h6, if_pos h7]
    have HV := Lib.hid (key _ _ _ hv)
    have d1 : decide ((194 : Int) ≤ (b : Int)) = true := by rw [decide_eq_true_eq]; omega
    have d2 : decide ((b : Int) ≤ 223) = false := by rw [decide_eq_false_iff_not]; omega
    have d3 : ((b : Int) == 224) = false := by rw [beq_eq_false_iff_ne]; omega
    have d4 : ((b : Int) == 237) = false := by rw [beq_eq_false_iff_ne]; omega
    have d5 : decide ((225 : Int) ≤ (b : Int)) = true := by rw [decide_eq_true_eq]; omega
    have d6 : decide ((b : Int) ≤ 239) = false := by rw [decide_eq_false_iff_not]; omega
    have d7 : ((b : Int) == 240) = false := by rw [beq_eq_false_iff_ne]; omega
    have d8 : ((b : Int) == 244) = false := by rw [beq_eq_false_iff_ne]; omega
    have d9 : decide ((241 : Int) ≤ (b : Int)) = true := by rw [decide_eq_true_eq]; omega
    have d10 : decide ((b : Int) ≤ 243) = true := by rw [decide_eq_true_eq]; omega
    clear key hv h1 h2 h3 h4 h5 h6 h7
    go_enter Tryd.func25, Tryd.ntmps25
    go_wp2
    go_ret3
    exact HV.out
  by_cases h8 : b < 194
  · have hv : needS b = (0, 0, 0) := by unfold needS; rw [if_neg h1, if_neg h2, if_neg h3, if_neg h4, if_neg h5, if_neg h6, if_neg h7]
    have HV := Lib.hid (key _ _ _ hv)
    have d1 : decide ((194 : Int) ≤ (b : Int)) = false := by rw [decide_eq_false_iff_not]; omega
    have d2 : ((b : Int) == 224) = false := by rw [beq_eq_false_iff_ne]; omega
    have d3 : ((b : Int) == 237) = false := by rw [beq_eq_false_iff_ne]; omega
    have d4 : decide ((225 : Int) ≤ (b : Int)) = false := by rw [decide_eq_false_iff_not]; omega
    have d5 : ((b : Int) == 240) = false := by rw [beq_eq_false_iff_ne]; omega
    have d6 : ((b : Int) == 244) = false := by rw [beq_eq_false_iff_ne]; omega
    have d7 : decide ((241 : Int) ≤ (b : Int)) = false := by rw [decide_eq_false_iff_not]; omega
    clear key hv h1 h2 h3 h4 h5 h6 h7 h8
    go_enter Tryd.func25, Tryd.ntmps25
    go_wp2
    go_ret3
    exact HV.out
  · have hv : needS b = (0, 0, 0) := by unfold needS; rw [if_neg h1, if_neg h2, if_neg h3, if_neg h4, if_neg h5, if_neg h6, if_neg h7]
    have HV := Lib.hid (key _ _ _ hv)
    have d1 : decide ((194 : Int) ≤ (b : Int)) = true := by rw [decide_eq_true_eq]; omega
    have d2 : decide ((b : Int) ≤ 223) = false := by rw [decide_eq_false_iff_not]; omega
    have d3 : ((b : Int) == 224) = false := by rw [beq_eq_false_iff_ne]; omega
    have d4 : ((b : Int) == 237) = false := by rw [beq_eq_false_iff_ne]; omega
    have d5 : decide ((225 : Int) ≤ (b : Int)) = true := by rw [decide_eq_true_eq]; omega
    have d6 : decide ((b : Int) ≤ 239) = false := by rw [decide_eq_false_iff_not]; omega
    have d7 : ((b : Int) == 240) = false := by rw [beq_eq_false_iff_ne]; omega
    have d8 : ((b : Int) == 244) = false := by rw [beq_eq_false_iff_ne]; omega
    have d9 : decide ((241 : Int) ≤ (b : Int)) = true := by rw [decide_eq_true_eq]; omega
    have d10 : decide ((b : Int) ≤ 243) = false := by rw [decide_eq_false_iff_not]; omega
    clear key hv h1 h2 h3 h4 h5 h6 h7 h8
    go_enter Tryd.func25, Tryd.ntmps25
    go_wp2
    go_ret3
    exact HV.out
end Go.Proofs.YtfapmgecebcfaaaDoor.Y
