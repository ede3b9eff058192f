/- The contracts of slices.Clone at cells, and of a product with 1. -/
import Derived.Test.YtmdnnpcofbhceaaDoorVMend
import Derived.Lib.SliceRun
import Derived.Laws.Bits64b
namespace Go.Proofs.YtmdnnpcofbhceaaDoor.K
open Go.RowKit

/-- what a call answers that makes cells -/
def CelPost (T : TypeId) (base : Nat) (l : List Cel) (w : World) (e : Ending) (w' : World) : Prop := ∃ v, e = .returned v ∧ OwnC .i32 T base v l w' ∧ Below base w w'

set_option maxRecDepth 100000 in
set_option maxHeartbeats 4000000 in
theorem clone_any (a : Option Addr) (n c : Nat) (l : List Cel) (w : World) (hI : CelsIn .i32 a n l w) (hnil : a = none → c = 0) (hn : (n : Int) ≤ 1000000) :
    Calls Tryd.prog 55 #[.slice a n c] w (CelPost 82 w.heap.size l w) := by
  obtain ⟨P, hP⟩ : ∃ P, CelPost 82 w.heap.size l w = P := ⟨_, rfl⟩
  rw [hP]
  have HP := Lib.hid hP
  cases a with
  | none =>
    obtain rfl := hnil rfl
    obtain rfl : l = [] := by
      rcases hI.at_ with h | ⟨_, _, h, _⟩
      · exact h
      · cases h
    obtain rfl : n = 0 := hI.len
    clear hP hI hnil hn
    have qn : ∀ (w : World), (binOp .eql 24 (.slice none 0 0) (.slice none 0 0)).run Tryd.prog w = .ok (.bool true) w := fun w => Lib.run_eql_slice_nil w _ _ none 0 0 0 0 Tryd.underlying24
    go_enter Tryd.func55, Tryd.ntmps55
    go_wp2_with fail
    rw [← HP.out]
    exact ⟨_, rfl, OwnC.nil _ _ _ _, Below.refl _ _⟩
  | some ad =>
    have hb1 : Below w.heap.size w (w.alloc (.cells #[] 82)) := (Below.refl _ _).alloc (Nat.le_refl _) _
    have HO1 := Lib.hid (OwnC.lit .i32 82 w w.heap.size (Nat.le_refl _))
    have HI1 := Lib.hid (hI.belowAll hb1)
    have HS1 := Lib.hid hb1.size
    have HLn : Hid ((l.length : Int) ≤ 1000000) := Lib.hid (by rw [← hI.len]; exact hn)
    have HB1 := Lib.hid hb1
    clear hP hb1 hI hnil
    have qn : ∀ (w : World), (binOp .eql 24 (.slice (some ad) n c) (.slice none 0 0)).run Tryd.prog w = .ok (.bool false) w := fun w => Lib.run_eql_slice_nil w _ _ (some ad) n c 0 0 Tryd.underlying24
    go_enter Tryd.func55, Tryd.ntmps55
    go_wp2_with (refine wpList_append_cells rowT rfl _ _ rfl rfl w.heap.size _ [] (some ad) n c l rfl rfl HO1.out HI1.out (fun e => by cases e) (by simp) HLn.out HS1.out ?_)
    intro v' w' hown hg
    have HE : Hid (OwnC .i32 82 w.heap.size v' l w' ∧ Below w.heap.size w w') := Lib.hid ⟨by simpa using hown, HB1.out.grown hg.grown HS1.out (fun q hq => (HO1.out.ownBlock q hq).1)⟩
    clear hown hg
    go_wp2
    rw [← HP.out]
    exact ⟨_, rfl, HE.out.1, HE.out.2⟩

theorem u64_and32 (n : Nat) (hn : n ≤ 1000000) : bits .and .u64 (n : Int) 4294967295 = (n : Int) := by
  have h := bits_and_u64_nat n 4294967295 (by omega) (by decide)
  rw [show ((4294967295 : Nat) : Int) = 4294967295 from rfl] at h
  rw [h, show (4294967295 : Nat) = 2 ^ 32 - 1 from rfl, Nat.and_two_pow_sub_one_eq_mod, Nat.mod_eq_of_lt (by omega)]
set_option maxRecDepth 100000 in
set_option maxHeartbeats 4000000 in
theorem mul64_one (n : Nat) (hn : n ≤ 1000000) (w : World) : Calls Tryd.prog 92 #[.int .u64 1, .int .u64 (n : Int)] w fun e w' => e = .returned (.tuple #[.int .u64 0, .int .u64 (n : Int)]) ∧ w = w' := by
  have h1 : bits .and .u64 1 4294967295 = 1 := by decide
  have h2 := u64_and32 n hn
  have h3 : (n : Int) / 4294967296 = 0 := by omega
  have h4 : bits .and .u64 0 4294967295 = 0 := by decide
  go_enter Tryd.func92, Tryd.ntmps92
  go_wp2_with fail
  refine bodyPost_ret (results_tmp2 rfl _ _ _) rfl ?_
  exact ⟨rfl, rfl⟩
set_option maxRecDepth 100000 in
set_option maxHeartbeats 4000000 in
theorem mul_one (n : Nat) (hn : n ≤ 1000000) (w : World) : Calls Tryd.prog 85 #[.int .u64 1, .int .u64 (n : Int)] w fun e w' => e = .returned (.tuple #[.int .u64 0, .int .u64 (n : Int)]) ∧ w = w' := by
  go_enter Tryd.func85, Tryd.ntmps85
  go_wp2_with (go_at_call 92; refine (mul64_one n hn w).mono ?_; rintro e w' ⟨rfl, rfl⟩)
  refine bodyPost_ret (results_tmp2 rfl _ _ _) rfl ?_
  exact ⟨rfl, rfl⟩
end Go.Proofs.YtmdnnpcofbhceaaDoor.K
