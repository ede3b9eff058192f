/- The program's row: nearest, blank, stray. -/
import Derived.Test.YtmdnnpcofbhceaaDoorKMend
namespace Go.Proofs.YtmdnnpcofbhceaaDoor.K
open Go.RowKit

def nearS (n most : Int) : Int := min (max n 0) most
theorem nearest_any (n most : Int) (w : World) : Calls Tryd.prog 45 #[.int .i64 n, .int .i64 most] w fun e w' => e = .returned (.int .i64 (nearS n most)) ∧ w = w' := by
  unfold nearS
  obtain ⟨N, hN⟩ : ∃ N, max n 0 = N := ⟨_, rfl⟩
  rw [hN]
  obtain ⟨M, hM⟩ : ∃ M, min N most = M := ⟨_, rfl⟩
  rw [hM]
  go_enter Tryd.func45, Tryd.ntmps45
  go_wp2
  go_ret
  exact ⟨rfl, rfl⟩
theorem nearS_nat (n : Int) (m : Nat) : ∃ k : Nat, nearS n m = (k : Int) ∧ k ≤ m := ⟨(nearS n m).toNat, by unfold nearS; omega, by unfold nearS; omega⟩
/-- a cell that is a result -/
theorem blank_any (s : Int) (w : World) : Calls Tryd.prog 56 #[.int .i64 s] w fun e w' => e = .returned (.agg #[.int .i32 32, .int .i64 s, .int .i64 0]) ∧ Below w.heap.size w w' := by
  go_enter Tryd.func56, Tryd.ntmps56
  go_wp2
  refine bodyPost_ret (v := .agg #[.int .i32 32, .int .i64 s, .int .i64 0]) (by rw [results_cell (fn := Tryd.f56) rfl]; go_simp <;> rfl) rfl ?_
  refine ⟨rfl, ?_⟩
  first
    | exact (((((Below.refl _ _).alloc (Nat.le_refl _) _).setCell (p := ⟨w.heap.size, 0, none⟩) (Nat.le_refl _) _).setCell (p := ⟨w.heap.size, 1, none⟩) (Nat.le_refl _) _).setCell (p := ⟨w.heap.size, 2, none⟩) (Nat.le_refl _) _)
    | exact (Below.refl _ _).alloc (Nat.le_refl _) _
/-- the i-th cell of these is stray, as they stand -/
def strayS (m : List Cel) (i : Nat) : Bool := badC (match i with | 0 => false | k + 1 => decide ((m.getD k (blk 0)).part = 1)) (m.getD i (blk 0)) (m.drop (i + 1))
end Go.Proofs.YtmdnnpcofbhceaaDoor.K
