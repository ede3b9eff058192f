/- The program's row: nearest, blank, stray. -/
import Derived.Test.YtkggmcnocpgnbaaDoorKMend
namespace Go.Proofs.YtkggmcnocpgnbaaDoor.K
open Go.RowKit

def nearS (n most : Int) : Int := min (max n 0) most
theorem nearest_any (n most : Int) (w : World) : Calls Tryd.prog 49 #[.int .i64 n, .int .i64 most] w fun e w' => e = .returned (.int .i64 (nearS n most)) ∧ w = w' := by
  unfold nearS
  obtain ⟨N, hN⟩ : ∃ N, max n 0 = N := ⟨_, rfl⟩
  rw [hN]
  obtain ⟨M, hM⟩ : ∃ M, min N most = M := ⟨_, rfl⟩
  rw [hM]
  go_enter Tryd.func49, Tryd.ntmps49
  go_wp2
  go_ret
  exact ⟨rfl, rfl⟩
theorem nearS_nat (n : Int) (m : Nat) : ∃ k : Nat, nearS n m = (k : Int) ∧ k ≤ m := ⟨(nearS n m).toNat, by unfold nearS; omega, by unfold nearS; omega⟩
/-- a cell that is a result -/
theorem blank_any (s : Int) (w : World) : Calls Tryd.prog 86 #[.int .i64 s] w fun e w' => e = .returned (.agg #[.int .i32 32, .int .i64 s, .int .i64 0]) ∧ Below w.heap.size w w' := by
  go_enter Tryd.func86, Tryd.ntmps86
  go_wp2
  refine bodyPost_ret (v := .agg #[.int .i32 32, .int .i64 s, .int .i64 0]) (by rw [results_cell (fn := Tryd.f86) rfl]; go_simp <;> rfl) rfl ?_
  refine ⟨rfl, ?_⟩
  first
    | exact (((((Below.refl _ _).alloc (Nat.le_refl _) _).setCell (p := ⟨w.heap.size, 0, none⟩) (Nat.le_refl _) _).setCell (p := ⟨w.heap.size, 1, none⟩) (Nat.le_refl _) _).setCell (p := ⟨w.heap.size, 2, none⟩) (Nat.le_refl _) _)
    | exact (Below.refl _ _).alloc (Nat.le_refl _) _
/-- the i-th cell of these is stray, as they stand -/
def strayS (m : List Cel) (i : Nat) : Bool := badC (match i with | 0 => false | k + 1 => decide ((m.getD k (blk 0)).part = 1)) (m.getD i (blk 0)) (m.drop (i + 1))
end Go.Proofs.YtkggmcnocpgnbaaDoor.K

/- The contract of the program's stray. -/
namespace Go.Proofs.YtkggmcnocpgnbaaDoor.K
open Go.RowKit

set_option maxRecDepth 100000 in
set_option maxHeartbeats 4000000 in
theorem stray_any (a : Option Addr) (n c i : Nat) (m : List Cel) (w : World) (hI : CelsIn .i32 a n m w) (hi : i < n) (hn : (n : Int) ≤ 1000000) :
    Calls Tryd.prog 109 #[.slice a n c, .int .i64 (i : Int)] w fun e w' => e = .returned (.bool (strayS m i)) ∧ w = w' := by
  obtain ⟨bd, hbd⟩ : ∃ bd, strayS m i = bd := ⟨_, rfl⟩
  rw [hbd]
  have hil : i < m.length := by rw [← hI.len]; exact hi
  obtain ⟨b, off, rfl, hb, hAt⟩ := hI.at_.resolve_left (by intro e; rw [e] at hil; simp at hil)
  have hat := hAt i m[i] (List.getElem?_eq_getElem hil)
  have hgd : m.getD i (blk 0) = m[i] := by simp [List.getD_eq_getElem?_getD, List.getElem?_eq_getElem hil]
  have hbd' := hbd
  unfold strayS at hbd'
  rw [hgd] at hbd'
  obtain ⟨T, hT⟩ : ∃ T, m[i].part = T := ⟨_, rfl⟩
  have x2 := hat.c2
  rw [hT] at x2
  have hld : (m.drop (i + 1)).length = n - (i + 1) := by rw [List.length_drop, hI.len]
  have HLn := Lib.hid hI.len
  have HLd := Lib.hid hld
  have HBd := Lib.hid hbd'
  have HT := Lib.hid hT
  have HAt := Lib.hid hAt
  have HB := Lib.hid hb
  clear hbd hbd' hgd hT hat hld hAt hI hb
  have hin : (i : Int) < n := by omega
  by_cases h1 : T = 1
  · subst h1
    by_cases hlast : i + 1 = n
    · have hbt : bd = true := by
        rw [← HBd.out]
        have : m.drop (i + 1) = [] := List.eq_nil_of_length_eq_zero (by rw [HLd.out]; omega)
        rw [this]; unfold badC; rw [HT.out]; rfl
      subst hbt
      have q1 : ((i : Int) + 1 == (n : Int)) = true := by rw [beq_iff_eq]; omega
      go_enter Tryd.func109, Tryd.ntmps109
      go_wp2
      go_ret
      exact ⟨rfl, rfl⟩
    · have hj1 : i + 1 < m.length := by rw [← HLn.out]; omega
      have hd1 : m.drop (i + 1) = m[i + 1] :: m.drop (i + 2) := List.drop_eq_getElem_cons hj1
      have hbt : bd = decide (m[i + 1].part ≠ 2) := by rw [← HBd.out, hd1]; unfold badC; rw [HT.out]; rfl
      have hat2 := HAt.out (i + 1) m[i + 1] (List.getElem?_eq_getElem hj1)
      have y2 := hat2.c2
      have q1 : ((i : Int) + 1 == (n : Int)) = false := by rw [beq_eq_false_iff_ne]; omega
      have hjn : (i : Int) + 1 < n := by omega
      obtain ⟨T2, hT2⟩ : ∃ T2, m[i + 1].part = T2 := ⟨_, rfl⟩
      rw [hT2] at y2 hbt
      clear hd1 hat2 hT2
      by_cases hT : T2 = 2
      · subst hT
        obtain rfl : bd = false := by rw [hbt]; rfl
        clear hbt
        go_enter Tryd.func109, Tryd.ntmps109
        go_wp2
        go_ret
        exact ⟨rfl, rfl⟩
      · obtain rfl : bd = true := by rw [hbt]; simp [hT]
        have q2 : (T2 != 2) = true := by rw [bne_iff_ne]; exact hT
        clear hbt
        go_enter Tryd.func109, Tryd.ntmps109
        go_wp2
        go_ret
        exact ⟨rfl, rfl⟩
  · have p1 : (T == 1) = false := by rw [beq_eq_false_iff_ne]; exact h1
    by_cases h2 : T = 2
    · subst h2
      by_cases hj0 : i = 0
      · subst hj0
        obtain rfl : bd = true := by rw [← HBd.out]; unfold badC; rw [HT.out]; rfl
        go_enter Tryd.func109, Tryd.ntmps109
        clear h1
        go_wp2
        go_ret
        exact ⟨rfl, rfl⟩
      · obtain ⟨k, rfl⟩ : ∃ k, i = k + 1 := ⟨i - 1, by omega⟩
        have hkl : k < m.length := by omega
        have hg3 := HAt.out k _ (List.getElem?_eq_getElem hkl)
        have y2 := hg3.c2
        have hbt : bd = !(decide (m[k].part = 1)) := by
          rw [← HBd.out]; unfold badC; rw [HT.out]
          simp [List.getD_eq_getElem?_getD, List.getElem?_eq_getElem hkl]
        obtain ⟨T2, hT2⟩ : ∃ T2, m[k].part = T2 := ⟨_, rfl⟩
        rw [hT2] at y2 hbt
        have q0 : (((k + 1 : Nat) : Int) == 0) = false := by rw [beq_eq_false_iff_ne]; omega
        have hk1 : ((k + 1 : Nat) : Int) - 1 = (k : Int) := by omega
        have hkn : (k : Int) < n := by omega
        clear hg3 hT2 h1 hj0
        by_cases hT : T2 = 1
        · subst hT
          obtain rfl : bd = false := by rw [hbt]; rfl
          clear hbt
          go_enter Tryd.func109, Tryd.ntmps109
          go_wp2
          go_ret
          exact ⟨rfl, rfl⟩
        · obtain rfl : bd = true := by rw [hbt]; simp [hT]
          have q2 : (T2 != 1) = true := by rw [bne_iff_ne]; exact hT
          clear hbt
          go_enter Tryd.func109, Tryd.ntmps109
          go_wp2
          go_ret
          exact ⟨rfl, rfl⟩
    · have p2 : (T == 2) = false := by rw [beq_eq_false_iff_ne]; exact h2
      by_cases h3 : T = 3
      · subst h3
        have hbt : bd = decide ((i : Int) + 1 < (n : Int)) := by
          rw [← HBd.out]
          by_cases hlast : i + 1 = n
          · have : m.drop (i + 1) = [] := List.eq_nil_of_length_eq_zero (by rw [HLd.out]; omega)
            rw [this]
            have : decide ((i : Int) + 1 < (n : Int)) = false := by simp; omega
            rw [this]; unfold badC; rw [HT.out]; rfl
          · have hj1 : i + 1 < m.length := by rw [← HLn.out]; omega
            rw [List.drop_eq_getElem_cons hj1]
            have : decide ((i : Int) + 1 < (n : Int)) = true := by simp; omega
            rw [this]; unfold badC; rw [HT.out]; rfl
        have HBt := Lib.hid hbt
        clear hbt h1 h2
        go_enter Tryd.func109, Tryd.ntmps109
        go_wp2
        go_ret
        exact ⟨by rw [HBt.out]; rfl, rfl⟩
      · have p3 : (T == 3) = false := by rw [beq_eq_false_iff_ne]; exact h3
        obtain rfl : bd = false := by rw [← HBd.out]; unfold badC; rw [HT.out, if_neg h1, if_neg h2, if_neg h3]
        clear h1 h2 h3
        go_enter Tryd.func109, Tryd.ntmps109
        go_wp2
        go_ret
        exact ⟨rfl, rfl⟩
end Go.Proofs.YtkggmcnocpgnbaaDoor.K
