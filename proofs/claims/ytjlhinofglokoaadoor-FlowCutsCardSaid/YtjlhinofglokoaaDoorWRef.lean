/- The contract of the document's own Of: of any number, how many columns it has. -/
import Derived.Test.YtjlhinofglokoaaDoorWOf
import Derived.Deep.DeepCutAuto
namespace Go.Proofs.YtjlhinofglokoaaDoor.W
open Go.RowKit

/-- The cells of block b hold these spans. -/
def Sp (w : World) (b : Nat) (t : List (Int × Int)) : Prop := ∀ j, j < t.length → w.cell? ⟨b, j * 2, none⟩ = some (.int .i64 (t.getD j (0, 0)).1) ∧ w.cell? ⟨b, j * 2 + 1, none⟩ = some (.int .i64 (t.getD j (0, 0)).2)
theorem Sp.below {w w' : World} {b B : Nat} {t : List (Int × Int)} (h : Sp w b t) (hb : Below B w w') (hlt : b < B) : Sp w' b t := fun j hj =>
  ⟨(hb.cell (p := ⟨b, j * 2, none⟩) hlt).trans (h j hj).1, (hb.cell (p := ⟨b, j * 2 + 1, none⟩) hlt).trans (h j hj).2⟩
def zArr : Array Value := #[.int .i64 127, .int .i64 159, .int .i64 768, .int .i64 879, .int .i64 6832, .int .i64 6911, .int .i64 7616, .int .i64 7679, .int .i64 8203, .int .i64 8207, .int .i64 8400, .int .i64 8447, .int .i64 55296, .int .i64 57343, .int .i64 65024, .int .i64 65039, .int .i64 65056, .int .i64 65071, .int .i64 65279, .int .i64 65279, .int .i64 917760, .int .i64 917999]
def tArr : Array Value := #[.int .i64 4352, .int .i64 4447, .int .i64 11904, .int .i64 12350, .int .i64 12353, .int .i64 13311, .int .i64 13312, .int .i64 19903, .int .i64 19968, .int .i64 40959, .int .i64 40960, .int .i64 42191, .int .i64 44032, .int .i64 55203, .int .i64 63744, .int .i64 64255, .int .i64 65072, .int .i64 65135, .int .i64 65280, .int .i64 65376, .int .i64 65504, .int .i64 65510, .int .i64 127744, .int .i64 128591, .int .i64 129280, .int .i64 129535, .int .i64 131072, .int .i64 262141]
theorem z_new (w : World) (t : TypeId) : Sp (w.alloc (.cells zArr t)) w.heap.size zeros := by
  intro j hj
  have hj : j < 11 := hj
  rw [World.cell?_alloc_new, World.cell?_alloc_new]
  obtain rfl | rfl | rfl | rfl | rfl | rfl | rfl | rfl | rfl | rfl | rfl : j = 0 ∨ j = 1 ∨ j = 2 ∨ j = 3 ∨ j = 4 ∨ j = 5 ∨ j = 6 ∨ j = 7 ∨ j = 8 ∨ j = 9 ∨ j = 10 := by omega
  all_goals exact ⟨rfl, rfl⟩
theorem t_new (w : World) (t : TypeId) : Sp (w.alloc (.cells tArr t)) w.heap.size twos := by
  intro j hj
  have hj : j < 14 := hj
  rw [World.cell?_alloc_new, World.cell?_alloc_new]
  obtain rfl | rfl | rfl | rfl | rfl | rfl | rfl | rfl | rfl | rfl | rfl | rfl | rfl | rfl : j = 0 ∨ j = 1 ∨ j = 2 ∨ j = 3 ∨ j = 4 ∨ j = 5 ∨ j = 6 ∨ j = 7 ∨ j = 8 ∨ j = 9 ∨ j = 10 ∨ j = 11 ∨ j = 12 ∨ j = 13 := by omega
  all_goals exact ⟨rfl, rfl⟩

set_option maxRecDepth 100000 in
set_option maxHeartbeats 4000000 in
theorem refOf_any (r : Int) (w : World) :
    Calls Tryd.prog 21 #[.int .i64 r] w fun e w' => e = .returned (.int .i64 (refOf r : Int)) ∧ Below w.heap.size w w' := by
  obtain ⟨R, hR⟩ : ∃ R, refOf r = R := ⟨_, rfl⟩
  rw [hR]
  have HR := Lib.hid hR
  obtain ⟨wA, hwA⟩ : ∃ wA, w.alloc (.cells zArr 47) = wA := ⟨_, rfl⟩
  obtain ⟨wB, hwB⟩ : ∃ wB, wA.alloc (.cells tArr 47) = wB := ⟨_, rfl⟩
  have hsA : wA.heap.size = w.heap.size + 1 := by rw [← hwA]; simp
  have hsB : wB.heap.size = w.heap.size + 2 := by rw [← hwB]; simp; omega
  have hZ : Sp wB w.heap.size zeros := by rw [← hwB]; exact (hwA ▸ z_new w _).below ((Below.refl wA.heap.size _).alloc (Nat.le_refl _) _) (by omega)
  have hT : Sp wB (w.heap.size + 1) twos := by rw [← hwB, ← hsA]; exact t_new wA _
  have hB : Below w.heap.size w wB := by rw [← hwB, ← hwA]; exact ((Below.refl _ _).alloc (Nat.le_refl _) _).alloc (by simp) _
  have HZ := Lib.hid hZ
  have HT := Lib.hid hT
  have HB := Lib.hid hB
  clear hR hZ hT hB
  unfold zArr at hwA
  unfold tArr at hwB
  have HA := Lib.hid hwA
  have HBB := Lib.hid hwB
  have hszB : w.heap.size + 2 ≤ wB.heap.size := by omega
  have hpA : w.heap.size < w.heap.size + 2 := by omega
  have HSA := Lib.hid hsA
  clear hwA hwB hsA hsB
  go_enter Tryd.func21, Tryd.ntmps21
  go_upto_region 3 with fail
  rw [HA.out, HBB.out]
  by_cases h1 : r < 32
  · have HV : Hid (R = 0) := Lib.hid (by rw [← HR.out]; unfold refOf; rw [if_pos h1])
    go_wp2
    go_ret
    exact ⟨by rw [HV.out]; rfl, HB.out⟩
  by_cases h2 : 1114111 < r
  · have HV : Hid (R = 0) := Lib.hid (by rw [← HR.out]; unfold refOf; rw [if_neg h1, if_pos h2])
    go_wp2
    go_ret
    exact ⟨by rw [HV.out]; rfl, HB.out⟩
  have HR' : Hid ((if inL zeros r then 0 else if inL twos r then 2 else 1) = R) := Lib.hid (by rw [← HR.out]; unfold refOf; rw [if_neg h1, if_neg h2])
  go_wp2
  go_loopw [44] (fun i wr => ∃ j : Nat, i = .int .i64 (j : Int) ∧ j ≤ 11 ∧ w.heap.size + 2 ≤ wr.heap.size ∧ Hid (Below (w.heap.size + 2) wB wr ∧ inL (zeros.drop j) r = inL zeros r)) (fun i _ => 11 - (intOf i).toNat)
  case atStart => exact ⟨0, rfl, by omega, hszB, Lib.hid ⟨Below.refl _ _, rfl⟩⟩
  case round =>
    rename_i wr
    obtain ⟨j, rfl, hj, hbw, HF⟩ := hrel
    by_cases hlt : j < 11
    · have hw := HF.out.1
      obtain ⟨c0, c1⟩ := (HZ.out.below hw (by omega)) j hlt
      have hst := inL_step zeros j hlt r
      have hF2 := HF.out.2
      obtain ⟨⟨a, b⟩, hx⟩ : ∃ x, zeros.getD j (0, 0) = x := ⟨_, rfl⟩
      rw [hx] at c0 c1 hst
      simp only at c0 c1 hst
      clear hx hw
      by_cases h3 : a ≤ r
      · by_cases h4 : r ≤ b
        · have hin : inL zeros r = true := by rw [← hF2, hst]; simp [h3, h4]
          have HV : Hid (R = 0) := Lib.hid (by rw [← HR'.out]; simp [hin])
          clear hst hF2 hin
          go_wp2
          go_ret
          exact ⟨by rw [HV.out]; rfl, HB.out.trans ((HF.out.1.alloc hbw _).mono (by omega))⟩
        · have hF3 : Hid (inL (zeros.drop (j + 1)) r = inL zeros r) := Lib.hid (by rw [← hF2, hst]; simp [h4])
          clear hst hF2
          go_wp2
          go_roundw
          case rel => exact ⟨j + 1, by go_num, by omega, by simp; omega, Lib.hid ⟨HF.out.1.alloc hbw _, hF3.out⟩⟩
          case measure => simp [intOf]; omega
      · have hF3 : Hid (inL (zeros.drop (j + 1)) r = inL zeros r) := Lib.hid (by rw [← hF2, hst]; simp [h3])
        clear hst hF2
        go_wp2
        go_roundw
        case rel => exact ⟨j + 1, by go_num, by omega, by simp; omega, Lib.hid ⟨HF.out.1.alloc hbw _, hF3.out⟩⟩
        case measure => simp [intOf]; omega
    · obtain rfl : j = 11 := by omega
      have hno : inL zeros r = false := by rw [← HF.out.2]; rfl
      have HN := Lib.hid hno
      have HBW := Lib.hid HF.out.1
      clear hno HF
      go_wp2
      go_loopw [61] (fun i wr => ∃ j : Nat, i = .int .i64 (j : Int) ∧ j ≤ 14 ∧ w.heap.size + 2 ≤ wr.heap.size ∧ Hid (Below (w.heap.size + 2) wB wr ∧ inL (twos.drop j) r = inL twos r)) (fun i _ => 14 - (intOf i).toNat)
      case atStart => exact ⟨0, rfl, by omega, hbw, Lib.hid ⟨HBW.out, rfl⟩⟩
      case round =>
        rename_i wr2
        clear hbw
        obtain ⟨j, rfl, hj, hbw, HF⟩ := hrel
        by_cases hlt : j < 14
        · have hw := HF.out.1
          obtain ⟨c0, c1⟩ := (HT.out.below hw (by omega)) j hlt
          have hst := inL_step twos j hlt r
          have hF2 := HF.out.2
          obtain ⟨⟨a, b⟩, hx⟩ : ∃ x, twos.getD j (0, 0) = x := ⟨_, rfl⟩
          rw [hx] at c0 c1 hst
          simp only at c0 c1 hst
          clear hx hw
          by_cases h3 : a ≤ r
          · by_cases h4 : r ≤ b
            · have hin : inL twos r = true := by rw [← hF2, hst]; simp [h3, h4]
              have HV : Hid (R = 2) := Lib.hid (by rw [← HR'.out]; simp [hin, HN.out])
              clear hst hF2 hin
              go_wp2
              go_ret
              exact ⟨by rw [HV.out]; rfl, HB.out.trans ((HF.out.1.alloc hbw _).mono (by omega))⟩
            · have hF3 : Hid (inL (twos.drop (j + 1)) r = inL twos r) := Lib.hid (by rw [← hF2, hst]; simp [h4])
              clear hst hF2
              go_wp2
              go_roundw
              case rel => exact ⟨j + 1, by go_num, by omega, by simp; omega, Lib.hid ⟨HF.out.1.alloc hbw _, hF3.out⟩⟩
              case measure => simp [intOf]; omega
          · have hF3 : Hid (inL (twos.drop (j + 1)) r = inL twos r) := Lib.hid (by rw [← hF2, hst]; simp [h3])
            clear hst hF2
            go_wp2
            go_roundw
            case rel => exact ⟨j + 1, by go_num, by omega, by simp; omega, Lib.hid ⟨HF.out.1.alloc hbw _, hF3.out⟩⟩
            case measure => simp [intOf]; omega
        · obtain rfl : j = 14 := by omega
          have hno : inL twos r = false := by rw [← HF.out.2]; rfl
          have HV : Hid (R = 1) := Lib.hid (by rw [← HR'.out]; simp [hno, HN.out])
          clear hno
          go_wp2
          go_ret
          exact ⟨by rw [HV.out]; rfl, HB.out.trans (HF.out.1.mono (by omega))⟩
end Go.Proofs.YtjlhinofglokoaaDoor.W
