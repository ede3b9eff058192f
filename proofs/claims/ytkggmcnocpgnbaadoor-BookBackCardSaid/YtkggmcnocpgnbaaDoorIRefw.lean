/- The document's own numbers and texts as bytes; two values written at once. -/
import Derived.Test.YtkggmcnocpgnbaaDoorMerged14
import Derived.Lib.QuietBelow
import Derived.BigQuiet
import Derived.Deep.AppendLies
import Derived.Laws.ResultCell
namespace Go.Proofs.YtkggmcnocpgnbaaDoor.I
open Go.RowKit

set_option maxRecDepth 100000 in
set_option maxHeartbeats 1000000 in
theorem refnum_any (n : Int) (w : World) : Calls Tryd.prog 57 #[.int .i64 n] w fun e w' => ∃ t : ByteArray, e = .returned (.string t) ∧ t.data.toList = digs (clipN n) ∧ Below w.heap.size w w' := by
  obtain ⟨m, hm⟩ : ∃ m, clipN n = m := ⟨_, rfl⟩
  have hm62 : (m : Int) ≤ 4611686018427387904 := by rw [← hm]; have := clipN_le n; unfold top at this; omega
  obtain ⟨i0, hi, hz0, hz1, hz2⟩ := info_parts info5
  rcases Int.lt_or_le 0 n with hn | hn
  · rcases Int.lt_or_le 4611686018427387904 n with hn2 | hn2
    · have hmm : (4611686018427387904 : Int) = (m : Int) := by rw [← hm]; unfold clipN top; omega
      have HMM := Lib.hid hmm
      rw [hm]
      clear hm hmm
      go_enter Tryd.func57, Tryd.ntmps57
      go_wp2_with fail
      go_loopw [0, 3] (fun x v wr => ∃ j : Nat, ∃ pre : List UInt8, x = .int .i64 j ∧ (j : Int) ≤ 4611686018427387904 ∧ (pre.length : Int) ≤ 9 ∧ Hid (pre ++ digs j = digs m ∧ wr.ownsRow w.heap.size 5 1 v pre.length (pre.map c5) ∧ Below w.heap.size w wr)) (fun x _ _ => (intOf x).toNat)
      case atStart => exact ⟨m, [], by first | (rw [← HMM.out]; done) | exact congrArg (Value.int .i64) (by have := HMM.out; omega), hm62, by decide, Lib.hid ⟨rfl, by simpa using World.ownsRow_lit (base := w.heap.size) (e := 5) (size := 1) w #[] 0 (Nat.le_refl _) (by decide) rfl, (Below.refl _ _).alloc (Nat.le_refl _) _⟩⟩
      case round =>
        obtain ⟨j, pre, rfl, hj, hpl, hF⟩ := hrel
        obtain ⟨hpre, hrow, hB⟩ := hF.out
        obtain ⟨q, hq⟩ : ∃ q, pre.length = q := ⟨_, rfl⟩
        obtain ⟨X, hX⟩ : ∃ X, pre.map c5 = X := ⟨_, rfl⟩
        rw [hq, hX] at hrow
        have hle := hB.size
        have hq9 : (q : Int) ≤ 9 := by omega
        have HB := Lib.hid hB
        have HQ := Lib.hid hq
        have HX := Lib.hid hX
        have HP := Lib.hid hpre
        clear hF hB hq hX hpre
        by_cases h128 : 128 ≤ (j : Int)
        · obtain ⟨x, hx⟩ : ∃ x : Nat, j % 128 = x := ⟨_, rfl⟩
          have hx128 : (x : Int) < 128 := by omega
          have e1 : ((j : Int)).tmod 128 = (x : Int) := by rw [← hx]; rfl
          obtain ⟨j2, hj2⟩ : ∃ j2 : Nat, j / 128 = j2 := ⟨_, rfl⟩
          have e2 : ((j : Int)).tdiv 128 = (j2 : Int) := by rw [← hj2]; rfl
          have HB' : Hid (digs j = UInt8.ofNat (j % 128 + 128) :: digs j2) := Lib.hid (by rw [← hj2]; exact digs_big (by omega))
          have hlen : (pre.length : Int) + 1 ≤ 9 := by
            have h1 := congrArg List.length HP.out
            have h2 := digs_nine m (by unfold top; omega)
            have h3 := digs_pos j
            rw [List.length_append] at h1
            omega
          obtain ⟨V, hV⟩ : ∃ V : UInt8, UInt8.ofNat (j % 128 + 128) = V := ⟨_, rfl⟩
          have eV : (128 : Int) + (x : Int) = (V.toNat : Int) := by rw [← hV]; simp; omega
          rw [hV] at HB'
          have hj2l : (j2 : Int) ≤ 4611686018427387904 := by omega
          have hj2d : (j2 : Int) < j := by omega
          clear hx hj2 hV
          go_wp2_with (at_builtin; refine wpList_append_own _ rfl _ _ 116 rfl w.heap.size 5 i0 (.int .u8 0) 1 1 Tryd.underlying116 hi hz0 hz1 hz2 rfl (by decide) _ _ _ rfl (hrow.alloc _) ⟨wr.heap.size, 0, none⟩ 1 1 [.int .u8 (V.toNat : Int)] rfl rfl (cell_one_new _ _ _) (by simp [Value.oneCell']) (by unfold maxLen; omega) (by omega) (by first | omega | (simp; omega)) ?_)
          intro v' w1 hown' hgrow _
          have hB1 : Below w.heap.size w w1 := (HB.out.alloc hle _).grown hgrow (by simp; omega) (fun j hj => (hrow.lt j hj).1)
          have HR := Lib.hid hown'
          have HB1 := Lib.hid hB1
          clear hown' hgrow hB1 hrow
          go_wp2
          go_roundw
          case rel => exact ⟨j2, pre ++ [V], by go_num, hj2l, by simp; omega, Lib.hid ⟨by rw [← HP.out, HB'.out]; simp, by have h := HR.out; rw [← HX.out, ← HQ.out] at h; simpa [c5] using h, HB1.out⟩⟩
          case measure => simp [intOf]; omega
        · have HB' : Hid (digs j = [UInt8.ofNat j]) := Lib.hid (digs_small (by omega))
          obtain ⟨V, hV⟩ : ∃ V : UInt8, UInt8.ofNat j = V := ⟨_, rfl⟩
          have eV : (j : Int) = (V.toNat : Int) := by rw [← hV]; simp; omega
          rw [hV] at HB'
          clear hV
          go_wp2_with (at_builtin; refine wpList_append_own _ rfl _ _ 116 rfl w.heap.size 5 i0 (.int .u8 0) 1 1 Tryd.underlying116 hi hz0 hz1 hz2 rfl (by decide) _ _ _ rfl (hrow.alloc _) ⟨wr.heap.size, 0, none⟩ 1 1 [.int .u8 (V.toNat : Int)] rfl rfl (cell_one_new _ _ _) (by simp [Value.oneCell']) (by unfold maxLen; omega) (by omega) (by first | omega | (simp; omega)) ?_)
          intro v' w1 hown' hgrow _
          have hB1 : Below w.heap.size w w1 := (HB.out.alloc hle _).grown hgrow (by simp; omega) (fun j hj => (hrow.lt j hj).1)
          have HB1 := Lib.hid hB1
          obtain ⟨g, cap, rfl, _, _⟩ := World.ownsRow.form hown' (by omega)
          have hcells := @World.ownsRow.cells _ _ _ _ _ _ _ hown'
          have hconv := run_convert_bytes_back (P := Tryd.prog) w1 116 9 5 ⟨g, 0, none⟩ cap (pre ++ [V]) Tryd.underlying116 Tryd.underlying5 Tryd.underlying9 (fun j hj => hcells (g := g) rfl j _ (by rw [← HX.out, show [Value.int .u8 (V.toNat : Int)] = [V].map c5 from rfl, ← List.map_append, List.getElem?_map, List.getElem?_eq_getElem hj]; rfl))
          rw [List.length_append, HQ.out, show [V].length = 1 from rfl] at hconv
          obtain ⟨D, hD⟩ : ∃ D : ByteArray, (⟨(pre ++ [V]).toArray⟩ : ByteArray) = D := ⟨_, rfl⟩
          have HD : Hid (D.data.toList = pre ++ [V]) := Lib.hid (by rw [← hD])
          rw [hD] at hconv
          clear hown' hgrow hB1 hrow hcells hD
          go_wp2
          go_ret
          exact ⟨D, rfl, by rw [HD.out, ← HP.out, HB'.out], HB1.out⟩
    · obtain rfl : n = (m : Int) := by rw [← hm]; unfold clipN top; omega
      rw [hm]
      clear hm
      go_enter Tryd.func57, Tryd.ntmps57
      go_wp2_with fail
      go_loopw [0, 3] (fun x v wr => ∃ j : Nat, ∃ pre : List UInt8, x = .int .i64 j ∧ (j : Int) ≤ 4611686018427387904 ∧ (pre.length : Int) ≤ 9 ∧ Hid (pre ++ digs j = digs m ∧ wr.ownsRow w.heap.size 5 1 v pre.length (pre.map c5) ∧ Below w.heap.size w wr)) (fun x _ _ => (intOf x).toNat)
      case atStart => exact ⟨m, [], by first | rfl | exact congrArg (Value.int .i64) (by omega), hm62, by decide, Lib.hid ⟨rfl, by simpa using World.ownsRow_lit (base := w.heap.size) (e := 5) (size := 1) w #[] 0 (Nat.le_refl _) (by decide) rfl, (Below.refl _ _).alloc (Nat.le_refl _) _⟩⟩
      case round =>
        obtain ⟨j, pre, rfl, hj, hpl, hF⟩ := hrel
        obtain ⟨hpre, hrow, hB⟩ := hF.out
        obtain ⟨q, hq⟩ : ∃ q, pre.length = q := ⟨_, rfl⟩
        obtain ⟨X, hX⟩ : ∃ X, pre.map c5 = X := ⟨_, rfl⟩
        rw [hq, hX] at hrow
        have hle := hB.size
        have hq9 : (q : Int) ≤ 9 := by omega
        have HB := Lib.hid hB
        have HQ := Lib.hid hq
        have HX := Lib.hid hX
        have HP := Lib.hid hpre
        clear hF hB hq hX hpre
        by_cases h128 : 128 ≤ (j : Int)
        · obtain ⟨x, hx⟩ : ∃ x : Nat, j % 128 = x := ⟨_, rfl⟩
          have hx128 : (x : Int) < 128 := by omega
          have e1 : ((j : Int)).tmod 128 = (x : Int) := by rw [← hx]; rfl
          obtain ⟨j2, hj2⟩ : ∃ j2 : Nat, j / 128 = j2 := ⟨_, rfl⟩
          have e2 : ((j : Int)).tdiv 128 = (j2 : Int) := by rw [← hj2]; rfl
          have HB' : Hid (digs j = UInt8.ofNat (j % 128 + 128) :: digs j2) := Lib.hid (by rw [← hj2]; exact digs_big (by omega))
          have hlen : (pre.length : Int) + 1 ≤ 9 := by
            have h1 := congrArg List.length HP.out
            have h2 := digs_nine m (by unfold top; omega)
            have h3 := digs_pos j
            rw [List.length_append] at h1
            omega
          obtain ⟨V, hV⟩ : ∃ V : UInt8, UInt8.ofNat (j % 128 + 128) = V := ⟨_, rfl⟩
          have eV : (128 : Int) + (x : Int) = (V.toNat : Int) := by rw [← hV]; simp; omega
          rw [hV] at HB'
          have hj2l : (j2 : Int) ≤ 4611686018427387904 := by omega
          have hj2d : (j2 : Int) < j := by omega
          clear hx hj2 hV
          go_wp2_with (at_builtin; refine wpList_append_own _ rfl _ _ 116 rfl w.heap.size 5 i0 (.int .u8 0) 1 1 Tryd.underlying116 hi hz0 hz1 hz2 rfl (by decide) _ _ _ rfl (hrow.alloc _) ⟨wr.heap.size, 0, none⟩ 1 1 [.int .u8 (V.toNat : Int)] rfl rfl (cell_one_new _ _ _) (by simp [Value.oneCell']) (by unfold maxLen; omega) (by omega) (by first | omega | (simp; omega)) ?_)
          intro v' w1 hown' hgrow _
          have hB1 : Below w.heap.size w w1 := (HB.out.alloc hle _).grown hgrow (by simp; omega) (fun j hj => (hrow.lt j hj).1)
          have HR := Lib.hid hown'
          have HB1 := Lib.hid hB1
          clear hown' hgrow hB1 hrow
          go_wp2
          go_roundw
          case rel => exact ⟨j2, pre ++ [V], by go_num, hj2l, by simp; omega, Lib.hid ⟨by rw [← HP.out, HB'.out]; simp, by have h := HR.out; rw [← HX.out, ← HQ.out] at h; simpa [c5] using h, HB1.out⟩⟩
          case measure => simp [intOf]; omega
        · have HB' : Hid (digs j = [UInt8.ofNat j]) := Lib.hid (digs_small (by omega))
          obtain ⟨V, hV⟩ : ∃ V : UInt8, UInt8.ofNat j = V := ⟨_, rfl⟩
          have eV : (j : Int) = (V.toNat : Int) := by rw [← hV]; simp; omega
          rw [hV] at HB'
          clear hV
          go_wp2_with (at_builtin; refine wpList_append_own _ rfl _ _ 116 rfl w.heap.size 5 i0 (.int .u8 0) 1 1 Tryd.underlying116 hi hz0 hz1 hz2 rfl (by decide) _ _ _ rfl (hrow.alloc _) ⟨wr.heap.size, 0, none⟩ 1 1 [.int .u8 (V.toNat : Int)] rfl rfl (cell_one_new _ _ _) (by simp [Value.oneCell']) (by unfold maxLen; omega) (by omega) (by first | omega | (simp; omega)) ?_)
          intro v' w1 hown' hgrow _
          have hB1 : Below w.heap.size w w1 := (HB.out.alloc hle _).grown hgrow (by simp; omega) (fun j hj => (hrow.lt j hj).1)
          have HB1 := Lib.hid hB1
          obtain ⟨g, cap, rfl, _, _⟩ := World.ownsRow.form hown' (by omega)
          have hcells := @World.ownsRow.cells _ _ _ _ _ _ _ hown'
          have hconv := run_convert_bytes_back (P := Tryd.prog) w1 116 9 5 ⟨g, 0, none⟩ cap (pre ++ [V]) Tryd.underlying116 Tryd.underlying5 Tryd.underlying9 (fun j hj => hcells (g := g) rfl j _ (by rw [← HX.out, show [Value.int .u8 (V.toNat : Int)] = [V].map c5 from rfl, ← List.map_append, List.getElem?_map, List.getElem?_eq_getElem hj]; rfl))
          rw [List.length_append, HQ.out, show [V].length = 1 from rfl] at hconv
          obtain ⟨D, hD⟩ : ∃ D : ByteArray, (⟨(pre ++ [V]).toArray⟩ : ByteArray) = D := ⟨_, rfl⟩
          have HD : Hid (D.data.toList = pre ++ [V]) := Lib.hid (by rw [← hD])
          rw [hD] at hconv
          clear hown' hgrow hB1 hrow hcells hD
          go_wp2
          go_ret
          exact ⟨D, rfl, by rw [HD.out, ← HP.out, HB'.out], HB1.out⟩
  · obtain rfl : m = 0 := by rw [← hm]; unfold clipN top; omega
    rw [hm]
    clear hm
    go_enter Tryd.func57, Tryd.ntmps57
    go_wp2_with fail
    go_loopw [0, 3] (fun x v wr => ∃ j : Nat, ∃ pre : List UInt8, x = .int .i64 j ∧ (j : Int) ≤ 4611686018427387904 ∧ (pre.length : Int) ≤ 9 ∧ Hid (pre ++ digs j = digs 0 ∧ wr.ownsRow w.heap.size 5 1 v pre.length (pre.map c5) ∧ Below w.heap.size w wr)) (fun x _ _ => (intOf x).toNat)
    case atStart => exact ⟨0, [], by go_num, hm62, by decide, Lib.hid ⟨rfl, by simpa using World.ownsRow_lit (base := w.heap.size) (e := 5) (size := 1) w #[] 0 (Nat.le_refl _) (by decide) rfl, (Below.refl _ _).alloc (Nat.le_refl _) _⟩⟩
    case round =>
      obtain ⟨j, pre, rfl, hj, hpl, hF⟩ := hrel
      obtain ⟨hpre, hrow, hB⟩ := hF.out
      obtain ⟨q, hq⟩ : ∃ q, pre.length = q := ⟨_, rfl⟩
      obtain ⟨X, hX⟩ : ∃ X, pre.map c5 = X := ⟨_, rfl⟩
      rw [hq, hX] at hrow
      have hle := hB.size
      have hq9 : (q : Int) ≤ 9 := by omega
      have HB := Lib.hid hB
      have HQ := Lib.hid hq
      have HX := Lib.hid hX
      have HP := Lib.hid hpre
      clear hF hB hq hX hpre
      by_cases h128 : 128 ≤ (j : Int)
      · obtain ⟨x, hx⟩ : ∃ x : Nat, j % 128 = x := ⟨_, rfl⟩
        have hx128 : (x : Int) < 128 := by omega
        have e1 : ((j : Int)).tmod 128 = (x : Int) := by rw [← hx]; rfl
        obtain ⟨j2, hj2⟩ : ∃ j2 : Nat, j / 128 = j2 := ⟨_, rfl⟩
        have e2 : ((j : Int)).tdiv 128 = (j2 : Int) := by rw [← hj2]; rfl
        have HB' : Hid (digs j = UInt8.ofNat (j % 128 + 128) :: digs j2) := Lib.hid (by rw [← hj2]; exact digs_big (by omega))
        have hlen : (pre.length : Int) + 1 ≤ 9 := by
          have h1 := congrArg List.length HP.out
          have h2 := digs_nine 0 (by unfold top; omega)
          have h3 := digs_pos j
          rw [List.length_append] at h1
          omega
        obtain ⟨V, hV⟩ : ∃ V : UInt8, UInt8.ofNat (j % 128 + 128) = V := ⟨_, rfl⟩
        have eV : (128 : Int) + (x : Int) = (V.toNat : Int) := by rw [← hV]; simp; omega
        rw [hV] at HB'
        have hj2l : (j2 : Int) ≤ 4611686018427387904 := by omega
        have hj2d : (j2 : Int) < j := by omega
        clear hx hj2 hV
        go_wp2_with (at_builtin; refine wpList_append_own _ rfl _ _ 116 rfl w.heap.size 5 i0 (.int .u8 0) 1 1 Tryd.underlying116 hi hz0 hz1 hz2 rfl (by decide) _ _ _ rfl (hrow.alloc _) ⟨wr.heap.size, 0, none⟩ 1 1 [.int .u8 (V.toNat : Int)] rfl rfl (cell_one_new _ _ _) (by simp [Value.oneCell']) (by unfold maxLen; omega) (by omega) (by first | omega | (simp; omega)) ?_)
        intro v' w1 hown' hgrow _
        have hB1 : Below w.heap.size w w1 := (HB.out.alloc hle _).grown hgrow (by simp; omega) (fun j hj => (hrow.lt j hj).1)
        have HR := Lib.hid hown'
        have HB1 := Lib.hid hB1
        clear hown' hgrow hB1 hrow
        go_wp2
        go_roundw
        case rel => exact ⟨j2, pre ++ [V], by go_num, hj2l, by simp; omega, Lib.hid ⟨by rw [← HP.out, HB'.out]; simp, by have h := HR.out; rw [← HX.out, ← HQ.out] at h; simpa [c5] using h, HB1.out⟩⟩
        case measure => simp [intOf]; omega
      · have HB' : Hid (digs j = [UInt8.ofNat j]) := Lib.hid (digs_small (by omega))
        obtain ⟨V, hV⟩ : ∃ V : UInt8, UInt8.ofNat j = V := ⟨_, rfl⟩
        have eV : (j : Int) = (V.toNat : Int) := by rw [← hV]; simp; omega
        rw [hV] at HB'
        clear hV
        go_wp2_with (at_builtin; refine wpList_append_own _ rfl _ _ 116 rfl w.heap.size 5 i0 (.int .u8 0) 1 1 Tryd.underlying116 hi hz0 hz1 hz2 rfl (by decide) _ _ _ rfl (hrow.alloc _) ⟨wr.heap.size, 0, none⟩ 1 1 [.int .u8 (V.toNat : Int)] rfl rfl (cell_one_new _ _ _) (by simp [Value.oneCell']) (by unfold maxLen; omega) (by omega) (by first | omega | (simp; omega)) ?_)
        intro v' w1 hown' hgrow _
        have hB1 : Below w.heap.size w w1 := (HB.out.alloc hle _).grown hgrow (by simp; omega) (fun j hj => (hrow.lt j hj).1)
        have HB1 := Lib.hid hB1
        obtain ⟨g, cap, rfl, _, _⟩ := World.ownsRow.form hown' (by omega)
        have hcells := @World.ownsRow.cells _ _ _ _ _ _ _ hown'
        have hconv := run_convert_bytes_back (P := Tryd.prog) w1 116 9 5 ⟨g, 0, none⟩ cap (pre ++ [V]) Tryd.underlying116 Tryd.underlying5 Tryd.underlying9 (fun j hj => hcells (g := g) rfl j _ (by rw [← HX.out, show [Value.int .u8 (V.toNat : Int)] = [V].map c5 from rfl, ← List.map_append, List.getElem?_map, List.getElem?_eq_getElem hj]; rfl))
        rw [List.length_append, HQ.out, show [V].length = 1 from rfl] at hconv
        obtain ⟨D, hD⟩ : ∃ D : ByteArray, (⟨(pre ++ [V]).toArray⟩ : ByteArray) = D := ⟨_, rfl⟩
        have HD : Hid (D.data.toList = pre ++ [V]) := Lib.hid (by rw [← hD])
        rw [hD] at hconv
        clear hown' hgrow hB1 hrow hcells hD
        go_wp2
        go_ret
        exact ⟨D, rfl, by rw [HD.out, ← HP.out, HB'.out], HB1.out⟩

theorem num_two (base B : Nat) (z y : Int) (bs : List UInt8) (w : World) (hsz : (bs.length : Int) ≤ 999900) (hbase : base ≤ B) (hO : OutAt base B bs w) (hbw : base ≤ w.heap.size) :
    Calls Tryd.prog 55 #[.pointer (some ⟨B, 0, none⟩), .slice (some ⟨w.heap.size, 0, none⟩) 2 2] (w.alloc (.cells #[.int .i64 z, .int .i64 y] 3)) (Wrote base B (bs ++ (digs (clipN z) ++ digs (clipN y))) (w.alloc (.cells #[.int .i64 z, .int .i64 y] 3))) := by
  have h := num_any base B w.heap.size 0 2 [z, y] bs (w.alloc (.cells #[.int .i64 z, .int .i64 y] 3)) (by simp; omega) hbase (hO.alloc _) (fun w' _ hk i hi => by
    rw [cell_keeps hk (block_new w _) (by decide) (by have := hO.lt; omega), cell_alloc_new]
    match i, hi with
    | 0, _ => rfl
    | 1, _ => rfl
    | i + 2, hi => simp at hi; omega) (by simp; omega)
  simpa [numsOf] using h
theorem append_list (a b : ByteArray) : (a ++ b).data.toList = a.data.toList ++ b.data.toList := by simp
end Go.Proofs.YtkggmcnocpgnbaaDoor.I
