/- Which of a set's spans have numbers of a span: over. -/
import Derived.Test.YtkdkhphpknnceaaDoorHOwn
namespace Go.Proofs.YtkdkhphpknnceaaDoor.H
open Go.RowKit

/-- how many of these begin ahead of n, one behind the other -/
def ovN (n : Int) (l : List Sp) : Nat := (l.takeWhile (fun x => decide (x.1 < n))).length
theorem ovN_le (n : Int) (l : List Sp) : ovN n l ≤ l.length := (List.takeWhile_prefix _).length_le
theorem ovN_spec (n : Int) : ∀ (l : List Sp) (i : Nat) (x : Sp), l[i]? = some x → (i < ovN n l → x.1 < n) ∧ (i = ovN n l → ¬ x.1 < n)
  | [], i, x, h => by simp at h
  | y :: l, i, x, h => by
    unfold ovN
    rw [List.takeWhile_cons]
    by_cases hy : y.1 < n
    · rw [if_pos (by simpa using hy), List.length_cons]
      match i, h with
      | 0, h =>
        obtain rfl : y = x := by simpa using h
        exact ⟨fun _ => hy, fun e => by omega⟩
      | i + 1, h =>
        have := ovN_spec n l i x (by simpa using h)
        unfold ovN at this
        exact ⟨fun h => this.1 (by omega), fun h => this.2 (by omega)⟩
    · rw [if_neg (by simpa using hy)]
      match i, h with
      | 0, h =>
        obtain rfl : y = x := by simpa using h
        exact ⟨fun e => by simp at e, fun _ => hy⟩
      | i + 1, h => exact ⟨fun e => by simp at e, fun e => by simp at e⟩
/-- where the spans with numbers of x begin, and where they end -/
def ovA (x : Sp) (l : List Sp) : Nat := behN x.1 l
def ovB (x : Sp) (l : List Sp) : Nat := ovA x l + ovN x.2 (l.drop (ovA x l))
theorem ovB_le (x : Sp) (l : List Sp) : ovA x l ≤ ovB x l ∧ ovB x l ≤ l.length := by
  have h1 := behN_le x.1 l
  have h2 := ovN_le x.2 (l.drop (ovA x l))
  rw [List.length_drop] at h2
  unfold ovB ovA at *
  omega
theorem ovB_spec (x : Sp) (l : List Sp) (i : Nat) (y : Sp) (hy : l[i]? = some y) (h : ovA x l ≤ i) : (i < ovB x l → y.1 < x.2) ∧ (i = ovB x l → ¬ y.1 < x.2) := by
  have h1 := ovN_spec x.2 (l.drop (ovA x l)) (i - ovA x l) y (by rw [List.getElem?_drop, show ovA x l + (i - ovA x l) = i by omega]; exact hy)
  unfold ovB
  exact ⟨fun e => h1.1 (by omega), fun e => h1.2 (by omega)⟩
def OvPost (x : Sp) (l : List Sp) (w : World) (e : Ending) (w' : World) : Prop := e = .returned (.tuple #[.int .i64 (ovA x l : Int), .int .i64 (ovB x l : Int)]) ∧ Below w.heap.size w w'
set_option maxRecDepth 100000 in
set_option maxHeartbeats 2000000 in
theorem over_any {b : Nat} {M : List Nat} {l : List Sp} {vl : Value} {w : World} {c : Int} (h : SetAt b M l vl w) (hn : Norm c l) (hl : (l.length : Int) ≤ 1000000) (x : Sp) :
    Calls Tryd.prog 43 #[.pointer (some ⟨b, 0, none⟩), .agg #[.int .i64 x.1, .int .i64 x.2]] w (OvPost x l w) := by
  obtain ⟨P, hP⟩ : ∃ P, OvPost x l w = P := ⟨_, rfl⟩
  rw [hP]
  have HP := Lib.hid hP
  obtain ⟨N, hN⟩ : ∃ N, l.length = N := ⟨_, rfl⟩
  obtain ⟨K, hK⟩ : ∃ K, ovA x l = K := ⟨_, rfl⟩
  obtain ⟨K2, hK2⟩ : ∃ K, ovB x l = K := ⟨_, rfl⟩
  have hle := ovB_le x l
  have hspec := fun i y hy h => ovB_spec x l i y hy h
  rw [hK, hK2, hN] at hle
  simp only [hK, hK2] at hspec
  have hb1 : Below w.heap.size w (w.alloc (.cells #[.int .i64 x.1, .int .i64 x.2] 38)) := (Below.refl _ _).alloc (Nat.le_refl _) _
  have h' := h.below hb1
  have HC := Lib.hid (behind_any h' hn hl x.1)
  rw [show behN x.1 l = K from hK] at HC
  have HP2 : Hid (∀ w', Below w.heap.size w w' → P (.returned (.tuple #[.int .i64 (K : Int), .int .i64 (K2 : Int)])) w') := Lib.hid (fun w' hb => by rw [← hP, ← hK, ← hK2]; exact ⟨rfl, hb⟩)
  obtain ⟨a, cp, hv, hI, -, hA⟩ := h'.own.shape
  subst hv
  obtain ⟨x1, x2⟩ := x
  simp only at hspec HC
  have HS := Lib.hid h'
  have HI := Lib.hid hI
  have HSP := Lib.hid hspec
  have HN := Lib.hid hN
  have HB0 := Lib.hid hb1
  have hNl : (N : Int) ≤ 1000000 := by omega
  have hle1 := hle.1
  have hle2 := hle.2
  rw [hN] at HI
  clear hP h hn hl hN hI hA hb1 h' hspec hle hK hK2
  go_enter Tryd.func43, Tryd.ntmps43
  go_wp2_with fail
  refine HC.out.mono ?_
  rintro e w1 ⟨rfl, hb⟩
  have hx1 : w1.cell? ⟨w.heap.size, 1, none⟩ = some (.int .i64 x2) := by rw [hb.cell (by simp)]; simp
  have HB := Lib.hid hb
  have HX1 := Lib.hid hx1
  clear hb hx1
  go_wp2_with fail
  go_loopw [7] (fun i wr => ∃ t : Nat, K ≤ t ∧ t ≤ K2 ∧ i = .int .i64 (t : Int) ∧ Hid (Below w1.heap.size w1 wr)) (fun i _ => N - (intOf i).toNat)
  case atStart => exact ⟨K, by omega, by omega, rfl, Lib.hid (Below.refl _ _)⟩
  case round =>
    rename_i wr
    obtain ⟨t, ht1, ht2, rfl, HBr⟩ := hrel
    have hS := ((HS.out.below HB.out).below HBr.out).c0
    rw [HN.out] at hS
    have z0 := fun d os => cell_regrown hS d os
    have hX : wr.cell? ⟨w.heap.size, 1, none⟩ = some (.int .i64 x2) := by rw [HBr.out.cell (block_lt_of_cell HX1.out)]; exact HX1.out
    have z1 := fun d os => cell_regrown hX d os
    clear hS hX
    by_cases hlt : t < N
    · obtain ⟨y, hy⟩ : ∃ y, l[t]? = some y := ⟨_, List.getElem?_eq_getElem (by rw [HN.out]; exact hlt)⟩
      obtain ⟨g, off, rfl, hgl, hat⟩ := HI.out.at_.resolve_left (by intro e; rw [e] at hy; cases hy)
      have hY : wr.cell? ⟨g, off + t * 2, none⟩ = some (.int .i64 y.1) := by rw [HBr.out.cell (Nat.lt_of_lt_of_le hgl HB.out.size), HB.out.cell hgl]; exact (hat t y hy).1
      have z2 := fun d os => cell_regrown hY d os
      have hsp := HSP.out t y hy ht1
      obtain ⟨y1, hy1⟩ : ∃ y1, y.1 = y1 := ⟨_, rfl⟩
      rw [hy1] at hY z2 hsp
      have hti : (t : Int) < (N : Int) := by omega
      have hkd : decide (t < N) = true := by simpa using hlt
      clear hy1 hat hy hY
      by_cases hlt2 : t < K2
      · have hd : decide (y1 < x2) = true := by have := hsp.1 hlt2; simpa using this
        clear hsp hlt
        go_upto_region 3 with fail
        refine wp_region_quiet_below (by kernel_rfl) (by kernel_rfl) ?_
        repeat (go_big_quiet_step (fail))
        refine wpQuiet_nil ?_
        intro _ hw'
        obtain ⟨⟨dq, osq⟩, hw''⟩ := hw'
        have HBr2 : Hid (Below w1.heap.size w1 (Go.Sort.grow (redrawn wr dq) osq)) := Lib.hid (HBr.out.trans ((below_regrown _ _ _).mono HBr.out.size))
        subst hw''
        go_wp2
        go_roundw
        case rel => exact ⟨t + 1, by omega, by omega, by go_num, HBr2⟩
        case measure => simp [intOf]; omega
      · obtain rfl : t = K2 := by omega
        have hd : decide (y1 < x2) = false := by have := hsp.2 rfl; simpa using this
        clear hsp hlt
        go_upto_region 3 with fail
        refine wp_region_quiet_below (by kernel_rfl) (by kernel_rfl) ?_
        repeat (go_big_quiet_step (fail))
        refine wpQuiet_nil ?_
        intro _ hw'
        obtain ⟨⟨dq, osq⟩, hw''⟩ := hw'
        have HBr2 : Hid (Below w1.heap.size w1 (Go.Sort.grow (redrawn wr dq) osq)) := Lib.hid (HBr.out.trans ((below_regrown _ _ _).mono HBr.out.size))
        subst hw''
        go_wp2
        exact HP2.out _ ((HB0.out.trans (HB.out.mono HB0.out.size)).trans (HBr2.out.mono (Nat.le_trans HB0.out.size HB.out.size)))
    · obtain rfl : t = K2 := by omega
      obtain rfl : t = N := by omega
      go_upto_region 3 with fail
      refine wp_region_quiet_below (by kernel_rfl) (by kernel_rfl) ?_
      repeat (go_big_quiet_step (fail))
      refine wpQuiet_nil ?_
      intro _ hw'
      obtain ⟨⟨dq, osq⟩, hw''⟩ := hw'
      have HBr2 : Hid (Below w1.heap.size w1 (Go.Sort.grow (redrawn wr dq) osq)) := Lib.hid (HBr.out.trans ((below_regrown _ _ _).mono HBr.out.size))
      subst hw''
      go_wp2
      exact HP2.out _ ((HB0.out.trans (HB.out.mono HB0.out.size)).trans (HBr2.out.mono (Nat.le_trans HB0.out.size HB.out.size)))
end Go.Proofs.YtkdkhphpknnceaaDoor.H
