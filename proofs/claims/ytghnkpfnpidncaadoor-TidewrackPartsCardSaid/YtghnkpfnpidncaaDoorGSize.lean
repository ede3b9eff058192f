/- The contracts of Gram's size, Check, Num. -/
import Derived.Test.YtghnkpfnpidncaaDoorGBase
namespace Go.Proofs.YtghnkpfnpidncaaDoor.G
open Go.RowKit Go.Proofs.YtghnkpfnpidncaaDoor.I

/-- How many bytes a datagram has. -/
def sizeN (e k : Int) (zs : List Int) (n : Nat) : Nat := (digs (clipN e)).length + (digs (clipN k)).length + (digs (clipN zs.length)).length + (numsOf zs).length + (digs (clipN n)).length + n + 4
theorem nine (v : Int) : (digs (clipN v)).length ≤ 9 := digs_nine _ (clipN_le v)
theorem nums_step (zs : List Int) (j : Nat) (h : j < zs.length) : (numsOf (zs.take (j + 1))).length = (numsOf (zs.take j)).length + (digs (clipN (zs.getD j 0))).length := by
  rw [numsOf_snoc zs j h, List.length_append]
theorem nums_some (zs : List Int) (j : Nat) (h : j ≤ zs.length) : (numsOf (zs.take j)).length ≤ 9 * j := by
  have := numsOf_le (zs.take j)
  rw [List.length_take] at this
  omega

theorem cell_step {w1 v : World} {B j : Nat} {x : Value} (h : Below w1.heap.size w1 v) (hB : B < w1.heap.size) (hc : w1.cell? ⟨B, j, none⟩ = some x) : v.cell? ⟨B, j, none⟩ = some x := (h.cell (p := ⟨B, j, none⟩) hB).trans hc
theorem below_step {w1 u v : World} (h : Below w1.heap.size w1 u) (hb : Below u.heap.size u v) : Below w1.heap.size w1 v := h.trans (hb.mono h.size)

set_option maxRecDepth 100000 in
set_option maxHeartbeats 4000000 in
theorem size_any (e k : Int) (a : Option Addr) (len cap : Nat) (d : ByteArray) (zs : List Int) (w : World) (h : NumsIn a len zs w) (h64 : (len : Int) ≤ 64) (hd : (d.size : Int) ≤ 100000000) :
    Calls Tryd.prog 31 #[gramV e k a len cap d] w fun en w' => en = .returned (.int .i64 (sizeN e k zs d.size : Nat)) ∧ Below w.heap.size w w' := by
  unfold gramV
  obtain ⟨w1, hw1⟩ : ∃ w1, w.alloc (.cells #[.int .i64 e, .int .i64 k, .slice a len cap, .string d] 26) = w1 := ⟨_, rfl⟩
  have hb1 : Below w.heap.size w w1 := by rw [← hw1]; exact (Below.refl _ _).alloc (Nat.le_refl _) _
  have hbox : w1.heap[w.heap.size]? = some (.cells #[.int .i64 e, .int .i64 k, .slice a len cap, .string d] 26 (0, 0)) := by rw [← hw1]; exact World.alloc_heap_new _ _
  obtain ⟨B, hB⟩ : ∃ B, w.heap.size = B := ⟨_, rfl⟩
  have hBl : B < w1.heap.size := by rw [← hB]; exact (Array.getElem?_eq_some_iff.1 hbox).1
  have HB1 := Lib.hid hb1
  have HN := Lib.hid (h.below hb1)
  have HLen := Lib.hid h.1
  rw [hB] at hbox
  have HBox := Lib.hid hbox
  have HBl := Lib.hid hBl
  have c0 : w1.cell? ⟨B, 0, none⟩ = some (.int .i64 e) := by rw [Lib.cell_of_heap hbox]; rfl
  have c1 : w1.cell? ⟨B, 1, none⟩ = some (.int .i64 k) := by rw [Lib.cell_of_heap hbox]; rfl
  have c2 : w1.cell? ⟨B, 2, none⟩ = some (.slice a len cap) := by rw [Lib.cell_of_heap hbox]; rfl
  obtain ⟨S0, hS0⟩ : ∃ S0, (digs (clipN e)).length = S0 := ⟨_, rfl⟩
  obtain ⟨S1, hS1⟩ : ∃ S1, (digs (clipN k)).length = S1 := ⟨_, rfl⟩
  obtain ⟨S2, hS2⟩ : ∃ S2, (digs (clipN (len : Int))).length = S2 := ⟨_, rfl⟩
  have l0 : (S0 : Int) ≤ 9 := by have := nine e; omega
  have l1 : (S1 : Int) ≤ 9 := by have := nine k; omega
  have l2 : (S2 : Int) ≤ 9 := by have := nine (len : Int); omega
  have HS0 := Lib.hid hS0
  have HS1 := Lib.hid hS1
  have HS2 := Lib.hid hS2
  have HW1 := Lib.hid hw1
  have HB := Lib.hid hB
  clear hS0 hS1 hS2 hb1 hbox hBl h
  go_enter Tryd.func31, Tryd.ntmps31
  go_upto_region 1 with fail

  clear hw1 hB
  go_cut [3] (fun s3 wx => s3 = .int .i64 ((S0 : Int) + S1 + S2) ∧ Below w1.heap.size w1 wx)
  case first =>
    go_region_held3 (fun w' => Below w1.heap.size w1 w' ∧ w'.cell? ⟨B, 0, none⟩ = some (.int .i64 e) ∧ w'.cell? ⟨B, 1, none⟩ = some (.int .i64 k) ∧ w'.cell? ⟨B, 2, none⟩ = some (.slice a len cap))
      (first | (exact ⟨(Below.refl _ w1).drew, by simpa using c0, by simpa using c1, by simpa using c2⟩) | (go_split_ands; have hp : Below w1.heap.size w1 w' := below_step (by assumption) hb; exact ⟨hp, cell_step hp HBl.out c0, cell_step hp HBl.out c1, cell_step hp HBl.out c2⟩))
      (first | (go_at_call 53; refine (Go.Proofs.YtghnkpfnpidncaaDoor.I.size_any _ _).mono ?_; rintro e' w' ⟨rfl, hb⟩))
    go_wp2_with fail
    go_meet
    go_split_ands
    have e1 := IntWalk.i64_in ((S0 : Int) + S1) (by omega)
    have e2 := IntWalk.i64_in ((S0 : Int) + S1 + S2) (by omega)
    exact ⟨by rw [HS0.out, HS1.out, HS2.out, e1, e2], by assumption⟩
  case rest =>
    obtain ⟨rfl, hbc⟩ := hcut
    have HC := Lib.hid hbc
    have d0 := (hbc.cell (p := ⟨B, 0, none⟩) HBl.out).trans c0
    have d2 := (hbc.cell (p := ⟨B, 2, none⟩) HBl.out).trans c2
    clear hbc c0 c1 c2
    have HH := Lib.hid hd
    clear hd
    go_wp2
    go_loopw [3, 5, 21] (fun s _ i wr => ∃ j M : Nat, j ≤ len ∧ i = .int .i64 j ∧ s = .int .i64 M ∧ (M : Int) ≤ 27 + 9 * j ∧ Hid (M = S0 + S1 + S2 + (numsOf (zs.take j)).length ∧ Below w1.heap.size w1 wr)) (fun _ _ i _ => len - (intOf i).toNat)
    case atStart => exact ⟨0, S0 + S1 + S2, by omega, rfl, by go_num, by omega, Lib.hid ⟨by simp [numsOf], HC.out⟩⟩
    case round =>
      obtain ⟨j, M, hj, rfl, rfl, hM, hF⟩ := hrel
      by_cases hlt : j < len
      · have hjz : j < zs.length := by rw [← HLen.out]; exact hlt
        obtain ⟨b, off, rfl, hbl, hI⟩ := HN.out.2.resolve_left (by intro e; rw [e] at hjz; simp at hjz)
        have hc := (hF.out.2.cell (p := ⟨b, off + j, none⟩) hbl).trans (hI j hjz)
        obtain ⟨z, hz⟩ : ∃ z, zs.getD j 0 = z := ⟨_, rfl⟩
        obtain ⟨D, hD⟩ : ∃ D, (digs (clipN z)).length = D := ⟨_, rfl⟩
        have hD9 : (D : Int) ≤ 9 := by have := nine z; omega
        have hst := nums_step zs j hjz
        rw [hz] at hc hst
        rw [hD] at hst
        have HSt := Lib.hid hst
        have HE : Hid (∀ u, Calls Tryd.prog 53 #[.int .i64 z] u fun en w' => en = .returned (.int .i64 D) ∧ Below u.heap.size u w') := Lib.hid fun u => by rw [← hD]; exact I.size_any z u
        have HF := Lib.hid hF.out
        clear hz hD hst hI hjz hbl hF
        go_wp2_with fail
        refine (HE.out _).mono ?_
        rintro e' w2 ⟨rfl, hb2⟩
        have HB2 : Hid (Below w1.heap.size w1 w2) := Lib.hid (below_step HF.out.2 hb2)
        clear hb2
        go_wp2
        go_roundw
        case rel => exact ⟨j + 1, M + D, by omega, by go_num, by go_num, by omega, Lib.hid ⟨by rw [HSt.out, HF.out.1]; omega, HB2.out⟩⟩
        case measure => simp [intOf]; omega
      · obtain rfl : j = len := by omega
        have d3 := (hF.out.2.cell (p := ⟨B, 3, none⟩) HBl.out).trans (show w1.cell? ⟨B, 3, none⟩ = some (.string d) by rw [Lib.cell_of_heap HBox.out]; rfl)
        have d3w := d3
        obtain ⟨S4, hS4⟩ : ∃ S4, (digs (clipN d.size)).length = S4 := ⟨_, rfl⟩
        have l4 : (S4 : Int) ≤ 9 := by have := nine d.size; omega
        have HE4 : Hid (∀ u, Calls Tryd.prog 53 #[.int .i64 d.size] u fun en w' => en = .returned (.int .i64 S4) ∧ Below u.heap.size u w') := Lib.hid fun u => by rw [← hS4]; exact I.size_any d.size u
        have HR : Hid (sizeN e k zs d.size = M + S4 + d.size + 4) := Lib.hid (by
          have h := hF.out.1
          rw [HLen.out, List.take_length] at h
          unfold sizeN
          rw [h, hS4, ← HLen.out, HS0.out, HS1.out, HS2.out])
        have HF : Hid (Below w1.heap.size w1 wr) := Lib.hid hF.out.2
        have hBr : B < wr.heap.size := Nat.lt_of_lt_of_le HBl.out hF.out.2.size
        have HBr := Lib.hid hBr
        have hH := HH.out
        have e1 := IntWalk.i64_in ((M : Int) + S4) (by omega)
        have e2 := IntWalk.i64_in ((M : Int) + S4 + d.size) (by omega)
        have e3 := IntWalk.i64_in ((M : Int) + S4 + d.size + 4) (by omega)
        have E1 := Lib.hid e1
        have E2 := Lib.hid e2
        have E3 := Lib.hid e3
        clear hF hS4 hBr e1 e2 e3
        go_upto_region 7 with fail
        go_region_held3 (fun w' => Below wr.heap.size wr w' ∧ w'.cell? ⟨B, 3, none⟩ = some (.string d))
          (first | (exact ⟨(Below.refl _ wr).drew, by simpa using d3⟩) | (go_split_ands; have hp : Below wr.heap.size wr w' := below_step (by assumption) hb; exact ⟨hp, cell_step hp HBr.out d3w⟩))
          (first | (go_at_call 53; refine (HE4.out _).mono ?_; rintro e' w' ⟨rfl, hb⟩))
        go_split_ands
        have hq : Below wr.heap.size wr w' := by assumption
        have HQ := Lib.hid hq
        clear hq
        go_wp2
        rw [E1.out, E2.out, E3.out]
        go_ret
        exact ⟨ret_int (by rw [HR.out]; omega), HB1.out.trans ((HF.out.trans (HQ.out.mono HF.out.size)).mono HB1.out.size)⟩

/-- What Check answers. -/
def checkS (e k : Int) (zs : List Int) (n : Nat) : Nat := if soundS e k zs = true then (if 8192 < sizeN e k zs n then 3 else 0) else 6
theorem sound_len {e k : Int} {zs : List Int} (h : soundS e k zs = true) : zs.length ≤ 64 := by
  unfold soundS at h
  have h1 := (Bool.and_eq_true _ _ |>.mp h).1
  exact (of_decide_eq_true h1).2.2.2.2
set_option maxHeartbeats 400000 in
theorem check_any (e k : Int) (a : Option Addr) (len cap : Nat) (d : ByteArray) (zs : List Int) (w : World) (h : NumsIn a len zs w) (hd : (d.size : Int) ≤ 100000000) :
    Calls Tryd.prog 12 #[gramV e k a len cap d] w fun en w' => en = .returned (.int .i64 (checkS e k zs d.size : Nat)) ∧ Below w.heap.size w w' := by
  obtain ⟨w1, hw1⟩ : ∃ w1, w.alloc (.cells #[.int .i64 e, .int .i64 k, .slice a len cap, .string d] 26) = w1 := ⟨_, rfl⟩
  have hb1 : Below w.heap.size w w1 := by rw [← hw1]; exact (Below.refl _ _).alloc (Nat.le_refl _) _
  have hbox : w1.heap[w.heap.size]? = some (.cells #[.int .i64 e, .int .i64 k, .slice a len cap, .string d] 26 (0, 0)) := by rw [← hw1]; exact World.alloc_heap_new _ _
  obtain ⟨B, hB⟩ : ∃ B, w.heap.size = B := ⟨_, rfl⟩
  have hBl : B < w1.heap.size := by rw [← hB]; exact (Array.getElem?_eq_some_iff.1 hbox).1
  rw [hB] at hbox
  have c0 : w1.cell? ⟨B, 0, none⟩ = some (.int .i64 e) := by rw [Lib.cell_of_heap hbox]; rfl
  have c1 : w1.cell? ⟨B, 1, none⟩ = some (.int .i64 k) := by rw [Lib.cell_of_heap hbox]; rfl
  have c2 : w1.cell? ⟨B, 2, none⟩ = some (.slice a len cap) := by rw [Lib.cell_of_heap hbox]; rfl
  have c3 : w1.cell? ⟨B, 3, none⟩ = some (.string d) := by rw [Lib.cell_of_heap hbox]; rfl
  have HS := Lib.hid (sound_any e k a len cap d zs w1 (h.below hb1))
  have HN := Lib.hid (h.below hb1)
  have HLen := Lib.hid h.1
  have HB1 := Lib.hid hb1
  have HBl := Lib.hid hBl
  have HD := Lib.hid hd
  obtain ⟨R, hR⟩ : ∃ R, checkS e k zs d.size = R := ⟨_, rfl⟩
  rw [hR]
  obtain ⟨b, hb⟩ : ∃ b, soundS e k zs = b := ⟨_, rfl⟩
  rw [hb] at HS
  have HR : Hid (R = if b = true then (if 8192 < sizeN e k zs d.size then 3 else 0) else 6) := Lib.hid (by rw [← hR, ← hb]; rfl)
  have HL : Hid (b = true → (len : Int) ≤ 64) := Lib.hid fun e => by rw [e] at hb; have := sound_len hb; rw [h.1]; omega
  clear hR hb hbox hBl hb1 h hd
  unfold gramV at *
  go_enter Tryd.func12, Tryd.ntmps12
  go_upto_region 1 with fail
  clear hw1 hB
  go_wp2_with fail
  refine HS.out.mono ?_
  rintro en w2 ⟨rfl, hb2⟩
  have d0 := cell_step hb2 HBl.out c0
  have d1 := cell_step hb2 HBl.out c1
  have d2 := cell_step hb2 HBl.out c2
  have d3 := cell_step hb2 HBl.out c3
  have HB2 : Hid (Below w.heap.size w w2) := Lib.hid (HB1.out.trans (hb2.mono HB1.out.size))
  clear c0 c1 c2 c3
  cases b with
  | false =>
    clear d0 d1 d2 d3 hb2
    go_wp2
    go_ret
    exact ⟨ret_int (by rw [HR.out]; rfl), HB2.out⟩
  | true =>
    have HZ := Lib.hid (size_any e k a len cap d zs w2 (HN.out.below hb2) (HL.out rfl) HD.out)
    obtain ⟨Z, hZ⟩ : ∃ Z, sizeN e k zs d.size = Z := ⟨_, rfl⟩
    rw [hZ] at HR HZ
    unfold gramV at HZ
    clear hb2 hZ
    go_wp2_with fail
    refine HZ.out.mono ?_
    rintro en w3 ⟨rfl, hb3⟩
    have HB3 : Hid (Below w.heap.size w w3) := Lib.hid (HB2.out.trans (hb3.mono HB2.out.size))
    clear hb3 d0 d1 d2 d3
    by_cases h8 : (8192 : Int) < Z
    · have HR2 : Hid (R = 3) := Lib.hid (by rw [HR.out, if_pos trivial, if_pos (by omega)])
      go_wp2
      go_ret
      exact ⟨ret_int (by rw [HR2.out]; rfl), HB3.out⟩
    · have HR2 : Hid (R = 0) := Lib.hid (by rw [HR.out, if_pos trivial, if_neg (by omega)])
      go_wp2
      go_ret
      exact ⟨ret_int (by rw [HR2.out]; rfl), HB3.out⟩

/-- What Num answers. -/
def numAt (zs : List Int) (i : Int) : Int := if 0 ≤ i ∧ i < zs.length then zs.getD i.toNat 0 else 0
theorem gnum_any (e k : Int) (a : Option Addr) (len cap : Nat) (d : ByteArray) (zs : List Int) (i : Int) (w : World) (h : NumsIn a len zs w) :
    Calls Tryd.prog 15 #[gramV e k a len cap d, .int .i64 i] w fun en w' => en = .returned (.int .i64 (numAt zs i)) ∧ Below w.heap.size w w' := by
  have hb1 : Below w.heap.size w (w.alloc (.cells #[.int .i64 e, .int .i64 k, .slice a len cap, .string d] 26)) := (Below.refl _ _).alloc (Nat.le_refl _) _
  have HB1 := Lib.hid hb1
  have HN := Lib.hid (h.below hb1)
  have hlen := h.1
  unfold gramV
  by_cases hin : 0 ≤ i ∧ i < zs.length
  · obtain ⟨j, rfl⟩ := Int.eq_ofNat_of_zero_le hin.1
    have hj : j < zs.length := by omega
    obtain ⟨b, off, rfl, _, hI⟩ := HN.out.2.resolve_left (by intro e; rw [e] at hj; simp at hj)
    have hc := hI j hj
    have hr : numAt zs (j : Int) = zs.getD j 0 := by unfold numAt; rw [if_pos hin, Int.toNat_natCast]
    rw [hr]
    obtain ⟨z, hz⟩ : ∃ z, zs.getD j 0 = z := ⟨_, rfl⟩
    rw [hz] at hc ⊢
    have hjl : (j : Int) < len := by omega
    clear hz hr hI hj hin hlen h hb1
    go_enter Tryd.func15, Tryd.ntmps15
    go_wp2
    go_ret
    exact ⟨rfl, HB1.out⟩
  · have hr : numAt zs i = 0 := by unfold numAt; rw [if_neg hin]
    rw [hr]
    have hcase : i < 0 ∨ (0 ≤ i ∧ (len : Int) ≤ i) := by omega
    clear hr hin hlen h hb1
    rcases hcase with h0 | ⟨h0, h1⟩
    all_goals
      go_enter Tryd.func15, Tryd.ntmps15
      go_wp2
      go_ret
      exact ⟨rfl, HB1.out⟩
end Go.Proofs.YtghnkpfnpidncaaDoor.G
