/- In ground, bytes that are no controls print their runes. -/
import Derived.Test.YtfapmgecebcfaaaDoorQBig
import Derived.Test.YtfapmgecebcfaaaDoorRows
import Derived.Test.YtfapmgecebcfaaaDoorYMath
import Derived.WalkKit
import Derived.WalkLawsBesides
import Derived.WalkSpells
import Derived.Outline
import Derived.Lib.Hide
import Derived.Below
import Derived.IntWalk
import Derived.OwnWalk
import Derived.Laws.ResultCell
import Derived.RangeFuncBox
namespace Go.Proofs.YtfapmgecebcfaaaDoor.Q
open Go.Proofs.YtfapmgecebcfaaaDoor.Y

theorem take_ground (p : PS) (h : p.state = 0) (b : UInt8) (hc : ¬ ctlB b.toNat) : takeS p b = groundS p b.toNat := by
  unfold takeS coreS
  rw [if_neg (by omega), if_neg (by omega), if_neg hc, if_neg (by omega), if_neg (by omega), if_neg (by omega)]
theorem prints_append (a b : List Nat) : prints (a ++ b) = prints a ++ prints b := List.map_append ..
theorem feed_ground : ∀ (l : List UInt8) (p : PS), p.state = 0 → (∀ b ∈ l, ¬ ctlB b.toNat) → feedS p l = ({ p with dec := (runS p.dec l).1 }, prints (runS p.dec l).2)
  | [], p, _, _ => rfl
  | b :: l, p, h, hc => by
    have e := take_ground p h b (hc b (by simp))
    simp only [feedS, e, runS]
    rw [show groundS p b.toNat = ({ p with dec := (stepS p.dec b.toNat).1 }, prints (stepS p.dec b.toNat).2) from rfl]
    have ih := feed_ground l { p with dec := (stepS p.dec b.toNat).1 } h (fun x hx => hc x (by simp [hx]))
    simp only [ih, prints_append]
theorem ctl_high {n : Nat} (h : 128 ≤ n) : ¬ ctlB n := by unfold ctlB; omega
theorem enc_ctl {c : Nat} (hv : validN c) (h32 : 32 ≤ c) (h127 : c ≠ 127) : ∀ b ∈ encN c, ¬ ctlB b := by
  intro b hb
  unfold encN at hb
  split at hb
  · obtain rfl : b = c := by simpa using hb
    unfold ctlB; omega
  · split at hb
    · simp only [List.mem_cons, List.not_mem_nil, or_false] at hb
      rcases hb with rfl | rfl <;> exact ctl_high (by omega)
    · split at hb
      · simp only [List.mem_cons, List.not_mem_nil, or_false] at hb
        rcases hb with rfl | rfl | rfl <;> exact ctl_high (by omega)
      · simp only [List.mem_cons, List.not_mem_nil, or_false] at hb
        rcases hb with rfl | rfl | rfl | rfl <;> exact ctl_high (by omega)
theorem fix_plain {z : Int} (h32 : 32 ≤ z) (h127 : z ≠ 127) : 32 ≤ fixI z ∧ fixI z ≠ 127 := by
  unfold fixI
  split
  · exact ⟨by decide, by decide⟩
  · omega
theorem encS_ctl {z : Int} (h32 : 32 ≤ z) (h127 : z ≠ 127) : ∀ b ∈ encS z, ¬ ctlB b.toNat := by
  intro b hb
  unfold encS at hb
  obtain ⟨n, hn, rfl⟩ := List.mem_map.1 hb
  have hlt := encN_lt (fixI_valid z) n hn
  have := enc_ctl (fixI_valid z) (fix_plain h32 h127).1 (fix_plain h32 h127).2 n hn
  rwa [show (UInt8.ofNat n).toNat = n by simp; omega]
theorem feed_encs (l : List Int) (h : ∀ z ∈ l, 32 ≤ z ∧ z ≠ 127) : (feedS (fresh 0) (l.flatMap encS)).2 = prints (l.map fixI) := by
  rw [feed_ground _ (fresh 0) rfl (by
    intro b hb
    obtain ⟨z, hz, hb⟩ := List.mem_flatMap.1 hb
    exact encS_ctl (h z hz).1 (h z hz).2 b hb)]
  show prints (runS .zero (l.flatMap encS)).2 = _
  rw [encs_run]
end Go.Proofs.YtfapmgecebcfaaaDoor.Q

/- The contract of glyph.leadOf: of any byte, what it asks for as a first one, in a world that holds the first bytes. -/
namespace Go.Proofs.YtfapmgecebcfaaaDoor.Y
open Go.RowKit

/-- A first byte's row, as a value. -/
def rowV (x : Row) : Value := .agg #[.int .u8 (x.1 : Int), .int .u8 (x.2.1 : Int), .int .u8 (x.2.2.1 : Int), .int .i64 (x.2.2.2.1 : Int), .int .u8 (x.2.2.2.2.1 : Int), .int .u8 (x.2.2.2.2.2 : Int)]
/-- The cells of a row. -/
structure RowAt (w : World) (b o : Nat) (x : Row) : Prop where
  c0 : w.cell? ⟨b, o, none⟩ = some (.int .u8 (x.1 : Int))
  c1 : w.cell? ⟨b, o + 1, none⟩ = some (.int .u8 (x.2.1 : Int))
  c2 : w.cell? ⟨b, o + 2, none⟩ = some (.int .u8 (x.2.2.1 : Int))
  c3 : w.cell? ⟨b, o + 3, none⟩ = some (.int .i64 (x.2.2.2.1 : Int))
  c4 : w.cell? ⟨b, o + 4, none⟩ = some (.int .u8 (x.2.2.2.2.1 : Int))
  c5 : w.cell? ⟨b, o + 5, none⟩ = some (.int .u8 (x.2.2.2.2.2 : Int))
/-- The world holds the first bytes. -/
def Tab (w : World) : Prop := ∀ k, k < 9 → RowAt w 0 (k * 6) (tab.getD k zeroRow)
theorem Tab.pos {w : World} (h : Tab w) : 0 < w.heap.size := World.block_lt_of_cell? w _ (h 0 (by decide)).c0
theorem RowAt.below {w w' : World} {b o : Nat} {x : Row} (h : RowAt w b o x) {B : Nat} (hb : Below B w w') (h0 : b < B) : RowAt w' b o x :=
  ⟨(hb.cell (p := ⟨b, o, none⟩) h0).trans h.c0, (hb.cell (p := ⟨b, o + 1, none⟩) h0).trans h.c1, (hb.cell (p := ⟨b, o + 2, none⟩) h0).trans h.c2, (hb.cell (p := ⟨b, o + 3, none⟩) h0).trans h.c3, (hb.cell (p := ⟨b, o + 4, none⟩) h0).trans h.c4, (hb.cell (p := ⟨b, o + 5, none⟩) h0).trans h.c5⟩
theorem Tab.below {w w' : World} (h : Tab w) {B : Nat} (hb : Below B w w') (h0 : 0 < B) : Tab w' := fun k hk => (h k hk).below hb h0
theorem Tab.belowAll {w w' : World} (h : Tab w) (hb : Below w.heap.size w w') : Tab w' := h.below hb h.pos
/-- A row in a block. -/
def LBlk (p : Nat) (x : Row) (w : World) : Prop := w.heap[p]? = some (.cells #[.int .u8 (x.1 : Int), .int .u8 (x.2.1 : Int), .int .u8 (x.2.2.1 : Int), .int .i64 (x.2.2.2.1 : Int), .int .u8 (x.2.2.2.2.1 : Int), .int .u8 (x.2.2.2.2.2 : Int)] 76 (0, 0))
theorem LBlk.lt {p : Nat} {x : Row} {w : World} (h : LBlk p x w) : p < w.heap.size := (Array.getElem?_eq_some_iff.1 h).1
theorem LBlk.row {p : Nat} {x : Row} {w : World} (h : LBlk p x w) : RowAt w p 0 x := by
  constructor <;> simp [World.cell?, show w.heap[p]? = _ from h]
theorem LBlk.fr {p : Nat} {x : Row} {w : World} (h : LBlk p x w) (o : Nat) : w.frozen? ⟨p, o, none⟩ = false := by simp [World.frozen?, show w.heap[p]? = _ from h]
theorem LBlk.below {p : Nat} {x : Row} {w w' : World} {B : Nat} (h : LBlk p x w) (hb : Below B w w') (hp : p < B) : LBlk p x w' := (hb.block p hp).trans h
def LeadPost (b : Nat) (w : World) (e : Ending) (w' : World) : Prop := e = .returned (.tuple #[rowV ((leadS b).getD zeroRow), .bool (leadS b).isSome]) ∧ Below w.heap.size w w'

set_option maxRecDepth 100000 in
set_option maxHeartbeats 2000000 in
theorem leadOf_any (b : Nat) (hb : (b : Int) < 256) (w : World) (hT : Tab w) : Calls Tryd.prog 46 #[.int .u8 (b : Int)] w (LeadPost b w) := by
  have HT := Lib.hid hT
  obtain ⟨R, hR⟩ : ∃ R, leadS b = R := ⟨_, rfl⟩
  have HR0 : Hid (rest 0 b = R) := Lib.hid hR
  have HRR := Lib.hid hR
  obtain ⟨base, hbase⟩ : ∃ base, w.heap.size = base := ⟨_, rfl⟩
  have hpos : 0 < base := by rw [← hbase]; exact hT.pos
  have HBs := Lib.hid hbase
  obtain ⟨wA, hwA⟩ : ∃ wA, w.alloc (.cells #[.int .u8 0, .int .u8 0, .int .u8 0, .int .i64 0, .int .u8 0, .int .u8 0] 76) = wA := ⟨_, rfl⟩
  have hsA : base + 1 ≤ wA.heap.size := by rw [← hwA, ← hbase]; simp
  have HBA : Hid (Below base w wA) := Lib.hid (by rw [← hwA, ← hbase]; exact (Below.refl _ _).alloc (Nat.le_refl _) _)
  have HNew : Hid (LBlk base zeroRow wA) := Lib.hid (by rw [← hwA, ← hbase]; exact World.alloc_heap_new w _)
  have HWA := Lib.hid hwA
  clear hT hR hwA hbase
  go_enter Tryd.func46, Tryd.ntmps46
  go_wp2
  rw [HWA.out, HBs.out]
  go_loopw [6] (fun i wr => ∃ k : Nat, i = .int .i64 (k : Int) ∧ k ≤ 9 ∧ base + 1 ≤ wr.heap.size ∧ Hid (Below (base + 1) wA wr ∧ rest k b = R)) (fun i _ => 9 - (intOf i).toNat)
  case atStart => exact ⟨0, rfl, by omega, hsA, Lib.hid ⟨Below.refl _ _, HR0.out⟩⟩
  case round =>
    rename_i wr
    obtain ⟨k, rfl, hk, hbw, HF⟩ := hrel
    have hN := HNew.out.below HF.out.1 (by omega)
    have HLB := Lib.hid hN
    have HB0 : Hid (Below base w wr) := Lib.hid (HBA.out.trans (HF.out.1.mono (by omega)))
    have f0 := hN.fr 0
    have f1 := hN.fr 1
    have f2 := hN.fr 2
    have f3 := hN.fr 3
    have f4 := hN.fr 4
    have f5 := hN.fr 5
    obtain ⟨z0, z1, z2, z3, z4, z5⟩ := hN.row
    unfold zeroRow at z0 z1 z2 z3 z4 z5
    simp only at z0 z1 z2 z3 z4 z5
    have hbl : base < wr.heap.size := by omega
    clear hN
    by_cases hlt : k < 9
    · obtain ⟨c0, c1, c2, c3, c4, c5⟩ := (HT.out.below HB0.out hpos) k hlt
      have hst := rest_step k hlt b
      obtain ⟨⟨x0, x1, x2, x3, x4, x5⟩, hx⟩ : ∃ x, tab.getD k zeroRow = x := ⟨_, rfl⟩
      rw [hx] at c0 c1 c2 c3 c4 c5 hst
      simp only at c0 c1 c2 c3 c4 c5 hst
      clear hx
      by_cases h1 : x0 ≤ b
      · by_cases h2 : b ≤ x1
        · rw [if_pos ⟨h1, h2⟩] at hst
          have HRv : Hid (R = some (x0, x1, x2, x3, x4, x5)) := Lib.hid (HF.out.2.symm.trans hst)
          have d1 : decide (x0 ≤ b) = true := by simpa using h1
          have d2 : decide (b ≤ x1) = true := by simpa using h2
          clear hst h1 h2
          go_wp2
          refine bodyPost_ret (v := .tuple #[rowV (x0, x1, x2, x3, x4, x5), .bool true]) (by rw [results_cell_tmp rfl]; go_simp; rfl) rfl ⟨by rw [HRR.out, HRv.out]; rfl, ?_⟩
          rw [HBs.out]
          exact ((((((HB0.out.setCell (p := ⟨base, 0, none⟩) (Nat.le_refl _) _).setCell (p := ⟨base, 1, none⟩) (Nat.le_refl _) _).setCell (p := ⟨base, 2, none⟩) (Nat.le_refl _) _).setCell (p := ⟨base, 3, none⟩) (Nat.le_refl _) _).setCell (p := ⟨base, 4, none⟩) (Nat.le_refl _) _).setCell (p := ⟨base, 5, none⟩) (Nat.le_refl _) _).alloc (by simp; omega) _
        · rw [if_neg (by omega)] at hst
          have HSt := Lib.hid (HF.out.2.symm.trans hst)
          have d1 : decide (x0 ≤ b) = true := by simpa using h1
          have d2 : decide (b ≤ x1) = false := by simpa using h2
          clear hst h1 h2
          go_wp2
          go_roundw
          case rel => exact ⟨k + 1, by go_num, by omega, by simp; omega, Lib.hid ⟨HF.out.1.alloc hbw _, HSt.out.symm⟩⟩
          case measure => simp [intOf]; omega
      · rw [if_neg (by omega)] at hst
        have HSt := Lib.hid (HF.out.2.symm.trans hst)
        have d1 : decide (x0 ≤ b) = false := by simpa using h1
        clear hst h1
        go_wp2
        go_roundw
        case rel => exact ⟨k + 1, by go_num, by omega, by simp; omega, Lib.hid ⟨HF.out.1.alloc hbw _, HSt.out.symm⟩⟩
        case measure => simp [intOf]; omega
    · obtain rfl : k = 9 := by omega
      have HRv : Hid (R = none) := Lib.hid HF.out.2.symm
      go_wp2
      refine bodyPost_ret (v := .tuple #[rowV zeroRow, .bool false]) (by rw [results_cell_tmp rfl]; go_simp; rfl) rfl ⟨by rw [HRR.out, HRv.out]; rfl, ?_⟩
      rw [HBs.out]
      exact (((((HB0.out.setCell (p := ⟨base, 0, none⟩) (Nat.le_refl _) _).setCell (p := ⟨base, 1, none⟩) (Nat.le_refl _) _).setCell (p := ⟨base, 2, none⟩) (Nat.le_refl _) _).setCell (p := ⟨base, 3, none⟩) (Nat.le_refl _) _).setCell (p := ⟨base, 4, none⟩) (Nat.le_refl _) _).setCell (p := ⟨base, 5, none⟩) (Nat.le_refl _) _
end Go.Proofs.YtfapmgecebcfaaaDoor.Y
