/- The contract of wide.Of: of any rune, in a world that holds the spans, it returns how many columns the rune has; it makes memory, and changes none that was. -/
import Derived.Test.YtjlhinofglokoaaDoorRows
import Derived.Test.YtjlhinofglokoaaDoorWMath
import Derived.WalkKit
import Derived.WalkLawsBesides
import Derived.WalkSpells
import Derived.Outline
import Derived.Lib.Hide
import Derived.Below
import Derived.IntWalk
import Derived.OwnWalk
namespace Go.Proofs.YtjlhinofglokoaaDoor.W
open Go.RowKit

/-- The world holds the spans. -/
def Tab (w : World) : Prop := ∀ k, k < 27 → w.cell? ⟨0, k * 3, none⟩ = some (.int .i32 (tab.getD k (0, 0, 0)).1) ∧ w.cell? ⟨0, k * 3 + 1, none⟩ = some (.int .i32 (tab.getD k (0, 0, 0)).2.1) ∧ w.cell? ⟨0, k * 3 + 2, none⟩ = some (.int .i64 ((tab.getD k (0, 0, 0)).2.2 : Int))
theorem Tab.pos {w : World} (h : Tab w) : 0 < w.heap.size := World.block_lt_of_cell? w _ (h 0 (by decide)).1
theorem Tab.below {w w' : World} (h : Tab w) {b : Nat} (hb : Below b w w') (h0 : 0 < b) : Tab w' := fun k hk =>
  ⟨(hb.cell (p := ⟨0, k * 3, none⟩) h0).trans (h k hk).1, (hb.cell (p := ⟨0, k * 3 + 1, none⟩) h0).trans (h k hk).2.1, (hb.cell (p := ⟨0, k * 3 + 2, none⟩) h0).trans (h k hk).2.2⟩
theorem Tab.belowAll {w w' : World} (h : Tab w) (hb : Below w.heap.size w w') : Tab w' := h.below hb h.pos

set_option maxRecDepth 100000 in
set_option maxHeartbeats 2000000 in
theorem of_any (r : Int) (w : World) (hT : Tab w) :
    Calls Tryd.prog 65 #[.int .i32 r] w fun e w' => e = .returned (.int .i64 (ofS r : Int)) ∧ Below w.heap.size w w' := by
  have HT := Lib.hid hT
  obtain ⟨R, hR⟩ : ∃ R, ofS r = R := ⟨_, rfl⟩
  rw [hR]
  have HR : Hid (rest 0 r = R) := Lib.hid hR
  obtain ⟨base, hbase⟩ : ∃ base, w.heap.size = base := ⟨_, rfl⟩
  have hpos : 0 < base := by rw [← hbase]; exact hT.pos
  have h0 : Below base w w := Below.refl _ _
  rw [hbase]
  have HB0 := Lib.hid h0
  have hsz : base ≤ w.heap.size := by omega
  clear hT hR h0 hbase
  go_enter Tryd.func65, Tryd.ntmps65
  go_wp2
  go_loopw [5] (fun i wr => ∃ k : Nat, i = .int .i64 (k : Int) ∧ k ≤ 27 ∧ base ≤ wr.heap.size ∧ Hid (Below base w wr ∧ rest k r = R)) (fun i _ => 27 - (intOf i).toNat)
  case atStart => exact ⟨0, rfl, by omega, hsz, Lib.hid ⟨HB0.out, HR.out⟩⟩
  case round =>
    rename_i wr
    obtain ⟨k, rfl, hk, hbw, HF⟩ := hrel
    by_cases hlt : k < 27
    · obtain ⟨c0, c1, c2⟩ := (HT.out.below HF.out.1 hpos) k hlt
      have hst := rest_step k hlt r
      obtain ⟨⟨a, b, c⟩, hx⟩ : ∃ x, tab.getD k (0, 0, 0) = x := ⟨_, rfl⟩
      rw [hx] at c0 c1 c2 hst
      simp only at c0 c1 c2 hst
      clear hx
      by_cases h1 : r < a
      · rw [if_pos h1] at hst
        have HR' : Hid (R = 1) := Lib.hid (HF.out.2.symm.trans hst)
        clear hst
        go_wp2
        go_ret
        exact ⟨by rw [HR'.out]; rfl, HF.out.1.alloc hbw _⟩
      · rw [if_neg h1] at hst
        by_cases h2 : r ≤ b
        · rw [if_pos h2] at hst
          have HR' : Hid (R = c) := Lib.hid (HF.out.2.symm.trans hst)
          clear hst
          go_wp2
          go_ret
          exact ⟨by rw [HR'.out]; rfl, HF.out.1.alloc hbw _⟩
        · rw [if_neg h2] at hst
          have HSt := Lib.hid hst
          clear hst
          go_wp2
          go_roundw
          case rel => exact ⟨k + 1, by go_num, by omega, by simp; omega, Lib.hid ⟨HF.out.1.alloc hbw _, by rw [← HF.out.2, HSt.out]⟩⟩
          case measure => simp [intOf]; omega
    · obtain rfl : k = 27 := by omega
      have HR' : Hid (R = 1) := Lib.hid HF.out.2.symm
      have HB := Lib.hid HF.out.1
      clear HF
      go_wp2
      go_ret
      exact ⟨by rw [HR'.out]; rfl, HB.out⟩
end Go.Proofs.YtjlhinofglokoaaDoor.W
