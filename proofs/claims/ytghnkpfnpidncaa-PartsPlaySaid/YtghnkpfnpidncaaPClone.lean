/- The contract of Slot's Clone. -/
import Derived.Test.YtghnkpfnpidncaaPSlot
import Derived.Shelf.SlMaps.Clone
import Derived.RegionTactic
import Derived.BigRegion
import Derived.Deep.RegionWith
namespace Go.Proofs.Ytghnkpfnpidncaa.P
open Go.RowKit Go.Shelf

theorem mclone_none (w : World) : Calls Try.prog 22 #[.map none] w fun e w' => e = .returned (.map none) ∧ w = w' := by
  have hq := fun w => run_eql_map_nil_sl (P := Try.prog) w 28 _ _ none Try.underlying28
  go_enter Try.func22, Try.ntmps22
  go_wp2
  go_ret
  exact ⟨rfl, rfl⟩
theorem mclone_some (b : Nat) (es : Array MapEntry) (clock : Nat) (w : World) (hb : w.heap[b]? = some (.map es clock)) :
    Calls Try.prog 22 #[.map (some b)] w fun e w' => e = .returned (.map (some w.heap.size)) ∧ w' = w.alloc (.map es clock) := by
  have hq := fun w => run_eql_map_nil_sl (P := Try.prog) w 28 _ _ (some b) Try.underlying28
  have hx : (callFunc 35 #[.iface 28 (.map (some b))]).run Try.prog w = .ok (.value (.iface 28 (.map (some w.heap.size)))) (w.alloc (.map es clock)) := by
    rw [run_callFunc_extern Try.func35 (by kernel_rfl) (by kernel_rfl) (by kernel_rfl) (e := Extern.MapsClone.clone) (by kernel_rfl), run_maps_clone_sl w 28 hb]
    rfl
  have ht := fun W v => run_typeAssert_map_sl (P := Try.prog) W 28 20 _ _ v Try.underlying28
  go_enter Try.func22, Try.ntmps22
  go_wp2
  go_ret
  exact ⟨rfl, rfl⟩
/-- Where Clone is left: another slot, of new blocks alone. -/
def ClonePost (k : Int) (L : PL) (w : World) (e : Ending) (w' : World) : Prop := ∃ q mo', e = .returned (.pointer (some ⟨q, 0, none⟩)) ∧ SlotAt q mo' k L w' ∧ w.heap.size ≤ q ∧ (∀ b, mo' = some b → w.heap.size ≤ b) ∧ Below w.heap.size w w'
set_option maxHeartbeats 2000000 in
set_option maxRecDepth 100000 in
theorem clone_none (p : Nat) (k : Int) (L : PL) (w : World) (h : SlotAt p none k L w) :
    Calls Try.prog 11 #[.pointer (some ⟨p, 0, none⟩)] w (ClonePost k L w) := by
  have c0 := h.cells.1
  have c1 := h.cells.2.1
  have c2 := h.cells.2.2
  have hp := h.lt
  have HS := Lib.hid h
  obtain ⟨N, hN⟩ : ∃ N, L.length = N := ⟨_, rfl⟩
  rw [hN] at c1
  have HN := Lib.hid hN
  clear h hN
  go_enter Try.func11, Try.ntmps11
  go_wp2
  go_region_with (go_at_call 22; refine (mclone_none _).mono ?_; rintro e w' ⟨rfl, rfl⟩)
  all_goals go_wp2
  all_goals go_ret
  all_goals
    rw [← HN.out]
    exact ⟨_, none, rfl, ⟨World.alloc_heap_new w _, HS.out.2.1, HS.out.2.2⟩, Nat.le_refl _, (fun b e => by cases e), ((Below.refl _ _).alloc (Nat.le_refl _) _).drew⟩
set_option maxHeartbeats 4000000 in
set_option maxRecDepth 100000 in
theorem clone_some (p b : Nat) (k : Int) (L : PL) (w : World) (h : SlotAt p (some b) k L w) :
    Calls Try.prog 11 #[.pointer (some ⟨p, 0, none⟩)] w (ClonePost k L w) := by
  have c0 := h.cells.1
  have c1 := h.cells.2.1
  have c2 := h.cells.2.2
  have hp := h.lt
  have HS := Lib.hid h
  obtain ⟨es, clock, hb⟩ : ∃ es clock, w.heap[b]? = some (.map es clock) := by
    obtain ⟨D, ⟨es, clock, hb, _⟩, _⟩ := h.2.2.2
    exact ⟨es, clock, hb⟩
  have hbd : w.drew.heap[b]? = some (.map es clock) := hb
  obtain ⟨N, hN⟩ : ∃ N, L.length = N := ⟨_, rfl⟩
  rw [hN] at c1
  have HN := Lib.hid hN
  have HB := Lib.hid hb
  have hM : MapAt w.heap.size L (w.alloc (.map es clock)) := h.2.2.2.copy ((World.alloc_heap_new w _).trans hb.symm)
  have HM := Lib.hid hM
  have HC := fun W hW => Lib.hid (mclone_some b es clock W hW)
  have HC1 := HC w.drew hbd
  have HC0 := HC w hb
  clear h hN hb hM HC hbd
  go_enter Try.func11, Try.ntmps11
  go_wp2
  go_region_with (go_at_call 22; first | (refine HC1.out.mono ?_; rintro e w' ⟨rfl, rfl⟩) | (refine HC0.out.mono ?_; rintro e w' ⟨rfl, rfl⟩))
  all_goals go_wp2
  all_goals go_ret
  all_goals
    rw [← HN.out]
    have hnew := World.alloc_heap_new (w.alloc (.map es clock)) (.cells #[.int .i64 k, .int .i64 L.length, .map (some w.heap.size)] 30)
    rw [World.size_alloc] at hnew
    have hm2 := MapAt.of_block HM.out (Below.heap_alloc (w.alloc (.map es clock)) (.cells #[.int .i64 k, .int .i64 L.length, .map (some w.heap.size)] 30) w.heap.size (by simp))
    exact ⟨w.heap.size + 1, some w.heap.size, rfl, ⟨hnew, HS.out.2.1, HS.out.2.2.1, hm2⟩, by omega, (fun b e => by cases e; exact Nat.le_refl _), (((Below.refl _ _).alloc (Nat.le_refl _) _).alloc (by simp) _).drew⟩
theorem clone_any (p : Nat) (mo : Option Nat) (k : Int) (L : PL) (w : World) (h : SlotAt p mo k L w) :
    Calls Try.prog 11 #[.pointer (some ⟨p, 0, none⟩)] w (ClonePost k L w) := by
  cases mo with
  | none => exact clone_none p k L w h
  | some b => exact clone_some p b k L w h
end Go.Proofs.Ytghnkpfnpidncaa.P
