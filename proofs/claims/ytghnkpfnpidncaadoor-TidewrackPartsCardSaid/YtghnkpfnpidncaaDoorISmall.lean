/- The fixed fact of the statements of layer 1; and what an Out and an In keep of each other. -/
import Derived.Test.YtghnkpfnpidncaaDoorIOut
import Derived.Test.YtghnkpfnpidncaaDoorIIn
namespace Go.Proofs.YtghnkpfnpidncaaDoor.I
open Go.RowKit

theorem InSt.keeps {B p : Nat} {l : List UInt8} {e : Nat} {w w' : World} (h : InSt p l e w) (hk : Keeps B w w') (hne : p ≠ B) : InSt p l e w' := by
  obtain ⟨s, hb, hl, hs⟩ := h
  exact ⟨s, hk.block p _ hb hne (fun cur fr ee => by cases ee), hl, hs⟩
theorem InSt.alloc {p : Nat} {l : List UInt8} {e : Nat} {w : World} (h : InSt p l e w) (o : Obj) : InSt p l e (w.alloc o) := by
  obtain ⟨s, hb, hl, hs⟩ := h
  exact ⟨s, (Below.heap_alloc w o p (Array.getElem?_eq_some_iff.1 hb).1).trans hb, hl, hs⟩
theorem below_of_grown {base p : Nat} {w w' w0 : World} (h : Below base w0 w) (hg : w.grownBy w' (some p)) (hb : base ≤ w.heap.size) (hp : base ≤ p) : Below base w0 w' := h.grown hg hb (fun k e => by cases e; exact hp)
/-- A new Out. -/
theorem out_new (base : Nat) (w : World) : OutAt base w.heap.size [] (w.alloc (.cells #[.slice none 0 0] 63)) := ⟨_, Boxed.new _ _ _, World.ownsRow_nil _ _ _ _⟩
theorem strs_new {base B : Nat} {ss : List ByteArray} {w : World} (hB : B < w.heap.size) {cs : Array Value} (hcs : ∀ i, i < ss.length → cs[i]? = some (.string (ss.getD i ByteArray.empty))) :
    ∀ w', Below base (w.alloc (.cells cs 9)) w' → Keeps B (w.alloc (.cells cs 9)) w' → Strs w' w.heap.size 0 ss := fun w' _ hk i hi => by
  rw [cell_keeps hk (block_new w _) (by decide) (by omega), cell_alloc_new, Nat.zero_add]
  exact hcs i hi

set_option maxHeartbeats 400000 in
theorem cut_any (s : ByteArray) (n : Nat) (_ : (s.size : Int) ≤ 9223372036854775807) (hn : (n : Int) ≤ 1000) (w : World) :
    Calls Tryd.prog 18 #[.string s, .int .i64 n] w fun e w' => (∃ t : ByteArray, e = .returned (.string t) ∧ (t.size : Int) ≤ n ∧ t.data.toList = s.data.toList.take n) ∧ w = w' := by
  go_enter Tryd.func18, Tryd.ntmps18
  go_wp2
  · have h : n < s.size := by assumption
    go_ret
    refine ⟨⟨_, rfl, ?_, ?_⟩, rfl⟩
    · simp; omega
    · simp
  · have h : ¬ n < s.size := by assumption
    go_ret
    refine ⟨⟨_, rfl, ?_, ?_⟩, rfl⟩
    · omega
    · rw [List.take_of_length_le (by show s.size ≤ n; omega)]

end Go.Proofs.YtghnkpfnpidncaaDoor.I
