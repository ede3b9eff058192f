/- The fixed fact of the statements of layer 1; and what an Out and an In keep of each other. -/
import Derived.Test.YthhaefcglhghfaaOut
import Derived.Test.YthhaefcglhghfaaIn
namespace Go.Proofs.Ythhaefcglhghfaa
open Go.RowKit

theorem InSt.keeps {B p : Nat} {l : List UInt8} {e : Nat} {w w' : World} (h : InSt p l e w) (hk : Keeps B w w') (hne : p ≠ B) : InSt p l e w' := by
  obtain ⟨s, hb, hl, hs⟩ := h
  exact ⟨s, hk.block p _ hb hne (fun cur fr ee => by cases ee), hl, hs⟩
theorem InSt.alloc {p : Nat} {l : List UInt8} {e : Nat} {w : World} (h : InSt p l e w) (o : Obj) : InSt p l e (w.alloc o) := by
  obtain ⟨s, hb, hl, hs⟩ := h
  exact ⟨s, (Below.heap_alloc w o p (Array.getElem?_eq_some_iff.1 hb).1).trans hb, hl, hs⟩
theorem below_of_grown {base p : Nat} {w w' w0 : World} (h : Below base w0 w) (hg : w.grownBy w' (some p)) (hb : base ≤ w.heap.size) (hp : base ≤ p) : Below base w0 w' := h.grown hg hb (fun k e => by cases e; exact hp)
/-- A new Out. -/
theorem out_new (base : Nat) (w : World) : OutAt base w.heap.size [] (w.alloc (.cells #[.slice none 0 0] 26)) := ⟨_, Boxed.new _ _ _, World.ownsRow_nil _ _ _ _⟩
theorem digs300 : digs (clipN 300) = [172, 2] := by
  rw [show clipN 300 = 300 from by decide, digs_big (by decide), digs_small (by decide)]; rfl
theorem num300 : numS [172, 2] 0 = (([], 0), 300) := by
  unfold numS
  rw [show firstS [172, 2] = (300, 2, 0) from by decide]
  rfl
def sAC : ByteArray := ⟨#[172, 2]⟩
def sab : ByteArray := ⟨#[97, 98]⟩
theorem text_ab : textB sab = [2, 97, 98] := by
  unfold textB
  rw [show clipN sab.size = 2 from by decide, digs_small (by decide)]; rfl
/-- Texts in a new block, kept. -/
theorem strs_new {base B : Nat} {ss : List ByteArray} {w : World} (hB : B < w.heap.size) {cs : Array Value} (hcs : ∀ i, i < ss.length → cs[i]? = some (.string (ss.getD i ByteArray.empty))) :
    ∀ w', Below base (w.alloc (.cells cs 9)) w' → Keeps B (w.alloc (.cells cs 9)) w' → Strs w' w.heap.size 0 ss := fun w' _ hk i hi => by
  rw [cell_keeps hk (block_new w _) (by decide) (by omega), cell_alloc_new, Nat.zero_add]
  exact hcs i hi

set_option maxRecDepth 100000 in
set_option maxHeartbeats 1000000 in
theorem awake_any (w : World) : Calls Try.prog 9 #[] w fun e w' => e = .returned (.bool true) ∧ Below w.heap.size w w' := by
  go_enter Try.func9, Try.ntmps9
  go_wp2_with fail
  refine (of_any sAC (by decide) _).mono ?_
  rintro e w1 ⟨rfl, hi1, hw⟩
  rw [World.size_alloc] at hi1
  have HO : Hid (OutAt w.heap.size w.heap.size [] w1) := Lib.hid (by rw [hw]; exact (out_new w.heap.size w).alloc _)
  have HI := Lib.hid hi1
  have HB : Hid (Below w.heap.size w w1) := Lib.hid (by rw [hw]; exact ((Below.refl _ _).alloc (Nat.le_refl _) _).alloc (by simp) _)
  clear hi1 hw
  go_wp2_with fail
  refine (num_one w.heap.size w.heap.size 300 [] w1 (by decide) (Nat.le_refl _) HO.out HB.out.size).mono ?_
  rintro e w2 ⟨rfl, hO2, hB2, hK2⟩
  have hs1 := HB.out.size
  have HI2 : Hid (InSt (w.heap.size + 1) sAC.data.toList 0 w2) := Lib.hid ((HI.out.alloc _).keeps hK2 (by omega))
  have HB2 : Hid (Below w.heap.size w w2) := Lib.hid ((HB.out.alloc hs1 _).trans hB2)
  have HO2 := Lib.hid hO2
  have hs2 := HB2.out.size
  have hlt2 : w.heap.size < w2.heap.size := hO2.lt
  clear hO2 hB2 hK2
  go_wp2_with fail
  refine (text_any w.heap.size w.heap.size w2.heap.size 0 1 [sab] _ _ (by decide) (fun k hk => ?_) (Nat.le_refl _) (HO2.out.alloc _) (strs_new hlt2 (fun i hi => ?_)) (by simp; omega)).mono ?_
  · rw [digs300]
    match k, hk with
    | 0, _ => decide
    | 1, _ => simp [textsOf, text_ab]
    | k + 2, hk => simp at hk
  · obtain rfl : i = 0 := by simpa using hi
    rfl
  rintro e w3 ⟨rfl, hO3, hB3, hK3⟩
  have HI3 : Hid (InSt (w.heap.size + 1) sAC.data.toList 0 w3) := Lib.hid ((HI2.out.alloc _).keeps hK3 (by omega))
  have HB3 : Hid (Below w.heap.size w w3) := Lib.hid ((HB2.out.alloc hs2 _).trans hB3)
  have hbs : [] ++ digs (clipN 300) ++ textsOf [sab] = [172, 2, 2, 97, 98] := by rw [digs300]; simp [textsOf, text_ab]
  rw [hbs] at hO3
  have HO3 := Lib.hid hO3
  clear hO3 hB3 hK3 hbs
  go_wp2_with fail
  refine (bytes_any _ _ _ _ HO3.out).mono ?_
  rintro e w' ⟨rfl, rfl⟩
  go_wp2_with fail
  refine (innum_any _ _ _ _ HI3.out).mono ?_
  rintro e w4 ⟨he, hi4, hg4⟩
  have h300 : numS sAC.data.toList 0 = (([], 0), 300) := num300
  rw [h300] at he hi4
  subst he
  have HI4 := Lib.hid hi4
  have HB4 : Hid (Below w.heap.size w w4) := Lib.hid (below_of_grown HB3.out hg4 HB3.out.size (by omega))
  clear hi4 hg4 h300
  go_wp2_with fail
  refine (end_any _ _ _ _ HI4.out).mono ?_
  rintro e w' ⟨rfl, rfl⟩
  go_wp2_with fail
  refine (size_any 300 _).mono ?_
  rintro e w5 ⟨he, hb5⟩
  rw [digs300] at he
  subst he
  have HB5 : Hid (Below w.heap.size w w5) := Lib.hid (HB4.out.trans (hb5.mono HB4.out.size))
  clear hb5
  go_wp2_with fail
  go_ret
  exact ⟨rfl, HB5.out⟩
end Go.Proofs.Ythhaefcglhghfaa
