/- The contracts of a strings.Builder that a call has made itself: Grow at a fresh one, WriteString, String. -/
import Derived.Test.YtghnkpfnpidncaaDoorPBuild
import Derived.BigQuiet
import Derived.Deep.QuietTactic
namespace Go.Proofs.YtghnkpfnpidncaaDoor.P
open Go.RowKit Go.Shelf

theorem drewN_below {B : Nat} {a w : World} (h : Below B a w) (n : Nat) : Below B a (w.drewN n) := h.trans ⟨rfl, rfl, rfl, Nat.le_refl _, fun _ _ => rfl⟩
set_option maxHeartbeats 2000000 in
set_option maxRecDepth 1000000 in
theorem grow_any (b n : Nat) (w : World) (hbk : w.heap[b]? = some (.cells #[.pointer none, .slice none 0 0] 92 (0, 0))) (hn : (n : Int) ≤ 281474976710656) :
    Calls Tryd.prog 45 #[.pointer (some ⟨b, 0, none⟩), .int .i64 n] w fun e w' => e = .returned (.tuple #[]) ∧ (BuiltAt b [] w' ∧ Below b w w') := by
  have HC := Lib.hid (check_fresh b _ w hbk)
  have hb1 : (w.setCell ⟨b, 0, none⟩ (.pointer (some ⟨b, 0, none⟩))).heap[b]? = some (.cells #[.pointer (some ⟨b, 0, none⟩), .slice none 0 0] 92 (0, 0)) := by simp [World.setCell, Array.getElem?_modify, hbk]
  have hB1 : Below b w (w.setCell ⟨b, 0, none⟩ (.pointer (some ⟨b, 0, none⟩))) := (Below.refl _ _).setCell (p := ⟨b, 0, none⟩) (Nat.le_refl _) _
  obtain ⟨w1, hw1⟩ : ∃ w1, w.setCell ⟨b, 0, none⟩ (.pointer (some ⟨b, 0, none⟩)) = w1 := ⟨_, rfl⟩
  rw [hw1] at hb1 hB1
  have HB1 := Lib.hid hB1
  have HBl := Lib.hid hb1
  have c1 : w1.cell? ⟨b, 1, none⟩ = some (.slice none 0 0) := by rw [Lib.cell_of_heap hb1]; rfl
  have HG := fun a => Lib.hid (grow_new b n (w1.drewN a) hb1 hn)
  have hn0 : (0 : Int) ≤ n := by omega
  clear hbk hb1 hB1
  by_cases hz : n = 0
  · subst hz
    go_enter Tryd.func45, Tryd.ntmps45
    go_wp2_with fail
    refine HC.out.mono ?_
    rintro e w' ⟨rfl, rfl⟩
    rw [hw1]
    clear hw1
    go_wp2_with fail
    go_quiet (fail)
    go_wp2_with fail
    go_end0
    exact ⟨rfl, ⟨_, HBl.out, World.ownsRow_nil _ _ _ _⟩, drewN_below HB1.out _⟩
  · have hlt : (0 : Int) < n := by omega
    go_enter Tryd.func45, Tryd.ntmps45
    go_wp2_with fail
    refine HC.out.mono ?_
    rintro e w' ⟨rfl, rfl⟩
    rw [hw1]
    clear hw1
    go_wp2_with fail
    go_quiet (fail)
    go_wp2_with fail
    refine (HG _).out.mono ?_
    rintro e w2 ⟨rfl, h1, h2⟩
    go_wp2_with fail
    go_end0
    exact ⟨rfl, h1, (drewN_below HB1.out _).trans h2⟩
theorem row_obj {w : World} {base n : Nat} {v : Value} {xs : List Value} (h : w.ownsRow base 5 1 v n xs) {q : Nat} (hq : v.ownBlock = some q) : ∃ cur, w.heap[q]? = some (.cells cur 5 (0, 0)) := by
  rcases h.2 with ⟨rfl, _⟩ | ⟨g, cap, cur, rfl, _, hg, _⟩
  · simp [Value.ownBlock] at hq
  · simp [Value.ownBlock] at hq
    subst hq
    exact ⟨cur, hg⟩
set_option maxHeartbeats 1000000 in
set_option maxRecDepth 100000 in
theorem write_any (b : Nat) (bs : List UInt8) (s : ByteArray) (w : World) (h : BuiltAt b bs w) (hlen : (bs.length : Int) + s.size ≤ 140737488355328) :
    Calls Tryd.prog 48 #[.pointer (some ⟨b, 0, none⟩), .string s] w fun e w' => e = .returned (.tuple #[.int .i64 s.size, .nilIface]) ∧ BuiltAt b (bs ++ bl s) w' ∧ KeepB b w w' ∧ KeepsOthers w w' ∧ Below b w w' := by
  obtain ⟨i0, hi, hz0, hz1, hz2⟩ := info_parts info8
  have hlt := h.lt
  obtain ⟨v, hbk, hown⟩ := h
  have HC := Lib.hid (check_used b w (by rw [Lib.cell_of_heap hbk]; rfl))
  have c1 : w.cell? ⟨b, 1, none⟩ = some v := by rw [Lib.cell_of_heap hbk]; rfl
  have hne : v.ownBlock ≠ some b := fun e => by
    obtain ⟨cur, hc⟩ := row_obj hown e
    rw [hbk] at hc
    cases hc
  obtain ⟨m, hm⟩ : ∃ m, bs.length = m := ⟨_, rfl⟩
  obtain ⟨X, hX⟩ : ∃ X, bs.map c8 = X := ⟨_, rfl⟩
  rw [hm] at hlen
  rw [hm, hX] at hown
  have HM := Lib.hid hm
  have HX := Lib.hid hX
  have HBk := Lib.hid hbk
  have HNe := Lib.hid hne
  clear hm hX hbk hne
  go_enter Tryd.func48, Tryd.ntmps48
  go_wp2_with fail
  refine HC.out.mono ?_
  rintro e w' ⟨rfl, rfl⟩
  go_wp2_with (at_builtin; refine Lib.wpList_append_own_string w rfl _ _ 47 9 rfl b 5 i0 Tryd.underlying47 Tryd.underlying9 hi hz0 hz1 hz2 v m X rfl hown s rfl ?c3 ?c4 ?c5 ?_)
  case c3 => unfold maxLen; omega
  case c4 => omega
  case c5 => omega
  intro v' w2 hown' hgrow _
  have hb2 : w2.heap[b]? = some (.cells #[.pointer (some ⟨b, 0, none⟩), v] 92 (0, 0)) := (hgrow.block b hlt (fun e => HNe.out e.symm)).trans HBk.out
  have d1 : w2.cell? ⟨b, 1, none⟩ = some v := by rw [Lib.cell_of_heap hb2]; rfl
  have f1 : w2.frozen? ⟨b, 1, none⟩ = false := Lib.frozen_of_heap hb2 1
  obtain ⟨ao, n', cap, rfl⟩ : ∃ ao n' cap, v' = .slice ao n' cap := by
    rcases hown'.2 with ⟨hv, _⟩ | ⟨g, cap, cur, hv, _⟩
    · exact ⟨_, _, _, hv⟩
    · exact ⟨_, _, _, hv⟩
  have hne2 : (Value.slice ao n' cap).ownBlock ≠ some b := fun e => by
    obtain ⟨cur, hc⟩ := row_obj hown' e
    rw [hb2] at hc
    cases hc
  have HR : Hid ((w2.setCell ⟨b, 1, none⟩ (.slice ao n' cap)).ownsRow b 5 1 (.slice ao n' cap) (m + s.size) (X ++ Lib.strCells s)) := Lib.hid (hown'.kept (row := some b) ⟨rfl, rfl, rfl, by simp [World.setCell], fun k _ hk => Below.heap_setCell _ _ _ _ (fun e => hk (by simp [e]))⟩ (Or.inr hne2))
  have HB2 : Hid ((w2.setCell ⟨b, 1, none⟩ (.slice ao n' cap)).heap[b]? = some (.cells #[.pointer (some ⟨b, 0, none⟩), .slice ao n' cap] 92 (0, 0))) := Lib.hid (by simp [World.setCell, Array.getElem?_modify, hb2])
  have HKb : Hid (KeepB b w (w2.setCell ⟨b, 1, none⟩ (.slice ao n' cap))) := Lib.hid ⟨Nat.le_trans hgrow.size (by simp [World.setCell]), fun k o hk hn ho => by
    rw [Below.heap_setCell _ _ _ _ hn]
    refine (hgrow.block k (Array.getElem?_eq_some_iff.1 hk).1 (fun e => ?_)).trans hk
    obtain ⟨cur, hc⟩ := row_obj hown e.symm
    rw [hk] at hc
    cases hc
    exact ho _ _ rfl⟩
  have HKo : Hid (KeepsOthers w (w2.setCell ⟨b, 1, none⟩ (.slice ao n' cap))) := Lib.hid ((KeepsOthers.of_grownBy hgrow (fun q o hq ho => by obtain ⟨cur, hc⟩ := row_obj hown hq.symm.symm; rw [ho] at hc; cases hc; rfl)).trans (KeepsOthers.setCell _ _ _))
  have HBl : Hid (Below b w (w2.setCell ⟨b, 1, none⟩ (.slice ao n' cap))) := Lib.hid (((Below.refl _ _).grown hgrow (by omega) (fun q hq => (hown.lt q hq).1)).setCell (p := ⟨b, 1, none⟩) (Nat.le_refl _) _)
  clear hown' hgrow hb2 hne2 hown
  go_wp2
  go_ret2
  refine ⟨rfl, ⟨_, HB2.out, ?_⟩, HKb.out, HKo.out, HBl.out⟩
  have h := HR.out
  rw [← HX.out, ← HM.out] at h
  rw [List.length_append, List.map_append]
  exact h
theorem keepsOthers_freeze (w : World) (a : Addr) (n : Nat) : KeepsOthers w (w.freeze a n) := by
  unfold World.freeze
  split
  · exact KeepsOthers.refl _
  · refine ⟨by simp, fun k o hk ho => ?_⟩
    simp only [Array.getElem?_modify]
    split
    · rename_i e
      rw [hk]
      cases o <;> first | rfl | (simp [Obj.isCells] at ho)
    · exact hk
theorem below_frz {B : Nat} {a w : World} (h : Below B a w) {p : Addr} (hp : B ≤ p.block) (n : Nat) : Below B a (w.freeze p n) := Lib.below_freeze h hp n
set_option maxHeartbeats 1000000 in
set_option maxRecDepth 100000 in
theorem string_any (b : Nat) (l : List UInt8) (w : World) (h : BuiltAt b l w) :
    Calls Tryd.prog 49 #[.pointer (some ⟨b, 0, none⟩)] w fun e w' => e = .returned (.string ⟨l.toArray⟩) ∧ Below b w w' ∧ KeepsOthers w w' := by
  have hblt := h.lt
  obtain ⟨v, hbk, hown⟩ := h
  have hbkd : w.drew.heap[b]? = some (.cells #[.pointer (some ⟨b, 0, none⟩), v] 92 (0, 0)) := hbk
  have c1 : w.drew.cell? ⟨b, 1, none⟩ = some v := by rw [Lib.cell_of_heap hbkd]; rfl
  rcases hown.2 with ⟨rfl, h0⟩ | ⟨g, cap, cur, rfl, hbg, hg, hnc, hcm, hcs, htake⟩
  · obtain rfl : l = [] := List.length_eq_zero_iff.1 h0
    have hUS : (Builtin.unsafeString_ #[114, 3] 9 #[.pointer none, .int .i64 0]).run Tryd.prog w.drew = .ok (.string .empty) w.drew := Lib.run_unsafeString_none _ _ _ _ _
    have hSD : (Builtin.unsafeSliceData_ #[47] 114 #[.slice none 0 0]).run Tryd.prog w.drew = .ok (.pointer none) w.drew := rfl
    clear hown hbk hbkd h0
    go_enter Tryd.func49, Tryd.ntmps49
    go_wp2
    go_region
    all_goals (go_wp2; go_ret; exact ⟨rfl, Below.drew (Below.refl b w), KeepsOthers.drew _⟩)
  · by_cases hl0 : l = []
    · subst hl0
      by_cases hc0 : cap = 0
      · subst hc0
        have hgd : w.drew.heap[g]? = some (.cells cur 5 (0, 0)) := hg
        have hUS : ∀ W : World, (Builtin.unsafeString_ #[114, 3] 9 #[.pointer (some ⟨w.heap.size, 0, none⟩), .int .i64 0]).run Tryd.prog W = .ok (.string .empty) W := fun W => Lib.run_unsafeString_none W _ _ _ _
        have hSD : (Builtin.unsafeSliceData_ #[47] 114 #[.slice (some ⟨g, 0, none⟩) 0 0]).run Tryd.prog w.drew = .ok (.pointer (some ⟨w.drew.heap.size, 0, none⟩)) (w.drew.alloc (.view ⟨g, 0, none⟩ 5)) :=
          Lib.run_unsafeSliceData_zero w.drew _ _ 5 Tryd.underlying114 ⟨g, 0, none⟩ 0 (5, cur.size) (by simp [World.shape?, hgd])
        have c2 : (w.drew.alloc (.view ⟨g, 0, none⟩ 5)).cell? ⟨b, 1, none⟩ = some (.slice (some ⟨g, 0, none⟩) 0 0) := by
          have : (w.drew.alloc (.view ⟨g, 0, none⟩ 5)).heap[b]? = _ := (Lib.alloc_old w.drew _ b hblt).trans hbkd
          rw [Lib.cell_of_heap this]; rfl
        have c3 : (w.alloc (.view ⟨g, 0, none⟩ 5)).drew.cell? ⟨b, 1, none⟩ = some (.slice (some ⟨g, 0, none⟩) 0 0) := c2
        have c0 : w.cell? ⟨b, 1, none⟩ = some (.slice (some ⟨g, 0, none⟩) 0 0) := c1
        have hBw : b ≤ w.heap.size := by omega
        clear hown hbk hbkd hg hgd hnc hcm hcs htake hbg
        go_enter Tryd.func49, Tryd.ntmps49
        go_wp2
        go_region
        all_goals (go_wp2; go_ret; exact ⟨rfl, (Below.drew (Below.refl b w)).alloc hBw _, (KeepsOthers.drew _).trans (KeepsOthers.alloc _ _)⟩)
      · have hUS : (Builtin.unsafeString_ #[114, 3] 9 #[.pointer (some ⟨g, 0, none⟩), .int .i64 0]).run Tryd.prog w.drew = .ok (.string .empty) w.drew := Lib.run_unsafeString_none _ _ _ _ _
        have hSD : (Builtin.unsafeSliceData_ #[47] 114 #[.slice (some ⟨g, 0, none⟩) 0 cap]).run Tryd.prog w.drew = .ok (.pointer (some ⟨g, 0, none⟩)) w.drew := Lib.run_unsafeSliceData_row _ _ _ _ _ _ hc0
        clear hown hbk hbkd hg hnc hcm hcs htake hbg hc0
        go_enter Tryd.func49, Tryd.ntmps49
        go_wp2
        go_region
        all_goals (go_wp2; go_ret; exact ⟨rfl, Below.drew (Below.refl b w), KeepsOthers.drew _⟩)
    · have hll : l.length ≠ 0 := by simpa using hl0
      have hgd : w.drew.heap[g]? = some (.cells cur 5 (0, 0)) := hg
      have hSD : (Builtin.unsafeSliceData_ #[47] 114 #[.slice (some ⟨g, 0, none⟩) l.length cap]).run Tryd.prog w.drew = .ok (.pointer (some ⟨g, 0, none⟩)) w.drew := Lib.run_unsafeSliceData_row _ _ _ _ _ _ (by omega)
      have hUS : (Builtin.unsafeString_ #[114, 3] 9 #[.pointer (some ⟨g, 0, none⟩), .int .i64 l.length]).run Tryd.prog w.drew = .ok (.string ⟨l.toArray⟩) (w.drew.freeze ⟨g, 0, none⟩ l.length) := by
        refine Lib.run_unsafeString_row w.drew 114 3 9 5 Tryd.underlying114 (by kernel_rfl) g cur.size (by simp [World.shape?, hgd]) l hl0 (by omega) (by unfold maxLen at hcm; omega) ?_
        intro j x hx
        have := hown.cells (g := g) rfl j (.int .u8 x.toNat) (by simp [c8, hx])
        exact this
      obtain ⟨n, hn⟩ : ∃ n, l.length = n := ⟨_, rfl⟩
      obtain ⟨u, hu⟩ : ∃ u : ByteArray, (⟨l.toArray⟩ : ByteArray) = u := ⟨_, rfl⟩
      rw [hn] at hSD hUS c1
      rw [hu] at hUS ⊢
      have HBg := Lib.hid hbg
      clear hown hbk hbkd hg hgd hnc hcm hcs htake hbg hll hl0 hn hu
      go_enter Tryd.func49, Tryd.ntmps49
      go_wp2
      go_region
      all_goals (go_wp2; go_ret; exact ⟨rfl, below_frz (Below.drew (Below.refl b w)) (p := ⟨g, 0, none⟩) HBg.out _, (KeepsOthers.drew _).trans (keepsOthers_freeze _ _ _)⟩)
end Go.Proofs.YtghnkpfnpidncaaDoor.P
