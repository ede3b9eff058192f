/- The contract of cache.Clear. -/
import Derived.Test.YtgagkmlkoeceiaaCPut
namespace Go.Proofs.Ytgagkmlkoeceiaa.C
open Go.RowKit Go.Maps Go.Proofs.Ytgagkmlkoeceiaa.H Go.ChangeMaps Go.MapKept

theorem MapN.clear {m : Nat} {es : List (Int × Nat)} {w : World} (h : MapN m es w) (ty : TypeId) :
    ∃ w', (Builtin.clear_ #[46] ty #[.map (some m)]).run Try.prog w = .ok (.tuple #[]) w' ∧ MapN m [] w' ∧ w.grownBy w' (some m) := by
  obtain ⟨D, ⟨e9, clock, h1, h2⟩, hM⟩ := h
  refine ⟨setBlock w m (.map #[] clock), ?_, ⟨.map [], ⟨#[], clock, heap_setBlock_same h1 _, ⟨by simp, stamped_empty clock, by simp⟩, Nat.le_refl _, rfl⟩, mapIs_none⟩, ⟨rfl, rfl, rfl, by simp [setBlock], fun i _ hi => heap_setBlock_other h1 _ (fun e => hi (by rw [e]))⟩⟩
  simp [Builtin.clear_, run_underlying Try.underlying46, MapKept.run_getObj_map h1, MapKept.run_setObj_map _ h1, Result.andThen, setBlock]
theorem cleared {c m e e' : Nat} {M G : List Nat} {most : Nat} {ns : List Nd} {w w1 w2 : World} (h : ChAt c m e M G most ns w) (g : w.grownBy w1 (some m)) (mp : MapN m [] w1) (hl : IsLine e' w2) (hk : Links w2 [e', e']) (hb : Below w1.heap.size w1 w2) (he : w1.heap.size ≤ e') :
    ChAt c m e' (M ++ [e']) G most [] (w2.setCell ⟨c, 2, none⟩ (.pointer (some ⟨e', 0, none⟩))) ∧ KeepB M w (w2.setCell ⟨c, 2, none⟩ (.pointer (some ⟨e', 0, none⟩))) := by
  have hcl := (Array.getElem?_eq_some_iff.1 h.cb).1
  have hcm := h.cNotMap
  have hs1 := g.size
  have hs2 := hb.size
  have hml := mp.lt
  have hel := hl.lt
  have hc2 : w2.heap[c]? = some (.cells #[.int .i64 (most : Int), .map (some m), .pointer (some ⟨e, 0, none⟩)] 50 (0, 0)) := by
    rw [hb.block c (by omega), g.block c hcl (fun e9 => hcm (by injection e9))]
    exact h.cb
  have hce : e' ≠ c := by omega
  have hsz : (w2.setCell ⟨c, 2, none⟩ (.pointer (some ⟨e', 0, none⟩))).heap.size = w2.heap.size := by simp [World.setCell]
  have hot : ∀ p, p ≠ c → (w2.setCell ⟨c, 2, none⟩ (.pointer (some ⟨e', 0, none⟩))).heap[p]? = w2.heap[p]? := fun p hp => Below.heap_setCell w2 ⟨c, 2, none⟩ _ p hp
  have hkeep : KeepB M w (w2.setCell ⟨c, 2, none⟩ (.pointer (some ⟨e', 0, none⟩))) := ⟨hb.os.trans g.os, hb.tape.trans g.tape, hb.output.trans g.output, by rw [hsz]; omega, fun p hp hm => by
    rw [hot p (fun e9 => hm (by rw [e9]; exact h.cm)), hb.block p (by omega), g.block p hp (fun e9 => hm (by injection e9 with e9; rw [e9]; exact h.mm))]⟩
  refine ⟨⟨?_, ?_, fun b hb9 => ?_, ?_, by simp [blkN], by simp, (fun x hx => by cases hx), (fun x hx => by cases hx), by simp, (fun x hx => by cases hx), fun p hp => ⟨fun hm => ?_, ?_⟩, List.mem_append_left _ h.cm, List.mem_append_left _ h.mm, fun b hb9 => ?_, fun p hp => ?_⟩, hkeep⟩
  · simp [World.setCell, Array.getElem?_modify, hc2]
  · exact mp.of_block ((hot m (fun e9 => hcm e9.symm)).trans (hb.block m hml))
  · obtain rfl : b = e' := by simpa [blkN] using hb9
    exact hl.set _ _
  · exact ⟨(cell_other _ (.inl (Ne.symm hce))).trans hk.1, (cell_other _ (.inl (Ne.symm hce))).trans hk.2.1, trivial⟩
  · rcases List.mem_append.1 hm with hm | hm
    · exact (h.apart p hp).1 hm
    · have h9 : p = e' := by simpa using hm
      have := (h.apart p hp).2
      omega
  · have := (h.apart p hp).2
    omega
  · obtain rfl : b = e' := by simpa [blkN] using hb9
    simp
  · rcases List.mem_append.1 hp with hp | hp
    · have := h.lt p hp
      omega
    · rw [show p = e' by simpa using hp]
      omega
def ClrPost (c : Nat) (M G : List Nat) (x : Ca) (w : World) (r : Ending) (w' : World) : Prop := r = .returned (.tuple #[]) ∧ ∃ M', Ch c M' G ⟨x.most, []⟩ w' ∧ KeepB M w w' ∧ ∀ p ∈ M', p ∈ M ∨ w.heap.size ≤ p
set_option maxRecDepth 100000 in
set_option maxHeartbeats 4000000 in
theorem clear_any {c : Nat} {M G : List Nat} {x : Ca} (w : World) (h : Ch c M G x w) : Calls Try.prog 21 #[.pointer (some ⟨c, 0, none⟩)] w (ClrPost c M G x w) := by
  obtain ⟨P, hP⟩ : ∃ P, ClrPost c M G x w = P := ⟨_, rfl⟩
  rw [hP]
  have HP := Lib.hid hP
  obtain ⟨m, e, ns, h, h2, hfit⟩ := h
  have hc1 := h.c1
  obtain ⟨w1, hrun, hmp, hg⟩ := h.mp.clear 0
  have HC := Lib.hid h
  have HM := Lib.hid hmp
  have HG := Lib.hid hg
  have HR := Lib.hid (ring_any w1)
  have HFt := Lib.hid hfit
  clear hP h h2 hfit hmp hg
  go_enter Try.func21, Try.ntmps21
  go_wp2_with fail
  refine HR.out.mono ?_
  rintro r w2 ⟨e', rfl, h1, h2, h3, h4⟩
  have hcl := cleared HC.out HG.out HM.out h1 h2 h3 h4
  have hcc : w2.heap[c]? = some (.cells #[.int .i64 (x.most : Int), .map (some m), .pointer (some ⟨e, 0, none⟩)] 50 (0, 0)) := by
    have hl := (Array.getElem?_eq_some_iff.1 HC.out.cb).1
    rw [h3.block c (Nat.lt_of_lt_of_le hl HG.out.size), HG.out.block c hl (fun e9 => HC.out.cNotMap (by injection e9))]
    exact HC.out.cb
  have s0 := cell_block hcc 2
  have f0 := frozen_block hcc 2
  have hsz : w.heap.size ≤ e' := Nat.le_trans HG.out.size h4
  have hend : Hid (P (.returned (.tuple #[])) (w2.setCell ⟨c, 2, none⟩ (.pointer (some ⟨e', 0, none⟩)))) := Lib.hid (by
    rw [← HP.out]
    refine ⟨rfl, M ++ [e'], ⟨m, e', [], hcl.1, rfl, ⟨Nat.zero_le _, HFt.out.2.1, HFt.out.2.2⟩⟩, hcl.2, fun p hp => ?_⟩
    rcases List.mem_append.1 hp with hp | hp
    · exact .inl hp
    · rw [show p = e' by simpa using hp]
      exact .inr hsz)
  clear h1 h2 h3 h4 hcl hcc hsz
  go_wp2_with fail
  go_end0
  exact hend.out
end Go.Proofs.Ytgagkmlkoeceiaa.C
