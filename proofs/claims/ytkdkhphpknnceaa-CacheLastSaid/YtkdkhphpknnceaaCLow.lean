/- cache: ring, New, Len. -/
import Derived.Test.YtkdkhphpknnceaaCJn
import Derived.WalkMore
namespace Go.Proofs.Ytkdkhphpknnceaa.C
open Go.RowKit Go.Maps Go.Proofs.Ytkdkhphpknnceaa.H

/-- the cache of block c -/
def Ch (c : Nat) (M G : List Nat) (x : Ca) (w : World) : Prop := ∃ m e ns, ChAt c m e M G x.most ns w ∧ ns.map (fun y => (y.i, y.g)) = x.L ∧ (x.L.length ≤ x.most ∧ 1 ≤ x.most ∧ x.most ≤ 65536)
theorem Ch.below {c : Nat} {M G : List Nat} {x : Ca} {w w' : World} (h : Ch c M G x w) (hb : Below w.heap.size w w') : Ch c M G x w' := by
  obtain ⟨m, e, ns, h, h2⟩ := h
  exact ⟨m, e, ns, h.below hb, h2⟩
theorem Ch.keptB {c : Nat} {M G L : List Nat} {x : Ca} {w w' : World} (h : Ch c M G x w) (hb : KeepB L w w') (h1 : ∀ p ∈ M, p ∉ L) (h2 : ∀ p ∈ G, p ∉ L) : Ch c M G x w' := by
  obtain ⟨m, e, ns, h, h3⟩ := h
  exact ⟨m, e, ns, h.keptB hb h1 h2, h3⟩
theorem Ch.lt {c : Nat} {M G : List Nat} {x : Ca} {w : World} (h : Ch c M G x w) : (∀ p ∈ M, p < w.heap.size) ∧ ∀ p ∈ G, p ∉ M ∧ p < w.heap.size := by
  obtain ⟨m, e, ns, h, -⟩ := h
  exact ⟨h.lt, h.apart⟩
def mostN (z : Int) : Nat := (min (max z 1) 65536).toNat
/-- a ring without lines comes back -/
def RingPost (w : World) (r : Ending) (w' : World) : Prop := ∃ e : Nat, r = .returned (.pointer (some ⟨e, 0, none⟩)) ∧ IsLine e w' ∧ Links w' [e, e] ∧ Below w.heap.size w w' ∧ w.heap.size ≤ e
theorem ring_post (w : World) : RingPost w (.returned (.pointer (some ⟨w.heap.size, 0, none⟩))) (w.alloc (.cells #[.int .i64 0, .slice none 0 0, .pointer (some ⟨w.heap.size, 0, none⟩), .pointer (some ⟨w.heap.size, 0, none⟩)] 52)) := by
  have h0 := heap_alloc_new w (.cells #[.int .i64 0, .slice none 0 0, .pointer (some ⟨w.heap.size, 0, none⟩), .pointer (some ⟨w.heap.size, 0, none⟩)] 52)
  exact ⟨_, rfl, ⟨_, h0, rfl⟩, ⟨by unfold NextIs; rw [cell_block h0]; rfl, by unfold PrevIs; rw [cell_block h0]; rfl, trivial⟩, (Below.refl _ _).alloc (Nat.le_refl _) _, Nat.le_refl _⟩
set_option maxRecDepth 100000 in
set_option maxHeartbeats 4000000 in
theorem ring_any (w : World) : Calls Try.prog 12 #[] w (RingPost w) := by
  have HP := Lib.hid (ring_post w)
  go_enter Try.func12, Try.ntmps12
  go_wp2
  refine bodyPost_ret (v := .pointer (some ⟨w.heap.size, 0, none⟩)) ?_ rfl HP.out
  simp [results, Try.f12]
theorem mostN_run (z : Int) : ((mostN z : Nat) : Int) = min (max z 1) 65536 := by unfold mostN; omega
/-- a cache without lines comes back -/
def NewPost (z : Int) (w : World) (r : Ending) (w' : World) : Prop := ∃ c M, r = .returned (.pointer (some ⟨c, 0, none⟩)) ∧ Ch c M [] ⟨mostN z, []⟩ w' ∧ Below w.heap.size w w' ∧ ∀ p ∈ M, w.heap.size ≤ p
theorem new_post {z : Int} {w w1 w2 : World} {e : Nat} (h1 : w1 = w.alloc (.map #[] 0)) (hl : IsLine e w2) (hk : Links w2 [e, e]) (hb : Below w1.heap.size w1 w2) (he : w1.heap.size ≤ e) :
    NewPost z w (.returned (.pointer (some ⟨w2.heap.size, 0, none⟩))) (w2.alloc (.cells #[.int .i64 (mostN z : Int), .map (some w.heap.size), .pointer (some ⟨e, 0, none⟩)] 48)) := by
  have hs1 : w1.heap.size = w.heap.size + 1 := by rw [h1, World.size_alloc]
  have hb3 : Below w2.heap.size w2 (w2.alloc (.cells #[.int .i64 (mostN z : Int), .map (some w.heap.size), .pointer (some ⟨e, 0, none⟩)] 48)) := (Below.refl _ _).alloc (Nat.le_refl _) _
  have hs3 : (w2.alloc (.cells #[.int .i64 (mostN z : Int), .map (some w.heap.size), .pointer (some ⟨e, 0, none⟩)] 48)).heap.size = w2.heap.size + 1 := World.size_alloc _ _
  have hnew := heap_alloc_new w2 (.cells #[.int .i64 (mostN z : Int), .map (some w.heap.size), .pointer (some ⟨e, 0, none⟩)] 48)
  generalize w2.alloc (.cells #[.int .i64 (mostN z : Int), .map (some w.heap.size), .pointer (some ⟨e, 0, none⟩)] 48) = w3 at hb3 hs3 hnew ⊢
  have hs2 := hb.size
  have hel := hl.lt
  have hm1 : MapN w.heap.size [] w1 := by rw [h1]; exact MapN.made w
  have hb0 : Below w.heap.size w w1 := by rw [h1]; exact (Below.refl _ _).alloc (Nat.le_refl _) _
  refine ⟨_, [w2.heap.size, w.heap.size, e], rfl, ⟨w.heap.size, e, [], ⟨hnew, ?_, fun b h => ?_, ?_, by simp [blkN], by simp, (fun x hx => by cases hx), (fun x hx => by cases hx), by simp, (fun x hx => by cases hx), (fun p hp => by cases hp), by simp, by simp, fun b hb => ?_, fun p hp => ?_⟩, rfl, by have := mostN_run z; simp; omega⟩, ?_, fun p hp => ?_⟩
  · exact hm1.of_block ((hb3.block _ (by omega)).trans (hb.block _ (by omega)))
  · obtain rfl : b = e := by simpa [blkN] using h
    exact hl.of_block (hb3.block _ hel)
  · exact ⟨(World.cell?_of_block (a := ⟨e, 3, none⟩) (hb3.block _ hel)).trans hk.1, (World.cell?_of_block (a := ⟨e, 2, none⟩) (hb3.block _ hel)).trans hk.2.1, trivial⟩
  · obtain rfl : b = e := by simpa [blkN] using hb
    simp
  · simp only [List.mem_cons, List.not_mem_nil, or_false] at hp
    rcases hp with rfl | rfl | rfl <;> omega
  · exact (hb0.trans (hb.mono (by omega))).trans (hb3.mono (by omega))
  · simp only [List.mem_cons, List.not_mem_nil, or_false] at hp
    rcases hp with rfl | rfl | rfl <;> omega
set_option maxRecDepth 100000 in
set_option maxHeartbeats 4000000 in
theorem new_any (z : Int) (hz : -9223372036854775808 ≤ z ∧ z ≤ 9223372036854775807) (w : World) : Calls Try.prog 5 #[.int .i64 z] w (NewPost z w) := by
  obtain ⟨P, hP⟩ : ∃ P, NewPost z w = P := ⟨_, rfl⟩
  rw [hP]
  have HP := Lib.hid hP
  have HZ := Lib.hid hz
  have HR := Lib.hid (ring_any (w.alloc (.map #[] 0)))
  have hmm := @run_makeMap Try.prog
  clear hP hz
  go_enter Try.func5, Try.ntmps5
  go_wp2_with fail
  refine HR.out.mono ?_
  rintro r w2 ⟨e, rfl, h1, h2, h3, h4⟩
  have hend := new_post (z := z) rfl h1 h2 h3 h4
  rw [HP.out, mostN_run] at hend
  have HEnd := Lib.hid hend
  clear h1 h2 h3 h4 hend
  go_wp2
  exact HEnd.out
end Go.Proofs.Ytkdkhphpknnceaa.C
