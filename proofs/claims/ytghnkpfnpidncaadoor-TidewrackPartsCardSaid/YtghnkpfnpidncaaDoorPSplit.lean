/- The contract of parts.Split: the document's parts, in a slice of the call's own. -/
import Derived.Test.YtghnkpfnpidncaaDoorPCol
namespace Go.Proofs.YtghnkpfnpidncaaDoor.P
open Go.RowKit Go.Shelf

theorem pieces_in (n : Nat) (s : ByteArray) (z : Int) (w : World) :
    CallsIn Fence.wide n Tryd.prog 44 #[.string s, .int .i64 z] w fun e w' => e = .returned (.func (.func 63) #[] #[.pointer (some ⟨w.heap.size, 0, none⟩), .pointer (some ⟨w.heap.size + 1, 0, none⟩)]) ∧ w' = (w.alloc (.cells #[.string s] 9)).alloc (.cells #[.int .i64 z] 3) := by
  refine callsIn_of_wp Tryd.func44 rfl trivial ?_ rfl
  simp only [Tryd.ntmps44, List.size_toArray, List.length_cons, List.length_nil, Nat.reduceAdd, Nat.reduceSub, Array.replicate_succ, Array.replicate_zero, List.push_toArray, List.append_toArray, List.nil_append, List.cons_append]
  gi_wp2
  go_ret
  exact ⟨rfl, rfl⟩
theorem pieces_stops (n : Nat) (hn : 1 ≤ n) (Bs Bz n₀ : Nat) (s : ByteArray) (sz : Nat) (hs : (s.size : Int) ≤ 140737488355328) (hz1 : (1 : Int) ≤ sz) (hz8 : (sz : Int) ≤ 8000) (w : World) (hBs : Bs < w.heap.size) (hBz : Bz < w.heap.size) (hn0 : Bz < n₀)
    (hc : w.cell? ⟨Bs, 0, none⟩ = some (.string s)) (hz : w.cell? ⟨Bz, 0, none⟩ = some (.int .i64 sz)) :
    SeqStopsK Fence.wide n Tryd.prog 63 #[.pointer (some ⟨Bs, 0, none⟩), .pointer (some ⟨Bz, 0, none⟩)] (fun x : ByteArray => #[Value.string x]) (Below n₀) (fun ys => ys.map bl = chunks (bl s) sz) (fun _ => True) (cntN s.size sz) w := fun l J Jx W hW _ _ hY h0 =>
  pieces1_in n hn l Bs Bz n₀ s sz hs hz1 hz8 J Jx hY W ((hW.cell (p := ⟨Bs, 0, none⟩) hBs).trans hc) ((hW.cell (p := ⟨Bz, 0, none⟩) hBz).trans hz) hn0 h0

/-- Where Split is left: a slice of its own with the parts. -/
def SplitPost (s : ByteArray) (z : Int) (w : World) (e : Ending) (w' : World) : Prop := ∃ (v : Value) (ss : List ByteArray), e = .returned v ∧ ss.map bl = chunks (bl s) (szN z) ∧ w'.ownsRow w.heap.size 9 1 v ss.length (ss.map Value.string) ∧ Below w.heap.size w w'
theorem collect_pieces (n : Nat) (hn : 4 ≤ n) (s : ByteArray) (z : Int) (sz : Nat) (hsz : sz = szN z) (hs : (s.size : Int) ≤ 900000) (w : World) :
    CallsIn Fence.wide n Tryd.prog 43 #[.func (.func 63) #[] #[.pointer (some ⟨w.heap.size, 0, none⟩), .pointer (some ⟨w.heap.size + 1, 0, none⟩)]] ((w.alloc (.cells #[.string s] 9)).alloc (.cells #[.int .i64 sz] 3)) (SplitPost s z w) := by
  subst hsz
  have hp := szN_pos z
  have hl := szN_le z
  have bS := Boxed.new w 9 (.string s)
  have bZ := Boxed.new (w.alloc (.cells #[.string s] 9)) 3 (.int .i64 (szN z))
  rw [World.size_alloc] at bZ
  have hc := cntN_le s.size (szN z) hp
  refine (colS_in n (by omega) 63 _ (enters_of Tryd.func63 (by kernel_rfl) rfl) _ _ (cntN s.size (szN z)) (by omega) _ (pieces_stops (n - 1 - 1) (by omega) w.heap.size (w.heap.size + 1) _ s (szN z) (by omega) (by omega) (by omega) _ (by simp; omega) (by simp) (by simp) (bS.alloc _).cell bZ.cell)).mono ?_
  rintro e w' ⟨v, ss, rfl, hS, hrow, hb⟩
  refine ⟨v, ss, rfl, hS, ownsRow_mono hrow (by simp; omega), ?_⟩
  exact (((Below.refl _ w).alloc (Nat.le_refl _) _).alloc (by simp) _).trans (hb.mono (by simp; omega))
theorem split_in (n : Nat) (hn : 5 ≤ n) (s : ByteArray) (z : Int) (hs : (s.size : Int) ≤ 900000) (w : World) :
    CallsIn Fence.wide n Tryd.prog 22 #[.string s, .int .i64 z] w (SplitPost s z w) := by
  have H := fun sz hsz => Lib.hid (collect_pieces (n - 1) (by omega) s z sz hsz hs w)
  obtain ⟨sz, hsz⟩ : ∃ sz, sz = szN z := ⟨_, rfl⟩
  have H1 := H sz hsz
  clear H
  have hzz : (sz : Int) = max 1 (min z 8000) := by rw [hsz]; unfold szN; omega
  clear hsz
  have h1 : 1 ≤ n := by omega
  rcases (show z < 1 ∨ 1 ≤ z from by omega) with hz | hz
  · obtain rfl : sz = 1 := by omega
    clear hzz
    refine callsIn_of_wp Tryd.func22 rfl trivial ?_ rfl
    simp only [Tryd.ntmps22, List.size_toArray, List.length_cons, List.length_nil, Nat.reduceAdd, Nat.reduceSub, Array.replicate_succ, Array.replicate_zero, List.push_toArray, List.append_toArray, List.nil_append, List.cons_append]
    gi_wp2_with (first | (refine ⟨by first | trivial | omega, ?_⟩; gi_at_call 44; refine (pieces_in (n - 1) s _ _).mono ?_; rintro e w' ⟨rfl, rfl⟩) | (refine ⟨by first | trivial | omega, ?_⟩; gi_at_call 43; refine H1.out.mono ?_; rintro e w' ⟨v, ss, rfl, hS, hrow, hb⟩))
    go_ret
    exact ⟨v, ss, rfl, hS, hrow, hb⟩
  · rcases (show 8000 < z ∨ z ≤ 8000 from by omega) with hz8 | hz8
    · obtain rfl : sz = 8000 := by omega
      clear hzz
      refine callsIn_of_wp Tryd.func22 rfl trivial ?_ rfl
      simp only [Tryd.ntmps22, List.size_toArray, List.length_cons, List.length_nil, Nat.reduceAdd, Nat.reduceSub, Array.replicate_succ, Array.replicate_zero, List.push_toArray, List.append_toArray, List.nil_append, List.cons_append]
      gi_wp2_with (first | (refine ⟨by first | trivial | omega, ?_⟩; gi_at_call 44; refine (pieces_in (n - 1) s _ _).mono ?_; rintro e w' ⟨rfl, rfl⟩) | (refine ⟨by first | trivial | omega, ?_⟩; gi_at_call 43; refine H1.out.mono ?_; rintro e w' ⟨v, ss, rfl, hS, hrow, hb⟩))
      go_ret
      exact ⟨v, ss, rfl, hS, hrow, hb⟩
    · obtain rfl : z = (sz : Int) := by omega
      have hz1 : (1 : Int) ≤ sz := by omega
      clear hzz hz
      refine callsIn_of_wp Tryd.func22 rfl trivial ?_ rfl
      simp only [Tryd.ntmps22, List.size_toArray, List.length_cons, List.length_nil, Nat.reduceAdd, Nat.reduceSub, Array.replicate_succ, Array.replicate_zero, List.push_toArray, List.append_toArray, List.nil_append, List.cons_append]
      gi_wp2_with (first | (refine ⟨by first | trivial | omega, ?_⟩; gi_at_call 44; refine (pieces_in (n - 1) s _ _).mono ?_; rintro e w' ⟨rfl, rfl⟩) | (refine ⟨by first | trivial | omega, ?_⟩; gi_at_call 43; refine H1.out.mono ?_; rintro e w' ⟨v, ss, rfl, hS, hrow, hb⟩))
      go_ret
      exact ⟨v, ss, rfl, hS, hrow, hb⟩
theorem split_any (s : ByteArray) (z : Int) (hs : (s.size : Int) ≤ 900000) (w : World) : Calls Tryd.prog 22 #[.string s, .int .i64 z] w (SplitPost s z w) :=
  (callsIn_wide (n := 5)).1 (split_in 5 (Nat.le_refl _) s z hs w)
end Go.Proofs.YtghnkpfnpidncaaDoor.P
