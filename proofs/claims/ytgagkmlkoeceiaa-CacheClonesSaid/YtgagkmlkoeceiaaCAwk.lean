/- A cache that a law has made; the law's awake. -/
import Derived.Test.YtgagkmlkoeceiaaCSpn
namespace Go.Proofs.Ytgagkmlkoeceiaa.C
open Go.RowKit Go.Maps Go.Proofs.Ytgagkmlkoeceiaa.H

def OneC (c : Nat) (x : Ca) (W w : World) : Prop := ∃ M G, Ch c M G x w ∧ (∀ p ∈ M, W.heap.size ≤ p) ∧ Below W.heap.size W w
theorem OneC.below {c : Nat} {x : Ca} {W w w' : World} (h : OneC c x W w) (hb : Below w.heap.size w w') : OneC c x W w' := by
  obtain ⟨M, G, h1, h2, h3⟩ := h
  exact ⟨M, G, h1.below hb, h2, h3.trans (hb.mono h3.size)⟩
theorem OneC.bel {c : Nat} {x : Ca} {W w : World} (h : OneC c x W w) : Below W.heap.size W w := h.choose_spec.choose_spec.2.2
theorem OneC.new (z : Int) (hz : -9223372036854775808 ≤ z ∧ z ≤ 9223372036854775807) (W w : World) (hb : Below W.heap.size W w) : Calls Try.prog 6 #[.int .i64 z] w fun r w' => ∃ c, r = .returned (.pointer (some ⟨c, 0, none⟩)) ∧ OneC c ⟨mostN z, []⟩ W w' :=
  (new_any z hz w).mono fun r w' h => by
    obtain ⟨c, M, rfl, h1, h2, h3⟩ := h
    exact ⟨c, rfl, M, [], h1, fun p hp => Nat.le_trans hb.size (h3 p hp), hb.trans (h2.mono hb.size)⟩
theorem OneC.put {c : Nat} {x : Ca} {W w w1 : World} (h : OneC c x W w) (hb1 : Below w.heap.size w w1) (i : Int) (hi : -9223372036854775808 ≤ i ∧ i ≤ 9223372036854775807) (a : Option Addr) (n cc : Nat) (g : List (Int × Int)) (hg : PairsIn .i32 a n cc g w1) (hnl : a = none → cc = 0) (hgl : g.length ≤ 1000000)
    (hga : g ≠ [] → ∀ p o, a = some ⟨p, o, none⟩ → p < W.heap.size ∨ w.heap.size ≤ p) :
    Calls Try.prog 12 #[.pointer (some ⟨c, 0, none⟩), .int .i64 i, .slice a n cc] w1 fun r w' => r = .returned (.tuple #[.int .i64 (putC x i g).2.1, .bool (putC x i g).2.2]) ∧ OneC c (putC x i g).1 W w' := by
  obtain ⟨M, G, h1, h2, h3⟩ := h
  refine (put_any i hi a n cc g w1 (h1.below hb1) hg hnl hgl (fun hg0 p o e hm => ?_)).mono ?_
  · rcases hga hg0 p o e with h9 | h9
    · have := h2 p hm; omega
    · have := h1.lt.1 p hm; omega
  · rintro r w' ⟨M', G', rfl, h5, h6, h7, h8⟩
    have hbw : Below W.heap.size W w1 := h3.trans (hb1.mono h3.size)
    exact ⟨rfl, M', G', h5, fun p hp => (h7 p hp).elim (h2 p) (fun h => Nat.le_trans hbw.size h), h6.below h2 hbw hbw.size⟩
theorem OneC.get {c : Nat} {x : Ca} {W w : World} (h : OneC c x W w) (i : Int) (hi : -9223372036854775808 ≤ i ∧ i ≤ 9223372036854775807) :
    Calls Try.prog 13 #[.pointer (some ⟨c, 0, none⟩), .int .i64 i] w fun r w' => ∃ a cc, r = .returned (.tuple #[.slice a ((findC x.L i).getD []).length cc, .bool (findC x.L i).isSome]) ∧ PairsIn .i32 a ((findC x.L i).getD []).length cc ((findC x.L i).getD []) w' ∧ OneC c (getC x i) W w' ∧ ∀ p o, a = some ⟨p, o, none⟩ → w.heap.size ≤ p := by
  obtain ⟨M, G, h1, h2, h3⟩ := h
  refine (get_any i hi w h1).mono ?_
  rintro r w' ⟨v, rfl, h4, h5, h6⟩
  obtain ⟨a, cc, rfl, h7, -, h8⟩ := h4.shape
  exact ⟨a, cc, rfl, h7, ⟨M, G, h5, h2, h6.below h2 h3 h3.size⟩, fun p o e => (h4.own p (h8 p o e)).1⟩
theorem OneC.len {c : Nat} {x : Ca} {W w : World} (h : OneC c x W w) : Calls Try.prog 10 #[.pointer (some ⟨c, 0, none⟩)] w fun r w' => r = .returned (.int .i64 (x.L.length : Int)) ∧ w' = w := by
  obtain ⟨M, G, h1, -⟩ := h
  exact len_any w h1
theorem OneC.order {c : Nat} {x : Ca} {W w : World} (h : OneC c x W w) : Calls Try.prog 23 #[.pointer (some ⟨c, 0, none⟩)] w (OrdPost x.L w) := by
  obtain ⟨M, G, h1, -⟩ := h
  exact order_any w h1
theorem OneC.spans {c : Nat} {x : Ca} {W w : World} (h : OneC c x W w) : Calls Try.prog 25 #[.pointer (some ⟨c, 0, none⟩)] w (SpPost (spansC x.L) w) := by
  obtain ⟨M, G, h1, -⟩ := h
  exact cspans_any w h1
theorem one_glyph {z s : Int} {w : World} : PairsIn .i32 (some ⟨w.heap.size, 0, none⟩) 1 1 [(z, s)] (w.alloc (.cells #[.int .i32 z, .int .i64 s] 43)) := by
  have h := heap_alloc_new w (.cells #[.int .i32 z, .int .i64 s] 43)
  exact ⟨rfl, Nat.le_refl _, by decide, .inr ⟨w.heap.size, 0, rfl, (Array.getElem?_eq_some_iff.1 h).1, fun i u hi => by
    match i, hi with
    | 0, hi => cases hi; exact ⟨by rw [cell_block h]; rfl, by rw [cell_block h]; rfl⟩
    | i + 1, hi => simp at hi⟩⟩
theorem no_pairs (rk : IntKind) (w : World) : PairsIn rk none 0 0 [] w := ⟨rfl, Nat.le_refl _, by decide, .inl rfl⟩
def AwkPost (w : World) (r : Ending) (w' : World) : Prop := r = .returned (.bool true) ∧ Below w.heap.size w w'
set_option maxRecDepth 100000 in
set_option maxHeartbeats 4000000 in
theorem awake_any (w : World) : Calls Try.prog 5 #[] w (AwkPost w) := by
  obtain ⟨P, hP⟩ : ∃ P, AwkPost w = P := ⟨_, rfl⟩
  rw [hP]
  have HP := Lib.hid hP
  have HN := Lib.hid (OneC.new 2 (by omega) w w (Below.refl _ _))
  clear hP
  go_enter Try.func5, Try.ntmps5
  go_wp2_with fail
  refine HN.out.mono ?_
  rintro r w1 ⟨c, rfl, h1⟩
  rw [show (⟨mostN 2, []⟩ : Ca) = ⟨2, []⟩ from rfl] at h1
  have h2 := h1.put (alloc_below w1 (.cells #[.int .i32 97, .int .i64 0] 43)) 1 (by omega) _ 1 1 [(97, 0)] one_glyph (fun e => by cases e) (by decide) (fun _ p o e => by cases e; exact .inr (Nat.le_refl _))
  rw [show putC ⟨2, []⟩ 1 [(97, 0)] = (⟨2, [(1, [(97, 0)])]⟩, 0, false) from rfl] at h2
  obtain ⟨s1, hs1⟩ : ∃ s, w1.heap.size = s := ⟨_, rfl⟩
  rw [hs1] at h2
  have HS1 := Lib.hid hs1
  have H2 := Lib.hid h2
  clear h1 h2 hs1
  go_wp2_with fail
  rw [HS1.out]
  refine H2.out.mono ?_
  rintro r w2 ⟨rfl, h2⟩
  have h3 := h2.put (Below.refl _ _) 2 (by omega) none 0 0 [] (no_pairs _ _) (fun _ => rfl) (by decide) (fun _ p o e => by cases e)
  rw [show putC ⟨2, [(1, [(97, 0)])]⟩ 2 [] = (⟨2, [(1, [(97, 0)]), (2, [])]⟩, 0, false) from rfl] at h3
  have H3 := Lib.hid h3
  clear h2 h3 H2 HS1
  go_wp2_with fail
  refine H3.out.mono ?_
  rintro r w3 ⟨rfl, h3⟩
  have h4 := h3.get 1 (by omega)
  rw [show findC [((1 : Int), [((97 : Int), (0 : Int))]), (2, [])] 1 = some [(97, 0)] from rfl, show getC ⟨2, [(1, [(97, 0)]), (2, [])]⟩ 1 = ⟨2, [(2, []), (1, [(97, 0)])]⟩ from rfl] at h4
  have H4 := Lib.hid h4
  clear h3 h4 H3
  go_wp2_with fail
  refine H4.out.mono ?_
  rintro r w4 ⟨a, cc, rfl, -, h4, -⟩
  have h5 := h4.put (Below.refl _ _) 3 (by omega) none 0 0 [] (no_pairs _ _) (fun _ => rfl) (by decide) (fun _ p o e => by cases e)
  rw [show putC ⟨2, [(2, []), (1, [(97, 0)])]⟩ 3 [] = (⟨2, [(1, [(97, 0)]), (3, [])]⟩, 2, true) from rfl] at h5
  have H5 := Lib.hid h5
  clear h4 h5 H4
  go_wp2_with fail
  refine H5.out.mono ?_
  rintro r w5 ⟨rfl, h5⟩
  have H6 := Lib.hid h5.len
  have HB5 := Lib.hid h5.bel
  clear h5 H5
  go_wp2_with fail
  refine H6.out.mono ?_
  rintro r w6 ⟨rfl, rfl⟩
  go_wp2
  rw [← HP.out]
  exact ⟨rfl, HB5.out⟩
end Go.Proofs.Ytgagkmlkoeceiaa.C
