/- A cache that a law has made; the law's awake. -/
import Derived.Test.YthplghcpjmodeaaCSpn
namespace Go.Proofs.Ythplghcpjmodeaa.C
open Go.RowKit Go.Maps Go.Proofs.Ythplghcpjmodeaa.H

def OneC (c : Nat) (x : Ca) (W w : World) : Prop := ∃ M G, Ch c M G x w ∧ (∀ p ∈ M, W.heap.size ≤ p) ∧ Below W.heap.size W w
theorem OneC.below {c : Nat} {x : Ca} {W w w' : World} (h : OneC c x W w) (hb : Below w.heap.size w w') : OneC c x W w' := by
  obtain ⟨M, G, h1, h2, h3⟩ := h
  exact ⟨M, G, h1.below hb, h2, h3.trans (hb.mono h3.size)⟩
theorem OneC.bel {c : Nat} {x : Ca} {W w : World} (h : OneC c x W w) : Below W.heap.size W w := h.choose_spec.choose_spec.2.2
theorem OneC.new (z : Int) (hz : -9223372036854775808 ≤ z ∧ z ≤ 9223372036854775807) (W w : World) (hb : Below W.heap.size W w) : Calls Try.prog 10 #[.int .i64 z] w fun r w' => ∃ c, r = .returned (.pointer (some ⟨c, 0, none⟩)) ∧ OneC c ⟨mostN z, []⟩ W w' :=
  (new_any z hz w).mono fun r w' h => by
    obtain ⟨c, M, rfl, h1, h2, h3⟩ := h
    exact ⟨c, rfl, M, [], h1, fun p hp => Nat.le_trans hb.size (h3 p hp), hb.trans (h2.mono hb.size)⟩
theorem OneC.put {c : Nat} {x : Ca} {W w w1 : World} (h : OneC c x W w) (hb1 : Below w.heap.size w w1) (i : Int) (hi : -9223372036854775808 ≤ i ∧ i ≤ 9223372036854775807) (a : Option Addr) (n cc : Nat) (g : List (Int × Int)) (hg : PairsIn .i32 a n cc g w1) (hnl : a = none → cc = 0) (hgl : g.length ≤ 1000000)
    (hga : ∀ p o, a = some ⟨p, o, none⟩ → p < W.heap.size ∨ w.heap.size ≤ p) :
    Calls Try.prog 16 #[.pointer (some ⟨c, 0, none⟩), .int .i64 i, .slice a n cc] w1 fun r w' => r = .returned (.tuple #[.int .i64 (putC x i g).2.1, .bool (putC x i g).2.2]) ∧ OneC c (putC x i g).1 W w' := by
  obtain ⟨M, G, h1, h2, h3⟩ := h
  refine (put_any i hi a n cc g w1 (h1.below hb1) hg hnl hgl (fun p o e hm => ?_)).mono ?_
  · rcases hga p o e with h9 | h9
    · have := h2 p hm; omega
    · have := h1.lt.1 p hm; omega
  · rintro r w' ⟨M', G', rfl, h5, h6, h7, h8⟩
    have hbw : Below W.heap.size W w1 := h3.trans (hb1.mono h3.size)
    exact ⟨rfl, M', G', h5, fun p hp => (h7 p hp).elim (h2 p) (fun h => Nat.le_trans hbw.size h), h6.below h2 hbw hbw.size⟩
theorem OneC.get {c : Nat} {x : Ca} {W w : World} (h : OneC c x W w) (i : Int) (hi : -9223372036854775808 ≤ i ∧ i ≤ 9223372036854775807) :
    Calls Try.prog 20 #[.pointer (some ⟨c, 0, none⟩), .int .i64 i] w fun r w' => ∃ a cc, r = .returned (.tuple #[.slice a ((findC x.L i).getD []).length cc, .bool (findC x.L i).isSome]) ∧ PairsIn .i32 a ((findC x.L i).getD []).length cc ((findC x.L i).getD []) w' ∧ OneC c (getC x i) W w' ∧ ∀ p o, a = some ⟨p, o, none⟩ → w.heap.size ≤ p := by
  obtain ⟨M, G, h1, h2, h3⟩ := h
  refine (get_any i hi w h1).mono ?_
  rintro r w' ⟨v, rfl, h4, h5, h6⟩
  obtain ⟨a, cc, rfl, h7, -, h8⟩ := h4.shape
  exact ⟨a, cc, rfl, h7, ⟨M, G, h5, h2, h6.below h2 h3 h3.size⟩, fun p o e => (h4.own p (h8 p o e)).1⟩
theorem OneC.peek {c : Nat} {x : Ca} {W w : World} (h : OneC c x W w) (i : Int) (hi : -9223372036854775808 ≤ i ∧ i ≤ 9223372036854775807) :
    Calls Try.prog 17 #[.pointer (some ⟨c, 0, none⟩), .int .i64 i] w fun r w' => ∃ a cc, r = .returned (.tuple #[.slice a ((findC x.L i).getD []).length cc, .bool (findC x.L i).isSome]) ∧ PairsIn .i32 a ((findC x.L i).getD []).length cc ((findC x.L i).getD []) w' ∧ Below w.heap.size w w' ∧ OneC c x W w' := by
  obtain ⟨M, G, h1, h2, h3⟩ := h
  refine (peek_any i hi w h1).mono ?_
  rintro r w' ⟨v, rfl, h4, h5⟩
  obtain ⟨a, cc, rfl, h7, -, h8⟩ := h4.shape
  exact ⟨a, cc, rfl, h7, h5, ⟨M, G, h1.below h5, h2, h3.trans (h5.mono h3.size)⟩⟩
theorem OneC.len {c : Nat} {x : Ca} {W w : World} (h : OneC c x W w) : Calls Try.prog 14 #[.pointer (some ⟨c, 0, none⟩)] w fun r w' => r = .returned (.int .i64 (x.L.length : Int)) ∧ w' = w := by
  obtain ⟨M, G, h1, -⟩ := h
  exact len_any w h1
theorem OneC.order {c : Nat} {x : Ca} {W w : World} (h : OneC c x W w) : Calls Try.prog 22 #[.pointer (some ⟨c, 0, none⟩)] w (OrdPost x.L w) := by
  obtain ⟨M, G, h1, -⟩ := h
  exact order_any w h1
theorem OneC.spans {c : Nat} {x : Ca} {W w : World} (h : OneC c x W w) : Calls Try.prog 21 #[.pointer (some ⟨c, 0, none⟩)] w (SpPost (spansC x.L) w) := by
  obtain ⟨M, G, h1, -⟩ := h
  exact cspans_any w h1
theorem no_pairs (rk : IntKind) (w : World) : PairsIn rk none 0 0 [] w := ⟨rfl, Nat.le_refl _, by decide, .inl rfl⟩
def AwkPost (w : World) (r : Ending) (w' : World) : Prop := r = .returned (.bool true) ∧ Below w.heap.size w w'
end Go.Proofs.Ythplghcpjmodeaa.C
