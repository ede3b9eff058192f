/- TidewrackMissing: of a range of lines each is at hand, or missing; when these are put, none is. -/
import Derived.Test.YtkdkhphpknnceaaDoorMerged8
import Derived.Test.YtkdkhphpknnceaaDoorHMis
namespace Go.Proofs.YtkdkhphpknnceaaDoor.C
open Go.RowKit Go.Maps Go.Proofs.YtkdkhphpknnceaaDoor.H
open Go.Proofs.YtkdkhphpknnceaaDoor.W (OwnI IntsIn)

/-- a cache from a world on: of the blocks that were there only these change -/
def KC (c : Nat) (x : Ca) (M0 : List Nat) (w0 w : World) : Prop := ∃ M G, Ch c M G x w ∧ KeepB M0 w0 w ∧ ∀ p ∈ M, p ∈ M0 ∨ w0.heap.size ≤ p
theorem KC.put {c : Nat} {x : Ca} {M0 : List Nat} {w0 w : World} (h : KC c x M0 w0 w) (i : Int) (hi : -9223372036854775808 ≤ i ∧ i ≤ 9223372036854775807) :
    Calls Tryd.prog 6 #[.pointer (some ⟨c, 0, none⟩), .int .i64 i, .slice none 0 0] w fun r w' => r = .returned (.tuple #[.int .i64 (putC x i []).2.1, .bool (putC x i []).2.2]) ∧ KC c (putC x i []).1 M0 w0 w' := by
  obtain ⟨M, G, h1, h2, h3⟩ := h
  refine (put_any i hi none 0 0 [] w h1 (no_pairs _ _) (fun _ => rfl) (by decide) (fun _ p o e => by cases e)).mono ?_
  rintro r w' ⟨M', G', rfl, h5, h6, h7, h8⟩
  refine ⟨rfl, M', G', h5, ⟨h6.os.trans h2.os, h6.tape.trans h2.tape, h6.output.trans h2.output, Nat.le_trans h2.size h6.size, fun p hp hm => (h6.block p (Nat.lt_of_lt_of_le hp h2.size) (fun h9 => (h3 p h9).elim hm (fun h => by omega))).trans (h2.block p hp hm)⟩, fun p hp => (h7 p hp).elim (h3 p) (fun h => .inr (Nat.le_trans h2.size h))⟩
theorem KC.below {c : Nat} {x : Ca} {M0 : List Nat} {w0 w w' : World} (h : KC c x M0 w0 w) (hb : Below w.heap.size w w') : KC c x M0 w0 w' := by
  obtain ⟨M, G, h1, h2, h3⟩ := h
  exact ⟨M, G, h1.below hb, h2.trans (KeepB.of_below hb), h3⟩
theorem KC.nest {c : Nat} {x : Ca} {M0 M1 : List Nat} {w0 w1 w : World} (h : KC c x M1 w1 w) (hk : KeepB M0 w0 w1) (hM : ∀ p ∈ M1, p ∈ M0 ∨ w0.heap.size ≤ p) : KC c x M0 w0 w := by
  obtain ⟨M, G, h1, h2, h3⟩ := h
  refine ⟨M, G, h1, ⟨h2.os.trans hk.os, h2.tape.trans hk.tape, h2.output.trans hk.output, Nat.le_trans hk.size h2.size, fun p hp hm => (h2.block p (Nat.lt_of_lt_of_le hp hk.size) (fun h9 => (hM p h9).elim hm (fun h => by omega))).trans (hk.block p hp hm)⟩, fun p hp => (h3 p hp).elim (hM p) (fun h => .inr (Nat.le_trans hk.size h))⟩
theorem KC.peek {c : Nat} {x : Ca} {M0 : List Nat} {w0 w : World} (h : KC c x M0 w0 w) (i : Int) (hi : -9223372036854775808 ≤ i ∧ i ≤ 9223372036854775807) :
    Calls Tryd.prog 28 #[.pointer (some ⟨c, 0, none⟩), .int .i64 i] w fun r w' => ∃ a n cc, r = .returned (.tuple #[.slice a n cc, .bool (findC x.L i).isSome]) ∧ KC c x M0 w0 w' := by
  obtain ⟨M, G, h1, h2, h3⟩ := h
  refine (peek_any i hi w h1).mono ?_
  rintro r w' ⟨v, rfl, h4, h5⟩
  obtain ⟨a, cc, rfl, -⟩ := h4.shape
  exact ⟨a, _, cc, rfl, M, G, h1.below h5, h2.trans (KeepB.of_below h5), h3⟩
theorem KC.nodup {c : Nat} {x : Ca} {M0 : List Nat} {w0 w : World} (h : KC c x M0 w0 w) : (nums x).Nodup := by
  obtain ⟨M, G, ⟨m, e, ns, h1, h2, -⟩, -⟩ := h
  unfold nums
  rw [← h2, List.map_map]
  exact h1.num
theorem KC.keep {c : Nat} {x : Ca} {M0 : List Nat} {w0 w : World} (h : KC c x M0 w0 w) : KeepB M0 w0 w := h.choose_spec.choose_spec.2.1
theorem KC.one {c : Nat} {x : Ca} {M0 : List Nat} {W w0 w : World} (h : KC c x M0 w0 w) (hM : ∀ p ∈ M0, W.heap.size ≤ p) (hb : Below W.heap.size W w0) : OneC c x W w := by
  obtain ⟨M, G, h1, h2, h3⟩ := h
  exact ⟨M, G, h1, fun p hp => (h3 p hp).elim (hM p) (fun h => Nat.le_trans hb.size h), h2.below hM hb hb.size⟩
/-- what is at hand, when the first spans were put, and numbers of the next below z -/
def MsS (c : Nat) (x0 : Ca) (M0 : List Nat) (D : List Sp) (x1 z : Int) (w0 w : World) : Prop := ∃ y, KC c y M0 w0 w ∧ Roomy y ∧ ∀ v, v ∈ nums y ↔ v ∈ nums x0 ∨ mem v D ∨ (x1 ≤ v ∧ v < z)
theorem MsS.put {c : Nat} {x0 : Ca} {M0 : List Nat} {D : List Sp} {x1 z : Int} {w0 w : World} (h : MsS c x0 M0 D x1 z w0 w) (hz : 0 ≤ z ∧ z < 47) (hx : x1 ≤ z) :
    Calls Tryd.prog 6 #[.pointer (some ⟨c, 0, none⟩), .int .i64 z, .slice none 0 0] w fun r w' => r = .returned (.tuple #[.int .i64 0, .bool false]) ∧ MsS c x0 M0 D x1 (z + 1) w0 w' := by
  obtain ⟨y, h1, h2, h3⟩ := h
  obtain ⟨e1, e2, e3⟩ := put_room h1.nodup h2 hz
  refine (h1.put z (by omega)).mono ?_
  rintro r w' ⟨rfl, h4⟩
  rw [e1]
  refine ⟨rfl, _, h4, e2, fun v => ?_⟩
  rw [e3, h3]
  constructor
  · rintro ((h | h | h) | h)
    · exact .inl h
    · exact .inr (.inl h)
    · exact .inr (.inr ⟨h.1, by omega⟩)
    · exact .inr (.inr ⟨by omega, by omega⟩)
  · rintro (h | h | h)
    · exact .inl (.inl h)
    · exact .inl (.inr (.inl h))
    · by_cases e : v = z
      · exact .inr e
      · exact .inl (.inr (.inr ⟨h.1, by omega⟩))
theorem MsS.peek {c : Nat} {x0 : Ca} {M0 : List Nat} {D : List Sp} {x1 z : Int} {w0 w : World} (h : MsS c x0 M0 D x1 z w0 w) (hi : 0 ≤ z ∧ z < 47) (h1 : z ∉ nums x0) (h2 : ¬ mem z D) :
    Calls Tryd.prog 28 #[.pointer (some ⟨c, 0, none⟩), .int .i64 z] w fun r w' => ∃ a n cc, r = .returned (.tuple #[.slice a n cc, .bool false]) ∧ MsS c x0 M0 D x1 z w0 w' := by
  obtain ⟨y, h3, h4, h5⟩ := h
  have hn : findC y.L z = none := find_none _ _ (fun e he e9 => by
    have h6 := (h5 z).1 (List.mem_map.2 ⟨e, he, e9⟩)
    rcases h6 with h6 | h6 | h6
    · exact h1 h6
    · exact h2 h6
    · omega)
  refine (h3.peek z (by omega)).mono ?_
  rintro r w' ⟨a, n, cc, rfl, h6⟩
  rw [hn]
  exact ⟨a, n, cc, rfl, y, h6, h4, h5⟩
theorem ChPost.wide {b : Nat} {M : List Nat} {out : List Sp} {w w1 w' : World} {e : Ending} (h : ChPost b M out w1 e w') (hb : Below w.heap.size w w1) : ChPost b M out w e w' := by
  obtain ⟨he, M', h1, h2, h3⟩ := h
  exact ⟨he, M', h1, (KeepB.of_below hb).trans h2, fun p hp => (h3 p hp).imp id (fun h => Nat.le_trans hb.size h)⟩
/-- from a later world on, in which more lies -/
theorem MsS.fresh {c : Nat} {x0 : Ca} {M0 : List Nat} {D : List Sp} {x1 : Int} {w0 w w5 : World} (h : MsS c x0 M0 D 0 0 w0 w) (hb : Below w.heap.size w w5) :
    ∃ Mi, (∀ p ∈ Mi, p < w.heap.size) ∧ MsS c x0 Mi D x1 x1 w5 w5 ∧ KeepB M0 w0 w5 ∧ ∀ p ∈ Mi, p ∈ M0 ∨ w0.heap.size ≤ p := by
  obtain ⟨y, ⟨M, G, h1, h2, h3⟩, h4, h5⟩ := h
  refine ⟨M, h1.lt.1, ⟨y, ⟨M, G, h1.below hb, KeepB.refl _ _, fun p hp => .inl hp⟩, h4, fun v => ?_⟩, h2.trans (KeepB.of_below hb), h3⟩
  rw [h5]
  constructor
  · rintro (h | h | h)
    · exact .inl h
    · exact .inr (.inl h)
    · omega
  · rintro (h | h | h)
    · exact .inl h
    · exact .inr (.inl h)
    · omega
theorem MsS.nest {c : Nat} {x0 : Ca} {M0 Mi : List Nat} {l : List Sp} {j : Nat} {x1 x2 : Int} {w0 w5 w : World} (h : MsS c x0 Mi (l.take j) x1 x2 w5 w) (hx : l[j]? = some (x1, x2)) (hk : KeepB M0 w0 w5) (hM : ∀ p ∈ Mi, p ∈ M0 ∨ w0.heap.size ≤ p) : MsS c x0 M0 (l.take (j + 1)) 0 0 w0 w := by
  obtain ⟨y, h1, h2, h3⟩ := h
  refine ⟨y, h1.nest hk hM, h2, fun v => ?_⟩
  rw [h3, mem_take v hx]
  unfold inx
  constructor
  · rintro (h | h | h)
    · exact .inl h
    · exact .inr (.inl (.inl h))
    · exact .inr (.inl (.inr h))
  · rintro (h | (h | h) | h)
    · exact .inl h
    · exact .inr (.inl h)
    · exact .inr (.inr h)
    · omega
end Go.Proofs.YtkdkhphpknnceaaDoor.C
