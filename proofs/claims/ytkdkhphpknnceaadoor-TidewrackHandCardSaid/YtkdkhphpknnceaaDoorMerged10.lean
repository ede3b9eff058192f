/- TidewrackMissing: of a range of lines each is at hand, or missing; when these are put, none is. -/
import Derived.Test.YtkdkhphpknnceaaDoorMerged9
import Derived.Test.YtkdkhphpknnceaaDoorHMis
import Derived.Test.YtkdkhphpknnceaaDoorMerged7
import Derived.Lib.QuietBelow
import Derived.BigQuiet
import Derived.Test.YtkdkhphpknnceaaDoorRelD
import Derived.Test.YtkdkhphpknnceaaDoorRelU
namespace Go.Proofs.YtkdkhphpknnceaaDoor.C
open Go.RowKit Go.Maps Go.Proofs.YtkdkhphpknnceaaDoor.H
open Go.Proofs.YtkdkhphpknnceaaDoor.W (OwnI IntsIn)

/-- a cache from a world on: of the blocks that were there only these change -/
def KC (c : Nat) (x : Ca) (M0 : List Nat) (w0 w : World) : Prop := ∃ M G, Ch c M G x w ∧ KeepB M0 w0 w ∧ ∀ p ∈ M, p ∈ M0 ∨ w0.heap.size ≤ p
theorem KC.put {c : Nat} {x : Ca} {M0 : List Nat} {w0 w : World} (h : KC c x M0 w0 w) (i : Int) (hi : -9223372036854775808 ≤ i ∧ i ≤ 9223372036854775807) :
    Calls Tryd.prog 6 #[.pointer (some ⟨c, 0, none⟩), .int .i64 i, .slice none 0 0] w fun r w' => r = .returned (.tuple #[.int .i64 (putC x i []).2.1, .bool (putC x i []).2.2]) ∧ KC c (putC x i []).1 M0 w0 w' := by
  obtain ⟨M, G, h1, h2, h3⟩ := h
  refine (put_any i hi none 0 0 [] w h1 (no_pairs _ _) (fun _ => rfl) (by decide) (fun _ p o e => by cases e)).mono ?_
  rintro r w' ⟨M', G', rfl, h5, h6, h7, h8⟩
  refine ⟨rfl, M', G', h5, ⟨h6.os.trans h2.os, h6.tape.trans h2.tape, h6.output.trans h2.output, Nat.le_trans h2.size h6.size, fun p hp hm => (h6.block p (Nat.lt_of_lt_of_le hp h2.size) (fun h9 => (h3 p h9).elim hm (fun h => by omega))).trans (h2.block p hp hm)⟩, fun p hp => (h7 p hp).elim (h3 p) (fun h => .inr (Nat.le_trans h2.size h))⟩
theorem KC.below {c : Nat} {x : Ca} {M0 : List Nat} {w0 w w' : World} (h : KC c x M0 w0 w) (hb : Below w.heap.size w w') : KC c x M0 w0 w' := by
  obtain ⟨M, G, h1, h2, h3⟩ := h
  exact ⟨M, G, h1.below hb, h2.trans (KeepB.of_below hb), h3⟩
theorem KC.nest {c : Nat} {x : Ca} {M0 M1 : List Nat} {w0 w1 w : World} (h : KC c x M1 w1 w) (hk : KeepB M0 w0 w1) (hM : ∀ p ∈ M1, p ∈ M0 ∨ w0.heap.size ≤ p) : KC c x M0 w0 w := by
  obtain ⟨M, G, h1, h2, h3⟩ := h
  refine ⟨M, G, h1, ⟨h2.os.trans hk.os, h2.tape.trans hk.tape, h2.output.trans hk.output, Nat.le_trans hk.size h2.size, fun p hp hm => (h2.block p (Nat.lt_of_lt_of_le hp hk.size) (fun h9 => (hM p h9).elim hm (fun h => by omega))).trans (hk.block p hp hm)⟩, fun p hp => (h3 p hp).elim (hM p) (fun h => .inr (Nat.le_trans hk.size h))⟩
theorem KC.peek {c : Nat} {x : Ca} {M0 : List Nat} {w0 w : World} (h : KC c x M0 w0 w) (i : Int) (hi : -9223372036854775808 ≤ i ∧ i ≤ 9223372036854775807) :
    Calls Tryd.prog 28 #[.pointer (some ⟨c, 0, none⟩), .int .i64 i] w fun r w' => ∃ a n cc, r = .returned (.tuple #[.slice a n cc, .bool (findC x.L i).isSome]) ∧ KC c x M0 w0 w' := by
  obtain ⟨M, G, h1, h2, h3⟩ := h
  refine (peek_any i hi w h1).mono ?_
  rintro r w' ⟨v, rfl, h4, h5⟩
  obtain ⟨a, cc, rfl, -⟩ := h4.shape
  exact ⟨a, _, cc, rfl, M, G, h1.below h5, h2.trans (KeepB.of_below h5), h3⟩
theorem KC.nodup {c : Nat} {x : Ca} {M0 : List Nat} {w0 w : World} (h : KC c x M0 w0 w) : (nums x).Nodup := by
  obtain ⟨M, G, ⟨m, e, ns, h1, h2, -⟩, -⟩ := h
  unfold nums
  rw [← h2, List.map_map]
  exact h1.num
theorem KC.keep {c : Nat} {x : Ca} {M0 : List Nat} {w0 w : World} (h : KC c x M0 w0 w) : KeepB M0 w0 w := h.choose_spec.choose_spec.2.1
theorem KC.one {c : Nat} {x : Ca} {M0 : List Nat} {W w0 w : World} (h : KC c x M0 w0 w) (hM : ∀ p ∈ M0, W.heap.size ≤ p) (hb : Below W.heap.size W w0) : OneC c x W w := by
  obtain ⟨M, G, h1, h2, h3⟩ := h
  exact ⟨M, G, h1, fun p hp => (h3 p hp).elim (hM p) (fun h => Nat.le_trans hb.size h), h2.below hM hb hb.size⟩
/-- what is at hand, when the first spans were put, and numbers of the next below z -/
def MsS (c : Nat) (x0 : Ca) (M0 : List Nat) (D : List Sp) (x1 z : Int) (w0 w : World) : Prop := ∃ y, KC c y M0 w0 w ∧ Roomy y ∧ ∀ v, v ∈ nums y ↔ v ∈ nums x0 ∨ mem v D ∨ (x1 ≤ v ∧ v < z)
theorem MsS.put {c : Nat} {x0 : Ca} {M0 : List Nat} {D : List Sp} {x1 z : Int} {w0 w : World} (h : MsS c x0 M0 D x1 z w0 w) (hz : 0 ≤ z ∧ z < 47) (hx : x1 ≤ z) :
    Calls Tryd.prog 6 #[.pointer (some ⟨c, 0, none⟩), .int .i64 z, .slice none 0 0] w fun r w' => r = .returned (.tuple #[.int .i64 0, .bool false]) ∧ MsS c x0 M0 D x1 (z + 1) w0 w' := by
  obtain ⟨y, h1, h2, h3⟩ := h
  obtain ⟨e1, e2, e3⟩ := put_room h1.nodup h2 hz
  refine (h1.put z (by omega)).mono ?_
  rintro r w' ⟨rfl, h4⟩
  rw [e1]
  refine ⟨rfl, _, h4, e2, fun v => ?_⟩
  rw [e3, h3]
  constructor
  · rintro ((h | h | h) | h)
    · exact .inl h
    · exact .inr (.inl h)
    · exact .inr (.inr ⟨h.1, by omega⟩)
    · exact .inr (.inr ⟨by omega, by omega⟩)
  · rintro (h | h | h)
    · exact .inl (.inl h)
    · exact .inl (.inr (.inl h))
    · by_cases e : v = z
      · exact .inr e
      · exact .inl (.inr (.inr ⟨h.1, by omega⟩))
theorem MsS.peek {c : Nat} {x0 : Ca} {M0 : List Nat} {D : List Sp} {x1 z : Int} {w0 w : World} (h : MsS c x0 M0 D x1 z w0 w) (hi : 0 ≤ z ∧ z < 47) (h1 : z ∉ nums x0) (h2 : ¬ mem z D) :
    Calls Tryd.prog 28 #[.pointer (some ⟨c, 0, none⟩), .int .i64 z] w fun r w' => ∃ a n cc, r = .returned (.tuple #[.slice a n cc, .bool false]) ∧ MsS c x0 M0 D x1 z w0 w' := by
  obtain ⟨y, h3, h4, h5⟩ := h
  have hn : findC y.L z = none := find_none _ _ (fun e he e9 => by
    have h6 := (h5 z).1 (List.mem_map.2 ⟨e, he, e9⟩)
    rcases h6 with h6 | h6 | h6
    · exact h1 h6
    · exact h2 h6
    · omega)
  refine (h3.peek z (by omega)).mono ?_
  rintro r w' ⟨a, n, cc, rfl, h6⟩
  rw [hn]
  exact ⟨a, n, cc, rfl, y, h6, h4, h5⟩
theorem ChPost.wide {b : Nat} {M : List Nat} {out : List Sp} {w w1 w' : World} {e : Ending} (h : ChPost b M out w1 e w') (hb : Below w.heap.size w w1) : ChPost b M out w e w' := by
  obtain ⟨he, M', h1, h2, h3⟩ := h
  exact ⟨he, M', h1, (KeepB.of_below hb).trans h2, fun p hp => (h3 p hp).imp id (fun h => Nat.le_trans hb.size h)⟩
/-- from a later world on, in which more lies -/
theorem MsS.fresh {c : Nat} {x0 : Ca} {M0 : List Nat} {D : List Sp} {x1 : Int} {w0 w w5 : World} (h : MsS c x0 M0 D 0 0 w0 w) (hb : Below w.heap.size w w5) :
    ∃ Mi, (∀ p ∈ Mi, p < w.heap.size) ∧ MsS c x0 Mi D x1 x1 w5 w5 ∧ KeepB M0 w0 w5 ∧ ∀ p ∈ Mi, p ∈ M0 ∨ w0.heap.size ≤ p := by
  obtain ⟨y, ⟨M, G, h1, h2, h3⟩, h4, h5⟩ := h
  refine ⟨M, h1.lt.1, ⟨y, ⟨M, G, h1.below hb, KeepB.refl _ _, fun p hp => .inl hp⟩, h4, fun v => ?_⟩, h2.trans (KeepB.of_below hb), h3⟩
  rw [h5]
  constructor
  · rintro (h | h | h)
    · exact .inl h
    · exact .inr (.inl h)
    · omega
  · rintro (h | h | h)
    · exact .inl h
    · exact .inr (.inl h)
    · omega
theorem MsS.nest {c : Nat} {x0 : Ca} {M0 Mi : List Nat} {l : List Sp} {j : Nat} {x1 x2 : Int} {w0 w5 w : World} (h : MsS c x0 Mi (l.take j) x1 x2 w5 w) (hx : l[j]? = some (x1, x2)) (hk : KeepB M0 w0 w5) (hM : ∀ p ∈ Mi, p ∈ M0 ∨ w0.heap.size ≤ p) : MsS c x0 M0 (l.take (j + 1)) 0 0 w0 w := by
  obtain ⟨y, h1, h2, h3⟩ := h
  refine ⟨y, h1.nest hk hM, h2, fun v => ?_⟩
  rw [h3, mem_take v hx]
  unfold inx
  constructor
  · rintro (h | h | h)
    · exact .inl h
    · exact .inr (.inl (.inl h))
    · exact .inr (.inl (.inr h))
  · rintro (h | (h | h) | h)
    · exact .inl h
    · exact .inr (.inl h)
    · exact .inr (.inr h)
    · omega
end Go.Proofs.YtkdkhphpknnceaaDoor.C

/- Glyphs as the document's: the contract of the statements' Told; and whether runes are the document's: Glyphs. -/
namespace Go.Proofs.YtkdkhphpknnceaaDoor.C
open Go.RowKit Go.Proofs.YtkdkhphpknnceaaDoor.H

def RngG (l : List (Int × Int)) : Prop := ∀ g ∈ l, -2147483648 ≤ g.1 ∧ g.1 ≤ 2147483647
end Go.Proofs.YtkdkhphpknnceaaDoor.C

/- Lines of numbers in a row, put and asked for where there is room. -/
namespace Go.Proofs.YtkdkhphpknnceaaDoor.C
open Go.RowKit Go.Maps Go.Proofs.YtkdkhphpknnceaaDoor.H

abbrev Ent := Int × List (Int × Int)
theorem drop_one {A B : List Ent} {x : Ent} (h : ((A ++ x :: B).map (·.1)).Nodup) : dropC (A ++ x :: B) x.1 = A ++ B := by
  rw [List.map_append, List.map_cons] at h
  have h9 := List.nodup_append.1 h
  unfold dropC
  rw [List.filter_append, List.filter_cons]
  have e2 : (!(x.1 == x.1)) = false := by simp
  rw [e2, if_neg (by decide), List.filter_eq_self.2, List.filter_eq_self.2]
  · intro z hz
    have : z.1 ≠ x.1 := fun e => (List.nodup_cons.1 h9.2.1).1 (by rw [← e]; exact List.mem_map.2 ⟨z, hz, rfl⟩)
    simpa using this
  · intro z hz
    have : z.1 ≠ x.1 := fun e => h9.2.2 z.1 (List.mem_map.2 ⟨z, hz, rfl⟩) x.1 (by simp) e
    simpa using this
theorem take_snocE (A : List Ent) (k : Nat) (x : Ent) (h : A[k]? = some x) : A.take (k + 1) = A.take k ++ [x] := by
  obtain ⟨hk, he⟩ := List.getElem?_eq_some_iff.1 h
  rw [List.take_succ_eq_append_getElem hk, he]
theorem drop_consE (A : List Ent) (k : Nat) (x : Ent) (h : A[k]? = some x) : A.drop k = x :: A.drop (k + 1) := by
  obtain ⟨hk, he⟩ := List.getElem?_eq_some_iff.1 h
  rw [List.drop_eq_getElem_cons hk, he]
theorem not_ahead {A : List Ent} (hn : (A.map (·.1)).Nodup) {k : Nat} {x : Ent} (h : A[k]? = some x) : ∀ z ∈ A.take k, z.1 ≠ x.1 := fun z hz e => by
  have h1 : A = A.take k ++ x :: A.drop (k + 1) := by rw [← drop_consE A k x h, List.take_append_drop]
  rw [h1, List.map_append, List.map_cons] at hn
  exact (List.nodup_append.1 hn).2.2 z.1 (List.mem_map.2 ⟨z, hz, rfl⟩) x.1 (by simp) e
theorem put_row {A : List Ent} {k m : Nat} {x : Ent} (hn : (A.map (·.1)).Nodup) (h : A[k]? = some x) (hm : A.length ≤ m) (hx : 0 ≤ x.1 ∧ x.1 ≤ 1152921504606846976) : putC ⟨m, A.take k⟩ x.1 x.2 = (⟨m, A.take (k + 1)⟩, 0, false) := by
  have hk := (List.getElem?_eq_some_iff.1 h).1
  unfold putC
  have e1 : dropC (A.take k) x.1 ++ [(x.1, x.2)] = A.take (k + 1) := by
    rw [take_snocE A k x h, drop_none (not_ahead hn h)]
  rw [if_neg (by omega), e1, if_pos (by rw [List.length_take]; show min (k + 1) A.length ≤ m; omega)]
/-- numbers in a row -/
def InRow (f : Int) (A : List Ent) : Prop := ∀ (k : Nat) (x : Ent), A[k]? = some x → x.1 = f + k
theorem InRow.nodup {f : Int} {A : List Ent} (h : InRow f A) : (A.map (·.1)).Nodup := by
  rw [List.nodup_iff_pairwise_ne, List.pairwise_iff_getElem]
  intro i j hi hj hij
  rw [List.getElem_map, List.getElem_map]
  have hi' : i < A.length := by simpa using hi
  have hj' : j < A.length := by simpa using hj
  have h1 := h i A[i] (List.getElem?_eq_getElem hi')
  have h2 := h j A[j] (List.getElem?_eq_getElem hj')
  omega
theorem InRow.mem {f : Int} {A : List Ent} (h : InRow f A) (v : Int) : v ∈ A.map (·.1) ↔ f ≤ v ∧ v < f + A.length := by
  constructor
  · intro hv
    obtain ⟨x, hx, rfl⟩ := List.mem_map.1 hv
    obtain ⟨k, hk, he⟩ := List.mem_iff_getElem.1 hx
    have h1 := h k x (by rw [List.getElem?_eq_getElem hk, he])
    omega
  · rintro ⟨h1, h2⟩
    have hk : (v - f).toNat < A.length := by omega
    have h3 := h (v - f).toNat A[(v - f).toNat] (List.getElem?_eq_getElem hk)
    exact List.mem_map.2 ⟨_, List.getElem_mem hk, by rw [h3]; omega⟩
end Go.Proofs.YtkdkhphpknnceaaDoor.C

/- CacheRoom: where there is room none goes, and each is at hand as it was put. -/
namespace Go.Proofs.YtkdkhphpknnceaaDoor.C
open Go.RowKit Go.Maps Go.Proofs.YtkdkhphpknnceaaDoor.H

/-- a line that was handed in -/
structure LArg where
  sa : Option Addr
  sn : Nat
  sc : Nat
  g : List (Int × Int)
structure LArgsIn (a : Option Addr) (n c : Nat) (l : List LArg) (w : World) : Prop where
  len : n = l.length
  fit : n ≤ c
  top : (c : Int) ≤ 9223372036854775807
  at_ : l = [] ∨ ∃ b off, a = some ⟨b, off, none⟩ ∧ b < w.heap.size ∧ ∀ i A, l[i]? = some A → w.cell? ⟨b, off + i, none⟩ = some (.slice A.sa A.sn A.sc)
  sub : ∀ A ∈ l, PairsIn .i32 A.sa A.sn A.sc A.g w ∧ (A.sa = none → A.sc = 0) ∧ RngG A.g
theorem LArgsIn.one {a : Option Addr} {n c : Nat} {l : List LArg} {w : World} (h : LArgsIn a n c l w) {k : Nat} (hk : k < n) : ∃ b off A, a = some ⟨b, off, none⟩ ∧ b < w.heap.size ∧ l[k]? = some A ∧ w.cell? ⟨b, off + k, none⟩ = some (.slice A.sa A.sn A.sc) := by
  obtain ⟨A, hA⟩ : ∃ A, l[k]? = some A := ⟨_, List.getElem?_eq_getElem (by rw [← h.len]; exact hk)⟩
  obtain ⟨b, off, ha, hb, hi⟩ := h.at_.resolve_left (by intro e; rw [e] at hA; cases hA)
  exact ⟨b, off, A, ha, hb, hA, hi k A hA⟩
theorem pairs_front {rk : IntKind} {a : Option Addr} {n c : Nat} {l : List (Int × Int)} {w : World} (h : PairsIn rk a n c l w) {k : Nat} (hk : k ≤ n) : PairsIn rk a k c (l.take k) w := by
  refine ⟨by rw [List.length_take, ← h.len]; omega, Nat.le_trans hk h.fit, h.top, ?_⟩
  rcases h.at_ with e | ⟨b, off, ha, hb, hi⟩
  · exact .inl (by rw [e]; simp)
  · refine .inr ⟨b, off, ha, hb, fun i g hg => ?_⟩
    rw [List.getElem?_take] at hg
    split at hg
    · exact hi i g hg
    · cases hg
def StR (w : World) (Q : World → Prop) : Nat → (Nat → Value) → World → Prop
  | 0, _, u => EqD w u
  | _, _, u => Q u
theorem StR.cong {w : World} {Q : World → Prop} {k : Nat} {f f2 : Nat → Value} {u : World} (h : StR w Q k f u) : StR w Q k f2 u := by
  match k, h with
  | 0, h => exact h
  | _ + 1, h => exact h
end Go.Proofs.YtkdkhphpknnceaaDoor.C
