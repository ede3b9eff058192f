/- Slices of lines: the document's books in memory. -/
import Derived.Test.YtkggmcnocpgnbaaDoorMerged15
import Derived.Test.YtkggmcnocpgnbaaDoorMerged11
namespace Go.Proofs.YtkggmcnocpgnbaaDoor.K
open Go.RowKit

/-- a line, as it lies in a block of lines -/
structure Sv where
  a : Option Addr
  n : Nat
  c : Nat
def sV (u : Sv) : Value := .slice u.a u.n u.c
def flatS (l : List Sv) : List Value := l.map sV
theorem flatS_len (l : List Sv) : (flatS l).length = l.length * 1 := by unfold flatS; rw [List.length_map, Nat.mul_one]
theorem flatS_append (a b : List Sv) : flatS (a ++ b) = flatS a ++ flatS b := List.map_append ..
theorem flatS_one (l : List Sv) : ∀ u ∈ flatS l, u.oneCell' = true := by
  intro u hu
  obtain ⟨c, _, rfl⟩ := List.mem_map.1 hu
  rfl
def OwnS (base : Nat) (v : Value) (l : List Sv) (w : World) : Prop := w.ownsRow base 31 1 v l.length (flatS l)
theorem OwnS.nil (base : Nat) (w : World) : OwnS base (.slice none 0 0) [] w := World.ownsRow_nil _ _ _ _
theorem OwnS.belowAll {base : Nat} {v : Value} {l : List Sv} {w w' : World} (h : OwnS base v l w) (hb : Below w.heap.size w w') : OwnS base v l w' := U.belowAll h hb
theorem OwnS.weaken {base base' : Nat} {v : Value} {l : List Sv} {w : World} (h : OwnS base v l w) (hb : base' ≤ base) : OwnS base' v l w := U.weaken h hb
theorem OwnS.ownBlock {base : Nat} {v : Value} {l : List Sv} {w : World} (h : OwnS base v l w) : ∀ q, v.ownBlock = some q → base ≤ q ∧ q < w.heap.size := fun q hq => ⟨(U.own_type h hq).choose_spec.2.1, (U.own_type h hq).choose_spec.2.2⟩
theorem OwnS.lit (w : World) (base : Nat) (hb : base ≤ w.heap.size) : OwnS base (.slice (some ⟨w.heap.size, 0, none⟩) 0 0) [] (w.alloc (.cells #[] 31)) := World.ownsRow_lit w #[] 0 hb (by decide) rfl
/-- a slice of lines -/
structure SvsIn (a : Option Addr) (n c : Nat) (us : List Sv) (w : World) : Prop where
  len : n = us.length
  fit : n ≤ c
  top : (c : Int) ≤ 9223372036854775807
  nil : a = none → c = 0
  at_ : us = [] ∨ ∃ b off, a = some ⟨b, off, none⟩ ∧ b < w.heap.size ∧ ∀ i u, us[i]? = some u → w.cell? ⟨b, off + i, none⟩ = some (.slice u.a u.n u.c)
theorem SvsIn.belowAll {a : Option Addr} {n c : Nat} {us : List Sv} {w w' : World} (h : SvsIn a n c us w) (hb : Below w.heap.size w w') : SvsIn a n c us w' := by
  refine ⟨h.len, h.fit, h.top, h.nil, h.at_.imp id ?_⟩
  rintro ⟨b, off, ha, hl, hi⟩
  exact ⟨b, off, ha, Nat.lt_of_lt_of_le hl hb.size, fun i u hu => (hb.cell (p := ⟨b, off + i, none⟩) hl).trans (hi i u hu)⟩
theorem OwnS.shape {base : Nat} {v : Value} {l : List Sv} {w : World} (h : OwnS base v l w) : ∃ a c, v = .slice a l.length c ∧ SvsIn a l.length c l w ∧ (∀ b off, a = some ⟨b, off, none⟩ → base ≤ b ∧ b < w.heap.size ∧ off = 0) := by
  rcases h.2 with ⟨rfl, h0⟩ | ⟨g, cap, cur, rfl, hbase, hg, hc, hm, hs, ht⟩
  · exact ⟨none, 0, by rw [h0], ⟨rfl, by omega, by decide, fun _ => rfl, .inl (List.length_eq_zero_iff.1 h0)⟩, (fun _ _ e => by cases e)⟩
  · have hlt := (Array.getElem?_eq_some_iff.1 hg).1
    refine ⟨some ⟨g, 0, none⟩, cap, rfl, ⟨rfl, hc, by unfold maxLen at hm; omega, (fun e => by cases e), .inr ⟨g, 0, rfl, hlt, fun i c hi => ?_⟩⟩, (fun b off e => by cases e; exact ⟨hbase, hlt, rfl⟩)⟩
    have hil : i < l.length := (List.getElem?_eq_some_iff.1 hi).1
    rw [Nat.zero_add, World.ownsRow.cellAt h i (by omega)]
    unfold flatS
    rw [List.getElem?_map, hi]
    rfl
theorem SvsIn.news {b off n c : Nat} {l : List Sv} {w : World} (h : SvsIn (some ⟨b, off, none⟩) n c l w) : ∀ j u, (flatS l)[j]? = some u → w.cell? ((⟨b, off, none⟩ : Addr).add j) = some u := by
  intro j u hj
  have hadd : ((⟨b, off, none⟩ : Addr).add j) = ⟨b, off + j, none⟩ := by unfold Addr.add; split <;> simp_all
  rw [hadd]
  unfold flatS at hj
  rw [List.getElem?_map] at hj
  obtain ⟨d, hd, rfl⟩ := Option.map_eq_some_iff.1 hj
  rcases h.at_ with e | ⟨b', off', ha, hb, hi⟩
  · rw [e] at hd; cases hd
  · cases ha
    exact hi j d hd
theorem linesInfo : (Tryd.prog.info? 31).map (fun i => (i.zero, i.size, i.bytes)) = some (some (.slice none 0 0), 1, 24) := by kernel_rfl
theorem linesSl : Tryd.prog.underlying 29 = some (.slice 31) := Tryd.underlying29
theorem run_append_svs (base : Nat) (v : Value) (l : List Sv) (a : Option Addr) (m c : Nat) (l2 : List Sv) (w : World) (hown : OwnS base v l w) (h : SvsIn a m c l2 w) (h1 : (l.length : Int) ≤ 1000000) (h2 : (l2.length : Int) ≤ 1000000) (hbase : base ≤ w.heap.size) :
    ∃ v' w', (Builtin.append_ #[29, 29] 29 #[v, .slice a m c]).run Tryd.prog w = .ok v' w' ∧ OwnS base v' (l ++ l2) w' ∧ w.grownBy w' v.ownBlock := by
  obtain ⟨i0, hi, hz0, hz1, hz2⟩ := info_parts linesInfo
  have hl := h.len
  have hmul : (l.length + m) * 24 ≤ 140737488355328 := Nat.le_trans (Nat.mul_le_mul (show l.length + m ≤ 2000000 by omega) (Nat.le_refl 24)) (by decide)
  have done : ∀ v' w', U.Grew base 31 1 v (l.length + m) (flatS l ++ flatS l2) w v' w' → OwnS base v' (l ++ l2) w' := fun v' w' g => by
    unfold OwnS
    rw [List.length_append, flatS_append, ← hl]
    exact g.own
  cases a with
  | none =>
    have hc := h.nil rfl
    have h0 : l2 = [] := by
      rcases h.at_ with h0 | ⟨b, off, e, _⟩
      · exact h0
      · cases e
    subst h0
    obtain rfl : m = 0 := hl
    obtain ⟨hr, g⟩ := U.append_none (P := Tryd.prog) w 29 29 31 i0 1 c linesSl hi base v l.length (flatS l) hown hc
    have g' : U.Grew base 31 1 v (l.length + 0) (flatS l ++ flatS []) w v w := by simpa [flatS] using g
    exact ⟨v, w, hr, done _ _ g', g'.grown⟩
  | some ad =>
    have hnews : ∀ j u, (flatS l2)[j]? = some u → w.cell? (ad.add j) = some u := fun j u hj => by
      rcases h.at_ with h0 | ⟨b, off, e, _⟩
      · rw [h0] at hj; simp [flatS] at hj
      · cases e
        exact h.news j u hj
    obtain ⟨v', w', hr, g⟩ := U.append_grew (P := Tryd.prog) w 29 29 31 i0 _ 1 24 linesSl hi hz0 hz1 hz2 rfl (by decide) base v l.length (flatS l) hown ad m c (flatS l2) (by rw [flatS_len, hl]) hnews (flatS_one l2) (by unfold maxLen; omega) hmul hbase
    exact ⟨v', w', hr, done _ _ g, g.grown⟩
theorem wpList_append_svs {ops : Array Oper} {rest : List Oper} {o : Oper} {z : Act} {w : World} {Q : Exit → Act → World → Prop} (hgd : o.guard = none) (s x : Operand)
    (ho : o.op = .call { callee := .builtin .append, args := #[s, x], argTypes := #[29, 29] }) (hty : o.type = 29)
    (base : Nat) (v : Value) (l : List Sv) (a : Option Addr) (m c : Nat) (l2 : List Sv) (hs : z.eval s = v) (hxv : z.eval x = .slice a m c) (hown : OwnS base v l w) (h : SvsIn a m c l2 w) (h1 : (l.length : Int) ≤ 1000000) (h2 : (l2.length : Int) ≤ 1000000) (hbase : base ≤ w.heap.size)
    (hK : ∀ v' w', OwnS base v' (l ++ l2) w' → w.grownBy w' v.ownBlock → wpList Tryd.prog ops Q rest (z.put o.dst v') w') : wpList Tryd.prog ops Q (o :: rest) z w :=
  wpList_plain hgd fun _ hK' => by
    obtain ⟨v', w', hr, k1, k2⟩ := run_append_svs base v l a m c l2 w hown h h1 h2 hbase
    unfold Oper.wp execOp
    simp only [ho, hty, resolve, invoke, builtin, Sem.run_bind, Sem.run_pure, Result.andThen_ok, List.map_toArray, List.map_cons, List.map_nil, hs, hxv, hr]
    exact hK' _ _ (hK v' w' k1 k2)
theorem svs_one (w : World) (u : Sv) : SvsIn (some ⟨w.heap.size, 0, none⟩) 1 1 [u] (w.alloc (.cells #[.slice u.a u.n u.c] 31)) :=
  ⟨rfl, Nat.le_refl _, by decide, (fun e => by cases e), .inr ⟨w.heap.size, 0, rfl, by simp, fun i d hi => by
    have h0 : i = 0 := by have := (List.getElem?_eq_some_iff.1 hi).1; simp at this; omega
    subst h0
    obtain rfl : u = d := by simpa using hi
    rw [World.cell?_alloc_new]; rfl⟩⟩
/-- what the lines' runes are -/
def SvsV (us : List Sv) (L : List (List (Int × Int))) (w : World) : Prop := us.length = L.length ∧ ∀ (i : Nat) (u : Sv) (l : List (Int × Int)), us[i]? = some u → L[i]? = some l → PairsIn .i64 u.a u.n u.c l w
theorem SvsV.belowAll {us : List Sv} {L : List (List (Int × Int))} {w w' : World} (h : SvsV us L w) (hb : Below w.heap.size w w') : SvsV us L w' := ⟨h.1, fun i u l h1 h2 => (h.2 i u l h1 h2).belowAll hb⟩
theorem SvsV.snoc {us : List Sv} {L : List (List (Int × Int))} {u : Sv} {l : List (Int × Int)} {w : World} (h : SvsV us L w) (hu : PairsIn .i64 u.a u.n u.c l w) : SvsV (us ++ [u]) (L ++ [l]) w := by
  refine ⟨by rw [List.length_append, List.length_append, h.1]; rfl, fun i v q hv hq => ?_⟩
  rcases Nat.lt_or_ge i us.length with hi | hi
  · rw [List.getElem?_append_left hi] at hv
    rw [List.getElem?_append_left (by rw [← h.1]; exact hi)] at hq
    exact h.2 i v q hv hq
  · rw [List.getElem?_append_right hi] at hv
    rw [List.getElem?_append_right (by rw [← h.1]; exact hi), ← h.1] at hq
    match i - us.length, hv, hq with
    | 0, hv, hq =>
      obtain rfl : u = v := by simpa using hv
      obtain rfl : l = q := by simpa using hq
      exact hu
/-- the document's lines, handed over -/
def LinR (a : Option Addr) (n c : Nat) (L : List (List (Int × Int))) (w : World) : Prop := ∃ us, SvsIn a n c us w ∧ SvsV us L w
theorem LinR.nil (w : World) : LinR none 0 0 [] w := ⟨[], ⟨rfl, Nat.le_refl _, by decide, fun _ => rfl, .inl rfl⟩, rfl, fun i u l h => by cases h⟩
theorem LinR.belowAll {a : Option Addr} {n c : Nat} {L : List (List (Int × Int))} {w w' : World} (h : LinR a n c L w) (hb : Below w.heap.size w w') : LinR a n c L w' := by
  obtain ⟨us, h1, h2⟩ := h
  exact ⟨us, h1.belowAll hb, h2.belowAll hb⟩
theorem LinR.len {a : Option Addr} {n c : Nat} {L : List (List (Int × Int))} {w : World} (h : LinR a n c L w) : n = L.length := by
  obtain ⟨us, h1, h2⟩ := h
  rw [h1.len, h2.1]
/-- and apart from blocks -/
def LinO (X : List Nat) (a : Option Addr) (n c : Nat) (L : List (List (Int × Int))) (w : World) : Prop := ∃ us, SvsIn a n c us w ∧ SvsV us L w ∧ (∀ u ∈ us, u.n ≠ 0 → ∀ p o, u.a = some ⟨p, o, none⟩ → p ∉ X) ∧ (n ≠ 0 → ∀ p o, a = some ⟨p, o, none⟩ → p ∉ X)
theorem LinO.nil (X : List Nat) (w : World) : LinO X none 0 0 [] w := ⟨[], ⟨rfl, Nat.le_refl _, by decide, fun _ => rfl, .inl rfl⟩, ⟨rfl, fun i u l h => by cases h⟩, (fun u h => by cases h), fun h => absurd rfl h⟩
theorem LinO.linR {X : List Nat} {a : Option Addr} {n c : Nat} {L : List (List (Int × Int))} {w : World} (h : LinO X a n c L w) : LinR a n c L w := by
  obtain ⟨us, h1, h2, -⟩ := h
  exact ⟨us, h1, h2⟩
/-- of our own: the block of the lines is as new as the base, what they tell of is older -/
def RefL (base : Nat) (X : List Nat) (v : Value) (L : List (List (Int × Int))) (w : World) : Prop := ∃ us, OwnS base v us w ∧ SvsV us L w ∧ ∀ u ∈ us, u.n ≠ 0 → ∀ p o, u.a = some ⟨p, o, none⟩ → p < base ∧ p ∉ X
theorem RefL.shape {base : Nat} {X : List Nat} {v : Value} {L : List (List (Int × Int))} {w : World} (h : RefL base X v L w) (hX : ∀ p ∈ X, p < base) : ∃ a c, v = .slice a L.length c ∧ LinR a L.length c L w ∧ LinO X a L.length c L w := by
  obtain ⟨us, h1, h2, h3⟩ := h
  obtain ⟨a, c, e, h4, h5⟩ := h1.shape
  rw [h2.1] at e h4
  exact ⟨a, c, e, ⟨us, h4, h2⟩, us, h4, h2, fun u hu hn p o e2 => (h3 u hu hn p o e2).2, fun _ p o e2 hm => by have := (h5 p o e2).1; have := hX p hm; omega⟩
theorem PairsIn.oldKept {rk : IntKind} {a : Option Addr} {n c : Nat} {l : List (Int × Int)} {w w' : World} {base : Nat} (h : PairsIn rk a n c l w) (hl : n ≠ 0 → ∀ p o, a = some ⟨p, o, none⟩ → p < base) (hb : Below base w w') : PairsIn rk a n c l w' := by
  refine ⟨h.len, h.fit, h.top, ?_⟩
  by_cases h0 : l = []
  · exact .inl h0
  · have hn : n ≠ 0 := fun e => h0 (List.length_eq_zero_iff.1 (by rw [← h.len, e]))
    obtain ⟨b, off, ha, hlt, hi⟩ := h.at_.resolve_left h0
    have hk := hb.block b (hl hn b off ha)
    exact .inr ⟨b, off, ha, Nat.lt_of_lt_of_le hlt hb.size, fun i u hu => ⟨(World.cell?_of_block (a := ⟨b, off + i * 2, none⟩) hk).trans (hi i u hu).1, (World.cell?_of_block (a := ⟨b, off + i * 2 + 1, none⟩) hk).trans (hi i u hu).2⟩⟩
theorem PairsIn.lt {rk : IntKind} {a : Option Addr} {n c : Nat} {l : List (Int × Int)} {w : World} (h : PairsIn rk a n c l w) (hn : n ≠ 0) : ∀ p o, a = some ⟨p, o, none⟩ → p < w.heap.size := fun p o e => by
  obtain ⟨b, off, ha, hlt, -⟩ := h.at_.resolve_left (fun e0 => hn (by rw [h.len, e0]; rfl))
  rw [e] at ha
  cases ha
  exact hlt
theorem SvsV.lt {us : List Sv} {L : List (List (Int × Int))} {w : World} (h : SvsV us L w) : ∀ u ∈ us, u.n ≠ 0 → ∀ p o, u.a = some ⟨p, o, none⟩ → p < w.heap.size := fun u hu hn p o e => by
  obtain ⟨i, hi⟩ := List.mem_iff_getElem?.1 hu
  have hil : i < L.length := by rw [← h.1]; exact (List.getElem?_eq_some_iff.1 hi).1
  exact (h.2 i u L[i] hi (List.getElem?_eq_getElem hil)).lt hn p o e
theorem RefL.added {base : Nat} {X : List Nat} {v' : Value} {L : List (List (Int × Int))} {us : List Sv} {u : Sv} {l : List (Int × Int)} {w w' : World} (h2 : SvsV us L w) (h3 : ∀ u ∈ us, u.n ≠ 0 → ∀ p o, u.a = some ⟨p, o, none⟩ → p < base ∧ p ∉ X) (hu : PairsIn .i64 u.a u.n u.c l w) (hu3 : u.n ≠ 0 → ∀ p o, u.a = some ⟨p, o, none⟩ → p < base ∧ p ∉ X) (h1 : OwnS base v' (us ++ [u]) w') (hb : Below base w w') : RefL base X v' (L ++ [l]) w' := by
  refine ⟨us ++ [u], h1, SvsV.snoc ⟨h2.1, fun i d q hd hq => (h2.2 i d q hd hq).oldKept (fun hn p o e => (h3 d (List.mem_of_getElem? hd) hn p o e).1) hb⟩ (hu.oldKept (fun hn p o e => (hu3 hn p o e).1) hb), fun d hd hn p o e => ?_⟩
  rcases List.mem_append.1 hd with hd | hd
  · exact h3 d hd hn p o e
  · rw [List.mem_singleton.1 hd] at e hn
    exact hu3 hn p o e
theorem PairsIn.keptN {rk : IntKind} {a : Option Addr} {n c : Nat} {l : List (Int × Int)} {w w' : World} {M : List Nat} (h : PairsIn rk a n c l w) (hl : n ≠ 0 → ∀ p o, a = some ⟨p, o, none⟩ → p ∉ M) (hk : KeepB M w w') : PairsIn rk a n c l w' := by
  refine ⟨h.len, h.fit, h.top, ?_⟩
  by_cases h0 : l = []
  · exact .inl h0
  · have hn : n ≠ 0 := fun e => h0 (List.length_eq_zero_iff.1 (by rw [← h.len, e]))
    obtain ⟨b, off, ha, hlt, hi⟩ := h.at_.resolve_left h0
    have hk' := hk.block b hlt (hl hn b off ha)
    exact .inr ⟨b, off, ha, Nat.lt_of_lt_of_le hlt hk.size, fun i u hu => ⟨(World.cell?_of_block (a := ⟨b, off + i * 2, none⟩) hk').trans (hi i u hu).1, (World.cell?_of_block (a := ⟨b, off + i * 2 + 1, none⟩) hk').trans (hi i u hu).2⟩⟩
theorem OwnS.moved {base : Nat} {v : Value} {l : List Sv} {w w' : World} (h : OwnS base v l w) (hv : ∀ q, v.ownBlock = some q → w'.heap[q]? = w.heap[q]?) : OwnS base v l w' := by
  refine ⟨h.1, ?_⟩
  rcases h.2 with h0 | ⟨g', c', cur, he, hbase, hgb, hc, hmx, hsz, ht⟩
  · exact .inl h0
  · exact .inr ⟨g', c', cur, he, hbase, (hv g' (by rw [he]; rfl)).trans hgb, hc, hmx, hsz, ht⟩
/-- a block that is apart is struck -/
theorem RefL.struck {base : Nat} {X : List Nat} {v : Value} {L : List (List (Int × Int))} {w w' : World} (h : RefL base X v L w) {M : List Nat} (hx : ∀ p ∈ M, p < base ∧ p ∈ X) (hk : KeepB M w w') : RefL base X v L w' := by
  obtain ⟨us, h1, h2, h3⟩ := h
  refine ⟨us, h1.moved (fun q hq => ?_), ⟨h2.1, fun i u l hu hl => (h2.2 i u l hu hl).keptN (fun hn p o e hm => (h3 u (List.mem_of_getElem? hu) hn p o e).2 (hx p hm).2) hk⟩, h3⟩
  have h4 := h1.ownBlock q hq
  exact hk.block q h4.2 (fun hm => by have := (hx q hm).1; omega)
theorem SvsIn.keptN {a : Option Addr} {n c : Nat} {us : List Sv} {w w' : World} {M : List Nat} (h : SvsIn a n c us w) (hl : n ≠ 0 → ∀ p o, a = some ⟨p, o, none⟩ → p ∉ M) (hk : KeepB M w w') : SvsIn a n c us w' := by
  refine ⟨h.len, h.fit, h.top, h.nil, ?_⟩
  by_cases h0 : us = []
  · exact .inl h0
  · have hn : n ≠ 0 := fun e => h0 (List.length_eq_zero_iff.1 (by rw [← h.len, e]))
    obtain ⟨b, off, ha, hlt, hi⟩ := h.at_.resolve_left h0
    have hk' := hk.block b hlt (hl hn b off ha)
    exact .inr ⟨b, off, ha, Nat.lt_of_lt_of_le hlt hk.size, fun i u hu => (World.cell?_of_block (a := ⟨b, off + i, none⟩) hk').trans (hi i u hu)⟩
theorem SvsIn.lt {a : Option Addr} {n c : Nat} {us : List Sv} {w : World} (h : SvsIn a n c us w) (hn : n ≠ 0) : ∀ p o, a = some ⟨p, o, none⟩ → p < w.heap.size := fun p o e => by
  obtain ⟨b, off, ha, hlt, -⟩ := h.at_.resolve_left (fun e0 => hn (by rw [h.len, e0]; rfl))
  rw [e] at ha
  cases ha
  exact hlt
/-- what is apart from what changes, stays, and is apart from what is new -/
theorem LinO.kept {X Y M : List Nat} {a : Option Addr} {n c : Nat} {L : List (List (Int × Int))} {w w' : World} (h : LinO X a n c L w) (hM : ∀ p ∈ M, p ∈ X) (hk : KeepB M w w') (hY : ∀ p ∈ Y, p ∈ X ∨ w.heap.size ≤ p) : LinO Y a n c L w' := by
  obtain ⟨us, h1, h2, h3, h4⟩ := h
  refine ⟨us, h1.keptN (fun hn p o e hm => h4 hn p o e (hM p hm)) hk, ⟨h2.1, fun i u l hu hl => (h2.2 i u l hu hl).keptN (fun hn p o e hm => h3 u (List.mem_of_getElem? hu) hn p o e (hM p hm)) hk⟩, fun u hu hn p o e hm => ?_, fun hn p o e hm => ?_⟩
  · rcases hY p hm with h5 | h5
    · exact h3 u hu hn p o e h5
    · have := h2.lt u hu hn p o e
      omega
  · rcases hY p hm with h5 | h5
    · exact h4 hn p o e h5
    · have := h1.lt hn p o e
      omega
theorem LinO.below {X : List Nat} {a : Option Addr} {n c : Nat} {L : List (List (Int × Int))} {w w' : World} (h : LinO X a n c L w) (hb : Below w.heap.size w w') : LinO X a n c L w' := h.kept (M := []) (fun p hp => by cases hp) (KeepB.of_below hb) (fun p hp => .inl hp)
end Go.Proofs.YtkggmcnocpgnbaaDoor.K
