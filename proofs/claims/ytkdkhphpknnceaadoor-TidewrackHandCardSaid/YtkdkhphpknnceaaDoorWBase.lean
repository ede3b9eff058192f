/- Slices of runes that are our own, and append upon them. -/
import Derived.Test.YtkdkhphpknnceaaDoorWInts
namespace Go.Proofs.YtkdkhphpknnceaaDoor.W
open Go.RowKit

/-- The cells hold these runes. -/
def Rs (w : World) (b off : Nat) (zs : List Int) : Prop := ∀ i, i < zs.length → w.cell? ⟨b, off + i, none⟩ = some (.int .i32 (zs.getD i 0))
/-- The slice holds these runes. -/
def RunesIn (a : Option Addr) (len : Nat) (zs : List Int) (w : World) : Prop := len = zs.length ∧ (zs = [] ∨ ∃ b off, a = some ⟨b, off, none⟩ ∧ b < w.heap.size ∧ Rs w b off zs)
theorem RunesIn.kept {a : Option Addr} {len : Nat} {zs : List Int} {w w' : World} (h : RunesIn a len zs w) (hs : w.heap.size ≤ w'.heap.size) (hk : ∀ b off, zs ≠ [] → a = some ⟨b, off, none⟩ → b < w.heap.size → w'.heap[b]? = w.heap[b]?) : RunesIn a len zs w' := by
  refine ⟨h.1, ?_⟩
  by_cases hz : zs = []
  · exact .inl hz
  · obtain ⟨b, off, ha, hl, hi⟩ := h.2.resolve_left hz
    exact .inr ⟨b, off, ha, Nat.lt_of_lt_of_le hl hs, fun i hi' => (World.cell?_of_block (a := ⟨b, off + i, none⟩) (hk b off hz ha hl)).trans (hi i hi')⟩
theorem RunesIn.belowAll {a : Option Addr} {len : Nat} {zs : List Int} {w w' : World} (h : RunesIn a len zs w) (hb : Below w.heap.size w w') : RunesIn a len zs w' := h.kept hb.size fun b _ _ _ hl => hb.block b hl
abbrev rn (z : Int) : Value := .int .i32 z
theorem infoRune : (Tryd.prog.info? 21).map (fun i => (i.zero, i.size, i.bytes)) = some (some (.int .i32 0), 1, 4) := by kernel_rfl
/-- A slice of runes of our own. -/
def OwnR (base : Nat) (v : Value) (zs : List Int) (w : World) : Prop := w.ownsRow base 21 1 v zs.length (zs.map rn)
theorem OwnR.nil (base : Nat) (w : World) : OwnR base (.slice none 0 0) [] w := World.ownsRow_nil _ _ _ _
theorem OwnR.belowAll {base : Nat} {v : Value} {zs : List Int} {w w' : World} (h : OwnR base v zs w) (hb : Below w.heap.size w w') : OwnR base v zs w' :=
  World.ownsRow.kept h (grownBy_of_below hb) (by
    cases hv : v.ownBlock with
    | none => exact .inl rfl
    | some k => exact .inr (by simp))
theorem OwnR.shape {base : Nat} {v : Value} {zs : List Int} {w : World} (h : OwnR base v zs w) : ∃ a c, v = .slice a zs.length c ∧ RunesIn a zs.length zs w ∧ (∀ b ∈ blkOf a zs, base ≤ b ∧ b < w.heap.size) ∧ (a = none → c = 0) ∧ (zs.length : Int) ≤ c ∧ (c : Int) ≤ 9223372036854775807 := by
  rcases h.2 with ⟨rfl, h0⟩ | ⟨g, cap, cur, rfl, hbase, hg, hc, hm, hs, ht⟩
  · refine ⟨none, 0, by rw [h0], ⟨rfl, .inl (List.length_eq_zero_iff.1 h0)⟩, (fun b hb => by cases hb), fun _ => rfl, by omega, by omega⟩
  · have hlt := (Array.getElem?_eq_some_iff.1 hg).1
    refine ⟨some ⟨g, 0, none⟩, cap, rfl, ⟨rfl, .inr ⟨g, 0, rfl, hlt, fun i hi => ?_⟩⟩, fun b hb => ?_, (fun e => by cases e), by omega, by unfold maxLen at hm; omega⟩
    · have h1 : w.cell? ⟨g, 0 + i, none⟩ = cur[i]? := by rw [Nat.zero_add]; simp [World.cell?, hg]
      rw [h1]
      have h2 : (cur.toList.take (zs.length * 1))[i]? = some (rn (zs.getD i 0)) := by rw [ht]; simp [hi]
      rw [List.getElem?_take] at h2
      split at h2
      · simpa using h2
      · cases h2
    · have hb' := blkOf_sub (zs := [0]) (fun _ => by simp) b hb
      simp [blkOf] at hb'
      subst hb'
      exact ⟨hbase, hlt⟩
theorem append_runes_run (base : Nat) (v : Value) (xs : List Int) (a : Option Addr) (m c : Nat) (zs : List Int) (w : World) (hown : OwnR base v xs w) (h : RunesIn a m zs w) (hnil : a = none → c = 0) (hx : (xs.length : Int) ≤ 1000000) (hz : (zs.length : Int) ≤ 1000000) (hbase : base ≤ w.heap.size) :
    ∃ v' w', (Builtin.append_ #[55, 55] 55 #[v, .slice a m c]).run Tryd.prog w = .ok v' w' ∧ OwnR base v' (xs ++ zs) w' ∧ w.grownBy w' v.ownBlock := by
  obtain ⟨i0, hi, hz0, hz1, hz2⟩ := info_parts infoRune
  obtain ⟨hl, hcase⟩ := h
  cases a with
  | none =>
    have hc := hnil rfl
    subst hc
    have h0 : zs = [] := by
      rcases hcase with h0 | ⟨b, off, e, _⟩
      · exact h0
      · cases e
    subst h0
    obtain rfl : m = 0 := hl
    refine ⟨v, w, run_append_owned_none w base _ _ _ i0 1 Tryd.underlying55 hi v _ _ hown, by rw [List.append_nil]; exact hown, ⟨rfl, rfl, rfl, Nat.le_refl _, fun _ _ _ => rfl⟩⟩
  | some ad =>
    obtain ⟨v', w', hr, h2, h3, _⟩ := run_append_own w base 55 55 21 i0 (.int .i32 0) 1 4 Tryd.underlying55 hi hz0 hz1 hz2 rfl (by decide) v xs.length (xs.map rn) hown ad m c (zs.map rn) (by rw [List.length_map, hl]; omega)
      (fun j u hj => by
        rcases hcase with h0 | ⟨b, off, e, hb, hI⟩
        · rw [h0] at hj; simp at hj
        · cases e
          have hadd : ((⟨b, off, none⟩ : Addr).add j) = ⟨b, off + j, none⟩ := by unfold Addr.add; split <;> simp_all
          have hlt : j < zs.length := by have := (List.getElem?_eq_some_iff.1 hj).1; simpa using this
          rw [hadd, hI j hlt]
          simp [hlt] at hj ⊢
          exact hj)
      (fun u hu => by obtain ⟨z, _, rfl⟩ := List.mem_map.1 hu; rfl) (by unfold maxLen; omega) (by omega) hbase
    refine ⟨v', w', hr, ?_, h3⟩
    unfold OwnR
    rw [List.length_append, List.map_append, ← hl]
    exact h2
theorem wpList_append_runes {ops : Array Oper} {rest : List Oper} {o : Oper} {z : Act} {w : World} {Q : Exit → Act → World → Prop} (hgd : o.guard = none) (s x : Operand)
    (ho : o.op = .call { callee := .builtin .append, args := #[s, x], argTypes := #[55, 55] }) (hty : o.type = 55)
    (base : Nat) (v : Value) (xs : List Int) (a : Option Addr) (m c : Nat) (zs : List Int) (hs : z.eval s = v) (hxv : z.eval x = .slice a m c) (hown : OwnR base v xs w) (h : RunesIn a m zs w) (hnil : a = none → c = 0) (hx : (xs.length : Int) ≤ 1000000) (hz : (zs.length : Int) ≤ 1000000) (hbase : base ≤ w.heap.size)
    (hK : ∀ v' w', OwnR base v' (xs ++ zs) w' → w.grownBy w' v.ownBlock → wpList Tryd.prog ops Q rest (z.put o.dst v') w') : wpList Tryd.prog ops Q (o :: rest) z w :=
  wpList_plain hgd fun _ hK' => by
    obtain ⟨v', w', hr, h1, h2⟩ := append_runes_run base v xs a m c zs w hown h hnil hx hz hbase
    unfold Oper.wp execOp
    simp only [ho, hty, resolve, invoke, builtin, Sem.run_bind, Sem.run_pure, Result.andThen_ok, List.map_toArray, List.map_cons, List.map_nil, hs, hxv, hr]
    exact hK' _ _ (hK v' w' h1 h2)
theorem runes_one (w : World) (z : Int) (t : TypeId) : RunesIn (some ⟨w.heap.size, 0, none⟩) 1 [z] (w.alloc (.cells #[.int .i32 z] t)) :=
  ⟨rfl, .inr ⟨w.heap.size, 0, rfl, by simp, fun i hi => by
    obtain rfl : i = 0 := by simpa using hi
    rw [World.cell?_alloc_new]; rfl⟩⟩
theorem OwnR.ownBlock {base : Nat} {v : Value} {zs : List Int} {w : World} (h : OwnR base v zs w) : ∀ k, v.ownBlock = some k → base ≤ k := fun k hk => (World.ownsRow.lt h k hk).1
theorem OwnR.alloc {base : Nat} {v : Value} {zs : List Int} {w : World} (h : OwnR base v zs w) (o : Obj) : OwnR base v zs (w.alloc o) := World.ownsRow.alloc h o
end Go.Proofs.YtkdkhphpknnceaaDoor.W
