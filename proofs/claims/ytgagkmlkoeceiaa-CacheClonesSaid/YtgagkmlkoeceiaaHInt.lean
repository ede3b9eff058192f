/- Slices of numbers of our own that grow in place: what changes, and what does not. -/
import Derived.Test.YtgagkmlkoeceiaaHBld
import Derived.Test.YtgagkmlkoeceiaaMerged3
namespace Go.Proofs.Ytgagkmlkoeceiaa.H
open Go.RowKit
open Go.Proofs.Ytgagkmlkoeceiaa.W (OwnI IntsIn inV infoInt)

theorem ints_one (l : List Int) : ∀ u ∈ l.map inV, u.oneCell' = true := fun u hu => by obtain ⟨z, _, rfl⟩ := List.mem_map.1 hu; rfl
theorem run_append_i (base : Nat) (v : Value) (xs : List Int) (a : Option Addr) (m c : Nat) (zs : List Int) (w : World) (hown : OwnI base v xs w) (h : IntsIn a m zs w) (hnil : a = none → c = 0) (hx : xs.length ≤ 1000000) (hz : zs.length ≤ 1000000) (hbase : base ≤ w.heap.size) :
    ∃ v' w', (Builtin.append_ #[61, 61] 61 #[v, .slice a m c]).run Try.prog w = .ok v' w' ∧ OwnI base v' (xs ++ zs) w' ∧ w.grownBy w' v.ownBlock ∧ ∀ q, v'.ownBlock = some q → v.ownBlock = some q ∨ w.heap.size ≤ q := by
  obtain ⟨i0, hi, hz0, hz1, hz2⟩ := info_parts infoInt
  obtain ⟨hl, hcase⟩ := h
  cases a with
  | none =>
    have hc := hnil rfl
    subst hc
    have h0 : zs = [] := by
      rcases hcase with h0 | ⟨b, off, e, _⟩
      · exact h0
      · cases e
    subst h0
    obtain rfl : m = 0 := hl
    obtain ⟨hr, g⟩ := U.append_none (P := Try.prog) w 61 61 3 i0 1 0 Try.underlying61 hi base v xs.length (xs.map inV) hown rfl
    exact ⟨v, w, hr, by rw [List.append_nil]; exact hown, g.grown, g.block⟩
  | some ad =>
    obtain ⟨v', w', hr, g⟩ := U.append_grew (P := Try.prog) w 61 61 3 i0 (.int .i64 0) 1 8 Try.underlying61 hi hz0 hz1 hz2 rfl (by decide) base v xs.length (xs.map inV) hown ad m c (zs.map inV) (by rw [List.length_map, hl]; omega)
      (fun j u hj => by
        rcases hcase with h0 | ⟨b, off, e, hb, hI⟩
        · rw [h0] at hj; simp at hj
        · cases e
          have hadd : ((⟨b, off, none⟩ : Addr).add j) = ⟨b, off + j, none⟩ := by unfold Addr.add; split <;> simp_all
          have hlt : j < zs.length := by have := (List.getElem?_eq_some_iff.1 hj).1; simpa using this
          rw [hadd, hI j hlt]
          simp [hlt] at hj ⊢
          exact hj)
      (ints_one zs) (by unfold maxLen; omega) (by omega) hbase
    refine ⟨v', w', hr, ?_, g.grown, g.block⟩
    have := g.own
    unfold OwnI
    rw [List.length_append, List.map_append, ← hl]
    exact this
theorem wp_append_i {o : Oper} {z : Act} {w : World} {K : Act → World → Prop} {Q : Exit → Act → World → Prop} (s x : Operand)
    (ho : o.op = .call { callee := .builtin .append, args := #[s, x], argTypes := #[61, 61] }) (hty : o.type = 61)
    (base : Nat) (v : Value) (xs : List Int) (a : Option Addr) (m c : Nat) (zs : List Int) (hs : z.eval s = v) (hxv : z.eval x = .slice a m c) (hown : OwnI base v xs w) (h : IntsIn a m zs w) (hnil : a = none → c = 0) (hx : xs.length ≤ 1000000) (hz : zs.length ≤ 1000000) (hbase : base ≤ w.heap.size)
    (hK : ∀ v' w', OwnI base v' (xs ++ zs) w' → w.grownBy w' v.ownBlock → (∀ q, v'.ownBlock = some q → v.ownBlock = some q ∨ w.heap.size ≤ q) → K (z.put o.dst v') w') : o.wp Try.prog z w K Q := by
  obtain ⟨v', w', hr, h1, h2, h3⟩ := run_append_i base v xs a m c zs w hown h hnil hx hz hbase
  unfold Oper.wp execOp
  simp only [ho, hty, resolve, invoke, builtin, Sem.run_bind, Sem.run_pure, Result.andThen_ok, List.map_toArray, List.map_cons, List.map_nil, hs, hxv, hr]
  exact hK v' w' h1 h2 h3
/-- such a slice at its block -/
theorem OwnI.atSome {base : Nat} {v : Value} {E : List Int} {w : World} (h : OwnI base v E w) (hne : E ≠ []) : ∃ q cap, v = .slice (some ⟨q, 0, none⟩) E.length cap := by
  rcases h.2 with ⟨-, h0⟩ | ⟨g, cap, cur, e, -⟩
  · exact absurd (List.length_eq_zero_iff.1 h0) hne
  · exact ⟨g, cap, e⟩
theorem OwnI.at0 {base q n c : Nat} {E : List Int} {w : World} (h : OwnI base (.slice (some ⟨q, 0, none⟩) n c) E w) : n = E.length ∧ n ≤ c ∧ (c : Int) ≤ 9223372036854775807 ∧ base ≤ q ∧ q < w.heap.size ∧ ∀ (i : Nat) (e : Int), E[i]? = some e → w.cell? ⟨q, i, none⟩ = some (.int .i64 e) := by
  rcases h.2 with ⟨e, -⟩ | ⟨g, cap, cur, e, hbase, hg, hc, hm, hs, ht⟩
  · cases e
  · injection e with e1 e2 e3
    injection e1 with e1
    injection e1 with e1 _ _
    subst e1 e2 e3
    have hlt := (Array.getElem?_eq_some_iff.1 hg).1
    refine ⟨rfl, hc, by unfold maxLen at hm; omega, hbase, hlt, fun i e hi => ?_⟩
    have h1 : w.cell? ⟨q, i, none⟩ = cur[i]? := by simp [World.cell?, hg]
    rw [h1]
    have hil := (List.getElem?_eq_some_iff.1 hi).1
    have h2 : (cur.toList.take (E.length * 1))[i]? = some (inV e) := by rw [ht]; simp [hi]
    rw [List.getElem?_take] at h2
    split at h2
    · simpa using h2
    · cases h2
theorem OwnI.front {base q n c k : Nat} {E : List Int} {w : World} (h : OwnI base (.slice (some ⟨q, 0, none⟩) n c) E w) (hk : k ≤ n) : OwnI base (.slice (some ⟨q, 0, none⟩) k c) (E.take k) w := by
  have hn := (OwnI.at0 h).1
  refine ⟨by simp, ?_⟩
  rcases h.2 with ⟨e, -⟩ | ⟨g, cap, cur, e, hbase, hg, hc, hm, hs, ht⟩
  · cases e
  · injection e with e1 e2 e3
    injection e1 with e1
    injection e1 with e1 _ _
    subst e1 e2 e3
    refine .inr ⟨q, c, cur, by rw [List.length_take, Nat.min_eq_left (by omega)], hbase, hg, by rw [List.length_take]; omega, hm, hs, ?_⟩
    rw [List.length_take, Nat.min_eq_left (by omega), Nat.mul_one, List.map_take]
    rw [Nat.mul_one] at ht
    rw [← ht, List.take_take, Nat.min_eq_left (by omega)]
/-- the edges: what grows, and what is kept -/
def EdI (v0 : Value) (w0 : World) (E : List Int) (v : Value) (w : World) : Prop := (∃ q cap, v = .slice (some ⟨q, 0, none⟩) E.length cap) ∧ OwnI 0 v E w ∧ KeepB v0.ownBlock.toList w0 w ∧ ∀ q, v.ownBlock = some q → v0.ownBlock = some q ∨ w0.heap.size ≤ q
theorem EdI.trans {v0 v v' : Value} {w0 w w' : World} {E E' : List Int} (h : EdI v0 w0 E v w) (k : EdI v w E' v' w') : EdI v0 w0 E' v' w' := by
  obtain ⟨h1, h2, h3, h4⟩ := h
  obtain ⟨k1, k2, k3, k4⟩ := k
  refine ⟨k1, k2, h3.two k3 (fun p hp => ?_), fun q hq => ?_⟩
  · rcases h4 p (by simpa using hp) with h | h
    · exact .inl (by simpa using h)
    · exact .inr h
  · rcases k4 q hq with h | h
    · exact h4 q h
    · exact .inr (Nat.le_trans h3.size h)
theorem EdI.refl {v : Value} {w : World} {E : List Int} (h1 : ∃ q cap, v = .slice (some ⟨q, 0, none⟩) E.length cap) (h2 : OwnI 0 v E w) : EdI v w E v w := ⟨h1, h2, KeepB.refl _ _, fun _ hq => .inl hq⟩
theorem EdI.below {v0 v : Value} {w0 w w' : World} {E : List Int} (h : EdI v0 w0 E v w) (hb : Below w.heap.size w w') : EdI v0 w0 E v w' :=
  ⟨h.1, W.OwnI.belowAll h.2.1 hb, h.2.2.1.trans (KeepB.of_below hb), h.2.2.2⟩
def QuaS (C0 : World → Prop) (C1 C2 C3 C4 : Value → World → Prop) (s1 s2 s3 s4 : Nat) : Nat → (Nat → Value) → World → Prop
  | 0, _, u => C0 u
  | 1, f, u => C1 (f s1) u
  | 2, f, u => C2 (f s2) u
  | 3, f, u => C3 (f s3) u
  | 4, f, u => C4 (f s4) u
  | _ + 5, _, _ => True
theorem QuaS.cong {C0 : World → Prop} {C1 C2 C3 C4 : Value → World → Prop} {s1 s2 s3 s4 k : Nat} {f f2 : Nat → Value} {u : World} (e1 : k = 1 → f s1 = f2 s1) (e2 : k = 2 → f s2 = f2 s2) (e3 : k = 3 → f s3 = f2 s3) (e4 : k = 4 → f s4 = f2 s4) (h : QuaS C0 C1 C2 C3 C4 s1 s2 s3 s4 k f u) : QuaS C0 C1 C2 C3 C4 s1 s2 s3 s4 k f2 u := by
  match k, h, e1, e2, e3, e4 with
  | 0, h, _, _, _, _ => exact h
  | 1, h, e1, _, _, _ => show C1 (f2 s1) u; rw [← e1 rfl]; exact h
  | 2, h, _, e2, _, _ => show C2 (f2 s2) u; rw [← e2 rfl]; exact h
  | 3, h, _, _, e3, _ => show C3 (f2 s3) u; rw [← e3 rfl]; exact h
  | 4, h, _, _, _, e4 => show C4 (f2 s4) u; rw [← e4 rfl]; exact h
  | _ + 5, _, _, _, _, _ => exact True.intro
theorem spanTR : PairT .i64 69 80 16 := ⟨Try.underlying69, by kernel_rfl, by decide⟩
def insL (E : List Int) (es : List Int) : List Int := es.foldl (fun E e => insE e E) E
theorem insL_take (E es : List Int) (i : Nat) (e : Int) (h : es[i]? = some e) : insL E (es.take (i + 1)) = insE e (insL E (es.take i)) := by
  have hk := List.getElem?_eq_some_iff.1 h
  rw [List.take_succ_eq_append_getElem hk.1, hk.2]
  simp [insL, List.foldl_append]
theorem insE_ne (e : Int) (l : List Int) : insE e l ≠ [] := fun h => by
  have := (insE_mem e e l).2 (.inl rfl)
  rw [h] at this
  cases this
end Go.Proofs.Ytgagkmlkoeceiaa.H
