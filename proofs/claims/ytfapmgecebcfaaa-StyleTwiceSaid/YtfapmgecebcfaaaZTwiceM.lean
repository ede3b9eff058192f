/- What is set in two parts is what is set together, where none takes others with it; append that keeps what is a part of what comes out. -/
import Derived.Test.YtfapmgecebcfaaaZArg
import Derived.ArgAppend
import Derived.Test.YtfapmgecebcfaaaRel
namespace Go.Proofs.Ytfapmgecebcfaaa.Z
open Go.RowKit
open Go.Proofs.Ytfapmgecebcfaaa.W (OwnI IntsIn ArgI inV infoInt)

theorem refGo_app : ∀ (l m : List Int) (s : Sty), (∀ x ∈ l, ¬ taker x) → refGo s 0 (l ++ m) = refGo (refGo s 0 l) 0 m
  | [], m, s, _ => by rw [refGo_nil]; rfl
  | x :: t, m, s, h => by
    rw [List.cons_append, refGo, if_neg (h x (by simp)), refGo, if_neg (h x (by simp))]
    exact refGo_app t m _ fun y hy => h y (by simp [hy])
theorem set_twice (s : Sty) (l m : List Int) (h : ∀ x ∈ l, ¬ taker x) (hl : l ≠ []) (hm : m ≠ []) : setS (setS s l) m = setS s (l ++ m) := by
  rw [set_ref, set_ref, set_ref, if_neg hl, if_neg hm, if_neg (by simp [hl]), refGo_app l m s h]
/-- the numbers that take none with them -/
def calm (l : List Int) : List Int := l.filter fun z => decide (z ≠ 38 ∧ z ≠ 48)
theorem calm_snoc (l : List Int) (z : Int) : calm (l ++ [z]) = calm l ++ (if z ≠ 38 ∧ z ≠ 48 then [z] else []) := by
  unfold calm
  rw [List.filter_append]
  by_cases h : z ≠ 38 ∧ z ≠ 48
  · simp [h]
  · rw [if_neg h]
    simp only [List.filter_cons, List.filter_nil, decide_eq_true_eq, if_neg h]
theorem calm_len (l : List Int) : (calm l).length ≤ l.length := List.length_filter_le _ _
theorem calm_ok (l : List Int) : ∀ x ∈ (7 : Int) :: calm l, ¬ taker x := by
  intro x hx
  rcases List.mem_cons.1 hx with rfl | hx
  · decide
  · have := (List.mem_filter.1 hx).2
    simp only [decide_eq_true_eq] at this
    unfold taker; omega

theorem own_weaken {base base' : Nat} {v : Value} {zs : List Int} {w : World} (h : OwnI base v zs w) (hb : base' ≤ base) : OwnI base' v zs w := by
  refine ⟨h.1, h.2.imp id ?_⟩
  rintro ⟨g, cap, cur, h1, h2, h3⟩
  exact ⟨g, cap, cur, h1, Nat.le_trans hb h2, h3⟩
/-- what append leaves -/
structure Added (base : Nat) (v : Value) (out : List Int) (w : World) (v' : Value) (w' : World) : Prop where
  own : OwnI base v' out w'
  grown : w.grownBy w' v.ownBlock
  keeps : ∀ x ys, ys <+: out → OwnI base x ys w → OwnI base x ys w'
  block : ∀ k, v'.ownBlock = some k → v.ownBlock = some k ∨ w.heap.size ≤ k
theorem append_keeps (base : Nat) (v : Value) (xs : List Int) (a : Option Addr) (m c : Nat) (zs : List Int) (w : World) (hown : OwnI base v xs w) (h : IntsIn a m zs w) (hnil : a = none → c = 0) (hx : (xs.length : Int) ≤ 1000000) (hz : (zs.length : Int) ≤ 1000000) (hbase : base ≤ w.heap.size) :
    ∃ v' w', (Builtin.append_ #[24, 24] 24 #[v, .slice a m c]).run Try.prog w = .ok v' w' ∧ Added base v (xs ++ zs) w v' w' := by
  obtain ⟨i0, hi, hz0, hz1, hz2⟩ := info_parts infoInt
  obtain ⟨hl, hcase⟩ := h
  cases a with
  | none =>
    have hc := hnil rfl
    subst hc
    have h0 : zs = [] := by
      rcases hcase with h0 | ⟨b, off, e, _⟩
      · exact h0
      · cases e
    subst h0
    obtain rfl : m = 0 := hl
    exact ⟨v, w, run_append_owned_none w base _ _ _ i0 1 Try.underlying24 hi v _ _ hown, by rw [List.append_nil]; exact hown, ⟨rfl, rfl, rfl, Nat.le_refl _, fun _ _ _ => rfl⟩, fun _ _ _ h => h, fun k h => .inl h⟩
  | some ad =>
    have hnews : ∀ j u, (zs.map inV)[j]? = some u → w.cell? (ad.add j) = some u := fun j u hj => by
      rcases hcase with h0 | ⟨b, off, e, hb, hI⟩
      · rw [h0] at hj; simp at hj
      · cases e
        have hadd : ((⟨b, off, none⟩ : Addr).add j) = ⟨b, off + j, none⟩ := by unfold Addr.add; split <;> simp_all
        have hlt : j < zs.length := by have := (List.getElem?_eq_some_iff.1 hj).1; simpa using this
        rw [hadd, hI j hlt]
        simp [hlt] at hj ⊢
        exact hj
    have hone : ∀ u ∈ zs.map inV, u.oneCell' = true := fun u hu => by obtain ⟨z, _, rfl⟩ := List.mem_map.1 hu; rfl
    have fresh : ∀ v' w', w'.ownsRow w.heap.size 3 1 v' (xs.length + m) (xs.map inV ++ zs.map inV) → w.grownBy w' none → Added base v (xs ++ zs) w v' w' := fun v' w' h2 h3 => by
      have hO : OwnI w.heap.size v' (xs ++ zs) w' := by
        unfold OwnI
        rw [List.length_append, List.map_append, ← hl]
        exact h2
      have hb : Below w.heap.size w w' := ⟨h3.os, h3.tape, h3.output, h3.size, fun k hk => h3.block k hk (by simp)⟩
      exact ⟨own_weaken hO hbase, ⟨h3.os, h3.tape, h3.output, h3.size, fun k hk _ => h3.block k hk (by simp)⟩, fun x ys _ h => h.belowAll hb, fun k hk => .inr (hO.ownBlock k hk)⟩
    rcases hown.2 with ⟨rfl, h0⟩ | ⟨g, cap, cur, rfl, hbg, hg, hnc, hcm, hcs, htake⟩
    · obtain ⟨v', w', hr, h2, h3, _⟩ := run_append_own w w.heap.size 24 24 3 i0 (.int .i64 0) 1 8 Try.underlying24 hi hz0 hz1 hz2 rfl (by decide) (.slice none 0 0) xs.length (xs.map inV) ⟨hown.1, .inl ⟨rfl, h0⟩⟩ ad m c (zs.map inV) (by rw [List.length_map, hl]; omega) hnews hone (by unfold maxLen; omega) (by omega) (Nat.le_refl _)
      exact ⟨v', w', hr, fresh v' w' h2 h3⟩
    · by_cases hroom : xs.length + m ≤ cap
      · have hr := run_append_room (P := Try.prog) w 24 24 3 i0 Try.underlying24 hi g xs.length cap cur hg ad m c (zs.map inV) (by rw [List.length_map, hz1, hl]; omega) hnews hone hroom (by rw [hz1, List.length_map]; omega)
        rw [hz1, List.length_map, Nat.mul_one] at hr
        rw [Nat.mul_one] at htake hcs
        obtain ⟨C2, hC2⟩ : ∃ C2, (cur.toList.take xs.length ++ zs.map inV ++ cur.toList.drop (xs.length + zs.length)) = C2 := ⟨_, rfl⟩
        rw [hC2] at hr
        have hrow := setRow_heap w g cur C2.toArray 3 (0, 0) hg
        have hlen2 : C2.length = cur.size := by
          rw [← hC2, htake]
          simp only [List.length_append, List.length_map, List.length_drop, Array.length_toList]
          omega
        have hpre : C2.take (xs.length + zs.length) = (xs ++ zs).map inV := by
          rw [← hC2, htake, List.map_append]
          exact List.take_left' (by simp)
        refine ⟨_, _, hr, ⟨by simp, .inr ⟨g, cap, C2.toArray, by rw [List.length_append, ← hl], hbg, hrow, by rw [List.length_append, ← hl]; exact hroom, hcm, by simp [hlen2, hcs], ?_⟩⟩, ⟨rfl, rfl, rfl, by simp, fun k _ hk => setRow_other w g k _ (fun e => hk (by simp [Value.ownBlock, e]))⟩, fun x ys hp hx2 => ?_, fun k hk => .inl hk⟩
        · rw [List.length_append, Nat.mul_one]; exact hpre
        · rcases hx2.2 with ⟨rfl, h0⟩ | ⟨g2, cap2, cur2, rfl, hbg2, hg2, hnc2, hcm2, hcs2, htake2⟩
          · exact ⟨hx2.1, .inl ⟨rfl, h0⟩⟩
          · by_cases hgg : g2 = g
            · subst hgg
              rw [hg] at hg2
              obtain ⟨e1⟩ : cur = cur2 := by
                have := Option.some.inj hg2
                injection this
              refine ⟨hx2.1, .inr ⟨g2, cap2, C2.toArray, rfl, hbg2, hrow, hnc2, hcm2, by rw [← hcs2]; simp [hlen2], ?_⟩⟩
              obtain ⟨r, hr2⟩ := hp
              have hle : ys.length ≤ xs.length + zs.length := by have := congrArg List.length hr2; simp at this; omega
              have : C2.take ys.length = ((xs ++ zs).map inV).take ys.length := by rw [← hpre, List.take_take, Nat.min_eq_left hle]
              rw [Nat.mul_one, show C2.toArray.toList = C2 from rfl, this, ← hr2, List.map_append, List.take_left' (by simp)]
            · refine ⟨hx2.1, .inr ⟨g2, cap2, cur2, rfl, hbg2, (setRow_other w g g2 _ hgg).trans hg2, hnc2, hcm2, hcs2, htake2⟩⟩
      · obtain ⟨v', w', hr, h2, h3⟩ := run_append_arg_grows w 24 24 3 i0 (.int .i64 0) 1 8 Try.underlying24 hi hz0 hz1 hz2 rfl (by decide) ⟨g, 0, none⟩ xs.length cap (xs.map inV) hown.1 (hown.cells (g := g) rfl) ad m c (zs.map inV) (by rw [List.length_map, hl]; omega) hnews (by omega) (by unfold maxLen; omega) (by omega)
        exact ⟨v', w', hr, fresh v' w' h2 h3⟩
theorem wpList_append_keeps {ops : Array Oper} {rest : List Oper} {o : Oper} {z : Act} {w : World} {Q : Exit → Act → World → Prop} (hgd : o.guard = none) (s x : Operand)
    (ho : o.op = .call { callee := .builtin .append, args := #[s, x], argTypes := #[24, 24] }) (hty : o.type = 24)
    (base : Nat) (v : Value) (xs : List Int) (a : Option Addr) (m c : Nat) (zs : List Int) (hs : z.eval s = v) (hxv : z.eval x = .slice a m c) (hown : OwnI base v xs w) (h : IntsIn a m zs w) (hnil : a = none → c = 0) (hx : (xs.length : Int) ≤ 1000000) (hz : (zs.length : Int) ≤ 1000000) (hbase : base ≤ w.heap.size)
    (hK : ∀ v' w', Added base v (xs ++ zs) w v' w' → wpList Try.prog ops Q rest (z.put o.dst v') w') : wpList Try.prog ops Q (o :: rest) z w :=
  wpList_plain hgd fun _ hK' => by
    obtain ⟨v', w', hr, h1⟩ := append_keeps base v xs a m c zs w hown h hnil hx hz hbase
    unfold Oper.wp execOp
    simp only [ho, hty, resolve, invoke, builtin, Sem.run_bind, Sem.run_pure, Result.andThen_ok, List.map_toArray, List.map_cons, List.map_nil, hs, hxv, hr]
    exact hK' _ _ (hK v' w' h1)
end Go.Proofs.Ytfapmgecebcfaaa.Z
