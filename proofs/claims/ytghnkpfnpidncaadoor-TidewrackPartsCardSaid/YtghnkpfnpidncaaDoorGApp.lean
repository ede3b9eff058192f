/- A new slice of numbers: append upon none. -/
import Derived.Test.YtghnkpfnpidncaaDoorGSize
import Derived.Test.YtghnkpfnpidncaaDoorGOut
import Derived.ArgAppend
import Derived.Deep.AppendSrc
import Derived.Laws.OwnMore
namespace Go.Proofs.YtghnkpfnpidncaaDoor.G
open Go.RowKit Go.Proofs.YtghnkpfnpidncaaDoor.I

theorem infoInt : (Tryd.prog.info? 3).map (fun i => (i.zero, i.size, i.bytes)) = some (some (.int .i64 0), 1, 8) := by kernel_rfl
theorem NumsIn.at {b off len : Nat} {zs : List Int} {w : World} (h : len = zs.length) (hb : b < w.heap.size) (hI : Ints w b off zs) : NumsAt (some ⟨b, off, none⟩) len zs w := ⟨h, .inr ⟨b, off, rfl, hb, hI⟩⟩
theorem nums_own {w : World} {base n : Nat} {v : Value} {zs : List Int} (hn : n = zs.length) (h : w.ownsRow base 3 1 v n (zs.map fun z => Value.int .i64 z)) : ∃ a c, v = .slice a n c ∧ NumsAt a n zs w ∧ (∀ b off, a = some ⟨b, off, none⟩ → base ≤ b) := by
  rcases h.2 with ⟨rfl, h0⟩ | ⟨g, cap, cur, rfl, hbase, hg, hc, _, hs, ht⟩
  · subst h0
    exact ⟨none, 0, rfl, ⟨hn, .inl ⟨rfl, List.length_eq_zero_iff.1 hn.symm⟩⟩, fun _ _ e => by cases e⟩
  · refine ⟨some ⟨g, 0, none⟩, cap, rfl, ⟨hn, .inr ⟨g, 0, rfl, (Array.getElem?_eq_some_iff.1 hg).1, fun i hi => ?_⟩⟩, fun _ _ e => by cases e; exact hbase⟩
    have h1 : w.cell? ⟨g, 0 + i, none⟩ = cur[i]? := by rw [Nat.zero_add]; simp [World.cell?, hg]
    rw [h1]
    have h2 : (cur.toList.take (n * 1))[i]? = some (Value.int .i64 (zs.getD i 0)) := by rw [ht]; simp [hi]
    rw [List.getElem?_take] at h2
    split at h2
    · simpa using h2
    · cases h2
theorem append_run (g : Nat) (a : Option Addr) (m c : Nat) (zs : List Int) (v : World) (h : NumsIn a m zs v) (hg : g < v.heap.size) (hm : (m : Int) ≤ 1000000) :
    ∃ a' c' v', (Builtin.append_ #[22, 22] 22 #[.slice (some ⟨g, 0, none⟩) 0 0, .slice a m c]).run Tryd.prog v = .ok (.slice a' m c') v' ∧ NumsAt a' m zs v' ∧ (∀ b off, a' = some ⟨b, off, none⟩ → b = g ∨ v.heap.size ≤ b) ∧ Below v.heap.size v v' := by
  obtain ⟨i0, hi, hz0, hz1, hz2⟩ := info_parts infoInt
  obtain ⟨hl, hz⟩ := h
  by_cases h0 : zs = []
  · subst h0
    obtain rfl : m = 0 := hl
    refine ⟨some ⟨g, 0, none⟩, 0, v, ?_, ⟨rfl, .inr ⟨g, 0, rfl, hg, fun i hi => by simp at hi⟩⟩, fun _ _ e => by cases e; exact .inl rfl, Below.refl _ _⟩
    cases a with
    | none =>
      have hs := Src.ofNil (P := Tryd.prog) v (size := i0.size) (tx := 22) (e' := 3) Tryd.underlying22 c
      rw [run_append_room_src v 22 22 22 3 i0 Tryd.underlying22 hi g 0 0 0 (.slice none 0 c) 0 [] hs (by omega) (fun j hj => by simp at hj) (fun j hj => by simp at hj)]
      rfl
    | some ad =>
      rw [run_append_room_cells v 22 22 3 i0 Tryd.underlying22 hi g 0 0 0 ad 0 c [] (by simp) (fun j u hj => by simp at hj) (fun u hu => by cases hu) (by omega) (fun j hj => by simp at hj) (fun j hj => by simp at hj)]
      rfl
  · obtain ⟨b, off, rfl, hb, hI⟩ := hz.resolve_left h0
    have hpos : 0 < m := by rw [hl]; exact List.length_pos_iff.2 h0
    obtain ⟨v', w', hr, hown, hgr⟩ := run_append_arg_grows v 22 22 3 i0 (.int .i64 0) 1 8 Tryd.underlying22 hi hz0 hz1 hz2 rfl (by decide) ⟨g, 0, none⟩ 0 0 [] rfl (fun j u hj => by simp at hj) ⟨b, off, none⟩ m c (zs.map fun z => Value.int .i64 z) (by simp [hl])
      (fun j u hj => by
        have hadd : ((⟨b, off, none⟩ : Addr).add j) = ⟨b, off + j, none⟩ := by unfold Addr.add; split <;> simp_all
        rw [hadd]
        have hlt : j < zs.length := by have := (List.getElem?_eq_some_iff.1 hj).1; simpa using this
        rw [hI j hlt]
        simp [hlt] at hj ⊢
        exact hj) (by omega) (by unfold maxLen; omega) (by omega)
    rw [Nat.zero_add, List.nil_append] at hown
    obtain ⟨a', c', rfl, hN, hge⟩ := nums_own hl hown
    exact ⟨a', c', w', hr, hN, fun b off e => .inr (hge b off e), ⟨hgr.os, hgr.tape, hgr.output, hgr.size, fun k hk => hgr.block k hk (by simp)⟩⟩
/-- At the operation. -/
theorem wp_append {o : Oper} {z : Act} {K : Act → World → Prop} {Q : Exit → Act → World → Prop} (s x : Operand) (ho : o.op = .call { callee := .builtin .append, args := #[s, x], argTypes := #[22, 22] }) (hty : o.type = 22)
    (g : Nat) (a : Option Addr) (m c : Nat) (zs : List Int) (v : World) (hs : z.eval s = .slice (some ⟨g, 0, none⟩) 0 0) (hx : z.eval x = .slice a m c) (h : NumsIn a m zs v) (hg : g < v.heap.size) (hm : (m : Int) ≤ 1000000)
    (hK : ∀ a' c' v', NumsAt a' m zs v' → (∀ b off, a' = some ⟨b, off, none⟩ → b = g ∨ v.heap.size ≤ b) → Below v.heap.size v v' → K (z.put o.dst (.slice a' m c')) v') : o.wp Tryd.prog z v K Q := by
  obtain ⟨a', c', v', hr, h1, h3, h2⟩ := append_run g a m c zs v h hg hm
  unfold Oper.wp execOp
  simp only [ho, hty, resolve, invoke, builtin, Sem.run_bind, Sem.run_pure, Result.andThen_ok, List.map_toArray, List.map_cons, List.map_nil, hs, hx, hr]
  exact hK a' c' v' h1 h3 h2
end Go.Proofs.YtghnkpfnpidncaaDoor.G
