/- What is left of some spans without others, gathered: left, AppendSeq, Collect. -/
import Derived.Test.YtkdkhphpknnceaaDoorHIter
namespace Go.Proofs.YtkdkhphpknnceaaDoor.H
open Go.RowKit Go.Shelf

attribute [local go_sem] Oper.semAt_some

structure AddSp (base : Nat) (v : Value) (pre : List Sp) (x : Sp) (W : World) (v' : Value) (W' : World) : Prop where
  own : OwnP .i64 38 base v' (pre ++ [x]) W'
  grown : W.grownBy W' v.ownBlock
  small : Small W W'
  block : ∀ q, v'.ownBlock = some q → v.ownBlock = some q ∨ W.heap.size ≤ q
  some_ : ∃ g c, v' = .slice (some ⟨g, 0, none⟩) (pre.length + 1) c
theorem run_add_span (base : Nat) (v : Value) (pre : List Sp) (x : Sp) (g : Nat) (W : World) (hown : OwnP .i64 38 base v pre W) (hnn : v = .slice none 0 0 ∨ pre ≠ [])
    (h0 : W.cell? ⟨g, 0, none⟩ = some (.int .i64 x.1)) (h1 : W.cell? ⟨g, 1, none⟩ = some (.int .i64 x.2)) (hl : (pre.length : Int) ≤ 1000000) (hbase : base ≤ W.heap.size) :
    ∃ v' W', (Builtin.append_ #[32, 32] 32 #[v, .slice (some ⟨g, 0, none⟩) 1 1]).run Tryd.prog W = .ok v' W' ∧ AddSp base v pre x W v' W' := by
  obtain ⟨i0, hi, hz0, hz1, hz2⟩ := info_parts spanT.info
  have hmul : (pre.length + 1) * 16 ≤ 140737488355328 := by omega
  have hnews : ∀ j u, (pCells .i64 x)[j]? = some u → W.cell? ((⟨g, 0, none⟩ : Addr).add j) = some u := fun j u hj => by
    have hadd : ((⟨g, 0, none⟩ : Addr).add j) = ⟨g, 0 + j, none⟩ := by unfold Addr.add; split <;> simp_all
    rw [hadd, Nat.zero_add]
    match j, hj with
    | 0, hj => rw [show u = .int .i64 x.1 by simpa [pCells] using hj.symm]; exact h0
    | 1, hj => rw [show u = .int .i64 x.2 by simpa [pCells] using hj.symm]; exact h1
    | n + 2, hj => simp [pCells] at hj
  obtain ⟨v', W', hr, G⟩ := U.append_grew (P := Tryd.prog) W 32 32 38 i0 _ 2 16 spanT.slice hi hz0 hz1 hz2 rfl (by decide) base v pre.length (flatP .i64 pre) hown ⟨g, 0, none⟩ 1 1 (pCells .i64 x) rfl hnews (fun u hu => flatP_one .i64 [x] u (by simpa [flatP] using hu)) (by unfold maxLen; omega) hmul hbase
  have hown' : OwnP .i64 38 base v' (pre ++ [x]) W' := by
    have e : flatP .i64 (pre ++ [x]) = flatP .i64 pre ++ pCells .i64 x := by rw [flatP_append]; simp [flatP]
    unfold OwnP
    rw [e, List.length_append]
    exact G.own
  refine ⟨v', W', hr, hown', G.grown, ?_, G.block, ?_⟩
  · intro k u w hk
    have hkl := (Array.getElem?_eq_some_iff.1 hk).1
    by_cases hkv : some k = v.ownBlock
    · -- the row itself: of one span, it is full, and goes elsewhere
      have hkeep := G.keeps v pre.length (flatP .i64 pre) (List.prefix_append _ _) hown
      rcases hown.2 with ⟨rfl, h0⟩ | ⟨q, cap, cur, rfl, hb, hq, hc, hm, hs, ht⟩
      · cases hkv
      · obtain rfl : k = q := by simpa [Value.ownBlock] using hkv
        rw [hq] at hk
        clear hmul
        have hk' : cur = #[u, w] := (Obj.cells.inj (Option.some.inj hk)).1
        subst hk'
        have hp : pre ≠ [] := hnn.resolve_left (by intro e; cases e)
        have hpl : 0 < pre.length := List.length_pos_iff.2 hp
        have hcap : cap = 1 := by simp at hs; omega
        subst hcap
        have hpl1 : pre.length = 1 := by omega
        rcases hkeep.2 with ⟨e, h0⟩ | ⟨q', cap', cur', e, hb', hq', hc', hm', hs', ht'⟩
        · cases e
        · obtain ⟨rfl, rfl⟩ : k = q' ∧ 1 = cap' := by injection e with h1 h2 h3; injection h1 with h1; injection h1 with h1; exact ⟨h1, h3⟩
          rw [hq']
          have e2 : cur' = #[u, w] := by
            rw [hpl1] at ht ht'
            apply Array.toList_inj.1
            rw [← List.take_length (l := cur'.toList), ← List.take_length (l := (#[u, w] : Array Value).toList)]
            rw [show cur'.toList.length = 1 * 2 by simpa using hs', show (#[u, w] : Array Value).toList.length = 1 * 2 from rfl, ht', ht]
          rw [e2]
    · rw [G.grown.block k hkl hkv]; exact hk
  · obtain ⟨gg, cc, h⟩ := ownsRow_succ (k := pre.length) (by have := hown'; unfold OwnP at this; rw [List.length_append] at this; exact this)
    exact ⟨gg, cc, h⟩
theorem wpListIn_add_span {F : Fence} {n : Nat} {ops : Array Oper} {rest : List Oper} {o : Oper} {z : Act} {W : World} {Q : Exit → Act → World → Prop} (hgd : o.guard = none) (s y : Operand)
    (ho : o.op = .call { callee := .builtin .append, args := #[s, y], argTypes := #[32, 32] }) (hty : o.type = 32)
    (base : Nat) (v : Value) (pre : List Sp) (x : Sp) (g : Nat) (hs : z.eval s = v) (hy : z.eval y = .slice (some ⟨g, 0, none⟩) 1 1) (hown : OwnP .i64 38 base v pre W) (hnn : v = .slice none 0 0 ∨ pre ≠ [])
    (h0 : W.cell? ⟨g, 0, none⟩ = some (.int .i64 x.1)) (h1 : W.cell? ⟨g, 1, none⟩ = some (.int .i64 x.2)) (hl : (pre.length : Int) ≤ 1000000) (hbase : base ≤ W.heap.size)
    (hK : ∀ v' W', AddSp base v pre x W v' W' → wpListIn F n Tryd.prog ops Q rest (z.put o.dst v') W') : wpListIn F n Tryd.prog ops Q (o :: rest) z W := by
  refine wpListIn_plain hgd fun K hK' => ?_
  obtain ⟨v', W', hr, k⟩ := run_add_span base v pre x g W hown hnn h0 h1 hl hbase
  unfold Oper.wpIn
  refine ⟨?_, ?_⟩
  · simp [Oper.about, ho, resolve, Target.leads, Sem.run_pure]
  · rw [Oper.semAt_plain F _ _ (by rw [ho]; intro c hc'; cases hc')]
    simp [execOp, ho, hty, resolve, invoke, builtin, hs, hy, hr, Result.andThen]
    exact hK' _ _ (hK v' W' k)
/-- what stands between two rounds of a loop that gathers: in box b0, rows from base on -/
def Gath (w0 : World) (b0 base : Nat) (pre : List Sp) (W : World) : Prop :=
  ∃ v, Boxed W b0 32 v ∧ OwnP .i64 38 base v pre W ∧ (v = .slice none 0 0 ∨ pre ≠ []) ∧ Below w0.heap.size w0 W ∧ base ≤ W.heap.size
theorem Gath.row {w0 : World} {b0 base : Nat} {pre : List Sp} {W : World} (h : Gath w0 b0 base pre W) : ∃ v, Boxed W b0 32 v ∧ OwnP .i64 38 base v pre W ∧ rowOf b0 W = v.ownBlock := by
  obtain ⟨v, h1, h2, -⟩ := h
  exact ⟨v, h1, h2, by unfold rowOf; rw [h1.cell]; rfl⟩
theorem Gath.rowV {w0 : World} {b0 base : Nat} {pre : List Sp} {W : World} (h : Gath w0 b0 base pre W) : RowV b0 W := fun k hk => by
  obtain ⟨v, -, h2, h3⟩ := h.row
  exact (h2.ownBlock k (by rw [← h3]; exact hk)).2
theorem gath_abid {w0 : World} {b0 base : Nat} (hb : b0 < base) (hw : w0.heap.size ≤ base) : Abid base b0 (Gath w0 b0 base) where
  below := fun pre W W' h hb' => by
    obtain ⟨v, h1, h2, h3, h4, h5⟩ := h
    exact ⟨v, (hb'.block b0 h1.lt).trans h1, h2.belowAll hb', h3, h4.trans (hb'.mono h4.size), Nat.le_trans h5 hb'.size⟩
  write := fun pre W r x1 x2 v' h hr hx hn => by
    obtain ⟨v, h1, h2, h3, h4, h5⟩ := h
    have hkb : KeepB [r] W (W.setCell ⟨r, 0, none⟩ v') := KeepB.setCell _
    have hrow' : rowOf b0 W = v.ownBlock := by unfold rowOf; rw [h1.cell]; rfl
    refine ⟨v, (hkb.block b0 h1.lt (by simp; omega)).trans h1, h2.moved (fun q hq => hkb.block q (h2.ownBlock q hq).2 ?_), h3, h4.setCell (p := ⟨r, 0, none⟩) (Nat.le_trans hw hr) _, Nat.le_trans h5 hkb.size⟩
    intro e
    rw [List.mem_singleton.1 e] at hq
    exact hn (hrow'.trans hq)
theorem gath_put {w0 : World} {b0 : Nat} {base : Nat} (hw : w0.heap.size ≤ base) : ∀ pre W l o o', Gath w0 b0 base pre W → base ≤ l → W.heap[l]? = some o → o.isCells = false → Gath w0 b0 base pre (W.putObj l o') := by
  rintro pre W l o o' ⟨v, h1, h2, h3, h4, h5⟩ hl ho hc
  have hlb : b0 ≠ l := by rintro rfl; rw [show W.heap[b0]? = _ from h1] at ho; cases ho; cases hc
  exact ⟨v, (World.putObj_heap_other hlb).trans h1, ownsRow_putObj h2 o' ho hc, h3, Below.putObj' h4 o' (Nat.le_trans hw hl) h4.size, by simpa using h5⟩
set_option maxRecDepth 100000 in
theorem left_any (a1 : Option Addr) (n1 c1 : Nat) (a2 : Option Addr) (n2 c2 : Nat) (w : World) :
    Calls Tryd.prog 26 #[.slice a1 n1 c1, .slice a2 n2 c2] w fun e w' => e = .returned (.func (.func 42) #[] #[.pointer (some ⟨w.heap.size, 0, none⟩), .pointer (some ⟨w.heap.size + 1, 0, none⟩)]) ∧ w' = (w.alloc (.cells #[.slice a1 n1 c1] 32)).alloc (.cells #[.slice a2 n2 c2] 32) := by
  go_enter Tryd.func26, Tryd.ntmps26
  go_wp2
  go_ret
  exact ⟨rfl, rfl⟩
theorem left_look {a1 : Option Addr} {n1 c1 : Nat} {xs : List Sp} {a2 : Option Addr} {n2 c2 : Nat} {ys : List Sp} {w : World} (h1 : PairsIn .i64 a1 n1 c1 xs w) (h2 : PairsIn .i64 a2 n2 c2 ys w) (hl1 : ∀ b ∈ blkA a1, b < w.heap.size) (hl2 : ∀ b ∈ blkA a2, b < w.heap.size) :
    LLook w.heap.size (w.heap.size + 1) a1 n1 c1 xs a2 n2 c2 ys ((w.alloc (.cells #[.slice a1 n1 c1] 32)).alloc (.cells #[.slice a2 n2 c2] 32)) := by
  have hb : Below w.heap.size w ((w.alloc (.cells #[.slice a1 n1 c1] 32)).alloc (.cells #[.slice a2 n2 c2] 32)) := ((Below.refl _ _).alloc (Nat.le_refl _) _).alloc (by simp) _
  refine ⟨(Boxed.new w 32 _).alloc _, ?_, h1.belowAll hb, h2.belowAll hb, ?_⟩
  · have := Boxed.new (w.alloc (.cells #[.slice a1 n1 c1] 32)) 32 (.slice a2 n2 c2)
    simpa using this
  · intro b hb
    unfold lookL at hb
    simp only [List.mem_cons, List.mem_append] at hb
    rcases hb with rfl | rfl | hb | hb
    · simp; omega
    · simp
    · have := hl1 b hb; simp; omega
    · have := hl2 b hb; simp; omega
theorem left_hands {B1 B2 b0 base : Nat} {a1 : Option Addr} {n1 c1 : Nat} {xs : List Sp} {a2 : Option Addr} {n2 c2 : Nat} {ys : List Sp} {w : World} (n : Nat) (hn : 2 ≤ n) (hl1 : (xs.length : Int) ≤ 1000000) (hl2 : (ys.length : Int) ≤ 1000000) (hL : LLook B1 B2 a1 n1 c1 xs a2 n2 c2 ys w)
    (hbs : base = w.heap.size) (hb0 : b0 < base) (hrv : RowV b0 w) :
    Hands Fence.wide n Tryd.prog 42 #[.pointer (some ⟨B1, 0, none⟩), .pointer (some ⟨B2, 0, none⟩)] (KpL b0 (lookL B1 B2 a1 a2)) (leftL xs ys) base b0 w := fun l J W hW hJ hY h0 => by
  subst hbs
  exact left1_in n hn l B1 B2 b0 _ a1 n1 c1 xs a2 n2 c2 ys hl1 hl2 J W hW.size hJ hY (hL.below hW) hL.lt hb0 (hrv.below hb0 hW) h0
end Go.Proofs.YtkdkhphpknnceaaDoor.H
