/- The contract of cache.Get. -/
import Derived.Test.YtgagkmlkoeceiaaCPut
import Derived.Test.YtgagkmlkoeceiaaRows
import Derived.WalkKit
import Derived.WalkLawsBesides
import Derived.WalkSpells
import Derived.Outline
import Derived.Lib.Hide
import Derived.Below
import Derived.IntWalk
import Derived.OwnWalk
import Derived.RangeFuncBox
import Derived.Laws.OwnMore
namespace Go.Proofs.Ytgagkmlkoeceiaa.C
open Go.RowKit Go.Maps Go.Proofs.Ytgagkmlkoeceiaa.H

def GetPost (c : Nat) (M G : List Nat) (x : Ca) (i : Int) (w : World) (r : Ending) (w' : World) : Prop := ∃ v, r = .returned (.tuple #[v, .bool (findC x.L i).isSome]) ∧ OwnQ .i32 43 w.heap.size v ((findC x.L i).getD []) w' ∧ Ch c M G (getC x i) w' ∧ KeepB M w w'
set_option maxRecDepth 100000 in
set_option maxHeartbeats 16000000 in
theorem get_any {c : Nat} {M G : List Nat} {x : Ca} (i : Int) (hi : -9223372036854775808 ≤ i ∧ i ≤ 9223372036854775807) (w : World) (h : Ch c M G x w) :
    Calls Try.prog 13 #[.pointer (some ⟨c, 0, none⟩), .int .i64 i] w (GetPost c M G x i w) := by
  obtain ⟨P, hP⟩ : ∃ P, GetPost c M G x i w = P := ⟨_, rfl⟩
  rw [hP]
  have HP := Lib.hid hP
  have hx := h
  obtain ⟨m, e, ns, h, h2, hfit⟩ := h
  have hc1 := h.c1
  obtain ⟨v, ok, hrun, hf⟩ := h.mp.look hi
  rcases hf with ⟨rfl, hno⟩ | ⟨b, rfl, rfl, hm⟩
  · have hn : findC x.L i = none := find_none _ _ (fun z hz => by
      rw [← h2] at hz
      obtain ⟨y, hy, rfl⟩ := List.mem_map.1 hz
      exact hno (y.i, y.b) (List.mem_map.2 ⟨y, hy, rfl⟩))
    have HPk := Lib.hid (peek_any i hi w hx)
    have HN := Lib.hid hn
    have HX := Lib.hid hx
    clear h h2 hno hP hi hn hfit hx
    go_enter Try.func13, Try.ntmps13
    go_wp2_with fail
    refine HPk.out.mono ?_
    rintro r w2 ⟨u, rfl, h5, h6⟩
    have HEnd : Hid (P (.returned (.tuple #[u, .bool (findC x.L i).isSome])) w2) := Lib.hid (by
      rw [← HP.out]
      refine ⟨u, rfl, h5, ?_, KeepB.of_below h6⟩
      have e9 : getC x i = x := by unfold getC; rw [HN.out]
      rw [e9]
      exact HX.out.below h6)
    clear h5 h6
    try dsimp only
    rename_i K hK
    refine hK _ _ ?_
    go_wp2
    exact HEnd.out
  · obtain ⟨y, hy, he⟩ := List.mem_map.1 hm
    injection he with he1 he2
    subst he1 he2
    have hfd := find_nodup ns y h.num hy
    rw [h2] at hfd
    obtain ⟨ls, cs, rfl⟩ := List.append_of_mem hy
    have HLv := Lib.hid (leave_any y w h)
    have hdf := drop_found h.num
    have hnd := h.nd
    have HLa : Hid ((ls ++ cs).map toE = dropC x.L y.i) := Lib.hid (by rw [← hdf.1, ← h2])
    have HNo : Hid (∀ z ∈ ls ++ cs, z.i ≠ y.i) := Lib.hid hdf.2
    have HNb : Hid (y.b ∉ e :: blkN (ls ++ cs)) := Lib.hid (fun hm9 => by
      have e1 : blkN (ls ++ y :: cs) = blkN ls ++ y.b :: blkN cs := by rw [blkN_append]; rfl
      rw [e1] at hnd
      rw [blkN_append] at hm9
      have h9 := (List.nodup_cons.1 hnd)
      have h10 := List.nodup_append.1 h9.2
      rcases List.mem_cons.1 hm9 with h11 | h11
      · exact h9.1 (by rw [← h11]; simp)
      · rcases List.mem_append.1 h11 with h11 | h11
        · exact h10.2.2 y.b h11 y.b (by simp) rfl
        · exact (List.nodup_cons.1 h10.2.1).1 h11)
    have HFi : Hid ((ls ++ cs).length + 1 = x.L.length) := Lib.hid (by rw [← h2]; simp; omega)
    have HFt := Lib.hid hfit
    have HFd := Lib.hid hfd
    have HI := Lib.hid hi
    clear h h2 hm hy hdf hnd hx hfit hfd hP hi
    go_enter Try.func13, Try.ntmps13
    go_wp2_with fail
    refine HLv.out.mono ?_
    rintro r w0 ⟨rfl, h5, h6, h7⟩
    have HJ := Lib.hid (join_any y w0 h5 h7 HNb.out HNo.out (by have := HFi.out; have := HFt.out; omega))
    have HK0 := Lib.hid h6
    clear h5 h6 h7
    try dsimp only
    rename_i K0 hK0
    refine hK0 _ _ ?_
    go_wp2_with fail
    refine HJ.out.mono ?_
    rintro r w1 ⟨rfl, h5, h6⟩
    have hch : Ch c M G (getC x y.i) w1 := by
      unfold getC
      rw [HFd.out]
      refine ⟨m, e, _, h5, ?_, ?_⟩
      · show (ls ++ cs ++ [y]).map toE = dropC x.L y.i ++ [(y.i, y.g)]
        rw [List.map_append, HLa.out]
        rfl
      · have h8 := HFi.out
        have h9 := HFt.out
        show (dropC x.L y.i ++ [(y.i, y.g)]).length ≤ x.most ∧ _
        rw [← HLa.out]
        simp at h8 ⊢
        omega
    have hfd2 : findC (getC x y.i).L y.i = some y.g := by
      have h8 := find_nodup (ls ++ cs ++ [y]) y h5.num (by simp)
      rw [show (ls ++ cs ++ [y]).map (fun y => (y.i, y.g)) = (getC x y.i).L by
        unfold getC
        rw [HFd.out]
        show (ls ++ cs ++ [y]).map toE = dropC x.L y.i ++ [(y.i, y.g)]
        rw [List.map_append, HLa.out]
        rfl] at h8
      exact h8
    have HPk := Lib.hid (peek_any y.i HI.out w1 hch)
    have HC := Lib.hid hch
    have HF2 := Lib.hid hfd2
    have HK1 := Lib.hid (HK0.out.trans h6)
    clear h5 h6 hch hfd2
    try dsimp only
    rename_i K1 hK1
    refine hK1 _ _ ?_
    go_wp2_with fail
    refine HPk.out.mono ?_
    rintro r w2 ⟨u, rfl, h5, h6⟩
    rw [HF2.out] at h5 ⊢
    have HEnd : Hid (P (.returned (.tuple #[u, .bool (some y.g).isSome])) w2) := Lib.hid (by
      rw [← HP.out]
      refine ⟨u, by rw [HFd.out], ?_, HC.out.below h6, HK1.out.trans (KeepB.of_below h6)⟩
      rw [HFd.out]
      exact h5.weaken HK1.out.size)
    clear h5 h6
    try dsimp only
    rename_i K2 hK2
    refine hK2 _ _ ?_
    go_wp2
    exact HEnd.out
end Go.Proofs.Ytgagkmlkoeceiaa.C

/- Slices of numbers that are our own, and append upon them. -/
namespace Go.Proofs.Ytgagkmlkoeceiaa.W
open Go.RowKit

/-- these blocks are kept -/
def KeepL (l : List Nat) (A B : World) : Prop := A.heap.size ≤ B.heap.size ∧ ∀ b ∈ l, b < A.heap.size → B.heap[b]? = A.heap[b]?
theorem KeepL.of_below {l : List Nat} {A B : World} {n : Nat} (h : Below n A B) (hl : ∀ b ∈ l, b < n) : KeepL l A B := ⟨h.size, fun b hb _ => h.block b (hl b hb)⟩
theorem KeepL.refl (l : List Nat) (A : World) : KeepL l A A := ⟨Nat.le_refl _, fun _ _ _ => rfl⟩
theorem KeepL.setCell {l : List Nat} (W : World) {B : Nat} (h : B ∉ l) (j : Nat) (v : Value) : KeepL l W (W.setCell ⟨B, j, none⟩ v) :=
  ⟨(KeepsWalks.setCell W _ v).size, fun b hb _ => Below.heap_setCell W ⟨B, j, none⟩ v b (fun e => h (by simp at e; rw [← e]; exact hb))⟩
theorem KeepL.drew {l : List Nat} {A B : World} (h : KeepL l A B) : KeepL l A B.drew := h
theorem grownBy_of_below {w w' : World} (h : Below w.heap.size w w') : w.grownBy w' none := ⟨h.os, h.tape, h.output, h.size, fun k hk _ => h.block k hk⟩

/-- the block of a slice that is not empty -/
def blkOf (a : Option Addr) (zs : List Int) : List Nat := match a, zs with
  | some a, _ :: _ => [a.block]
  | _, _ => []
theorem blkOf_sub {a : Option Addr} {zs ys : List Int} (h : ys ≠ [] → zs ≠ []) : ∀ b ∈ blkOf a ys, b ∈ blkOf a zs := by
  intro b hb
  cases a with
  | none => cases hb
  | some a =>
    cases ys with
    | nil => cases hb
    | cons y ys =>
      cases zs with
      | nil => exact absurd rfl (h (by simp))
      | cons z zs => exact hb
theorem take_snoc (zs : List Int) (j : Nat) (h : j < zs.length) : zs.take (j + 1) = zs.take j ++ [zs.getD j 0] := by
  rw [List.take_succ_eq_append_getElem h]; simp [List.getD_eq_getElem?_getD, h]
/-- The slice holds these numbers. -/
def IntsIn (a : Option Addr) (len : Nat) (zs : List Int) (w : World) : Prop := len = zs.length ∧ (zs = [] ∨ ∃ b off, a = some ⟨b, off, none⟩ ∧ b < w.heap.size ∧ ∀ i, i < zs.length → w.cell? ⟨b, off + i, none⟩ = some (.int .i64 (zs.getD i 0)))
theorem IntsIn.belowAll {a : Option Addr} {len : Nat} {zs : List Int} {w w' : World} (h : IntsIn a len zs w) (hb : Below w.heap.size w w') : IntsIn a len zs w' := by
  refine ⟨h.1, h.2.imp id ?_⟩
  rintro ⟨b, off, ha, hl, hi⟩
  exact ⟨b, off, ha, Nat.lt_of_lt_of_le hl hb.size, fun i hi' => (hb.cell (p := ⟨b, off + i, none⟩) hl).trans (hi i hi')⟩
abbrev inV (z : Int) : Value := .int .i64 z
theorem infoInt : (Try.prog.info? 3).map (fun i => (i.zero, i.size, i.bytes)) = some (some (.int .i64 0), 1, 8) := by kernel_rfl
/-- A slice of numbers of our own. -/
def OwnI (base : Nat) (v : Value) (zs : List Int) (w : World) : Prop := w.ownsRow base 3 1 v zs.length (zs.map inV)
theorem OwnI.nil (base : Nat) (w : World) : OwnI base (.slice none 0 0) [] w := World.ownsRow_nil _ _ _ _
theorem OwnI.belowAll {base : Nat} {v : Value} {zs : List Int} {w w' : World} (h : OwnI base v zs w) (hb : Below w.heap.size w w') : OwnI base v zs w' :=
  World.ownsRow.kept h (grownBy_of_below hb) (by
    cases hv : v.ownBlock with
    | none => exact .inl rfl
    | some k => exact .inr (by simp))
theorem OwnI.shape {base : Nat} {v : Value} {zs : List Int} {w : World} (h : OwnI base v zs w) : ∃ a c, v = .slice a zs.length c ∧ IntsIn a zs.length zs w ∧ (∀ b ∈ blkOf a zs, base ≤ b ∧ b < w.heap.size) ∧ (a = none → c = 0) ∧ (zs.length : Int) ≤ c ∧ (c : Int) ≤ 9223372036854775807 := by
  rcases h.2 with ⟨rfl, h0⟩ | ⟨g, cap, cur, rfl, hbase, hg, hc, hm, hs, ht⟩
  · refine ⟨none, 0, by rw [h0], ⟨rfl, .inl (List.length_eq_zero_iff.1 h0)⟩, (fun b hb => by cases hb), fun _ => rfl, by omega, by omega⟩
  · have hlt := (Array.getElem?_eq_some_iff.1 hg).1
    refine ⟨some ⟨g, 0, none⟩, cap, rfl, ⟨rfl, .inr ⟨g, 0, rfl, hlt, fun i hi => ?_⟩⟩, fun b hb => ?_, (fun e => by cases e), by omega, by unfold maxLen at hm; omega⟩
    · have h1 : w.cell? ⟨g, 0 + i, none⟩ = cur[i]? := by rw [Nat.zero_add]; simp [World.cell?, hg]
      rw [h1]
      have h2 : (cur.toList.take (zs.length * 1))[i]? = some (inV (zs.getD i 0)) := by rw [ht]; simp [hi]
      rw [List.getElem?_take] at h2
      split at h2
      · simpa using h2
      · cases h2
    · have hb' := blkOf_sub (zs := [0]) (fun _ => by simp) b hb
      simp [blkOf] at hb'
      subst hb'
      exact ⟨hbase, hlt⟩
theorem append_ints_run (base : Nat) (v : Value) (xs : List Int) (a : Option Addr) (m c : Nat) (zs : List Int) (w : World) (hown : OwnI base v xs w) (h : IntsIn a m zs w) (hnil : a = none → c = 0) (hx : (xs.length : Int) ≤ 1000000) (hz : (zs.length : Int) ≤ 1000000) (hbase : base ≤ w.heap.size) :
    ∃ v' w', (Builtin.append_ #[61, 61] 61 #[v, .slice a m c]).run Try.prog w = .ok v' w' ∧ OwnI base v' (xs ++ zs) w' ∧ w.grownBy w' v.ownBlock := by
  obtain ⟨i0, hi, hz0, hz1, hz2⟩ := info_parts infoInt
  obtain ⟨hl, hcase⟩ := h
  cases a with
  | none =>
    have hc := hnil rfl
    subst hc
    have h0 : zs = [] := by
      rcases hcase with h0 | ⟨b, off, e, _⟩
      · exact h0
      · cases e
    subst h0
    obtain rfl : m = 0 := hl
    refine ⟨v, w, run_append_owned_none w base _ _ _ i0 1 Try.underlying61 hi v _ _ hown, by rw [List.append_nil]; exact hown, ⟨rfl, rfl, rfl, Nat.le_refl _, fun _ _ _ => rfl⟩⟩
  | some ad =>
    obtain ⟨v', w', hr, h2, h3, _⟩ := run_append_own w base 61 61 3 i0 (.int .i64 0) 1 8 Try.underlying61 hi hz0 hz1 hz2 rfl (by decide) v xs.length (xs.map inV) hown ad m c (zs.map inV) (by rw [List.length_map, hl]; omega)
      (fun j u hj => by
        rcases hcase with h0 | ⟨b, off, e, hb, hI⟩
        · rw [h0] at hj; simp at hj
        · cases e
          have hadd : ((⟨b, off, none⟩ : Addr).add j) = ⟨b, off + j, none⟩ := by unfold Addr.add; split <;> simp_all
          have hlt : j < zs.length := by have := (List.getElem?_eq_some_iff.1 hj).1; simpa using this
          rw [hadd, hI j hlt]
          simp [hlt] at hj ⊢
          exact hj)
      (fun u hu => by obtain ⟨z, _, rfl⟩ := List.mem_map.1 hu; rfl) (by unfold maxLen; omega) (by omega) hbase
    refine ⟨v', w', hr, ?_, h3⟩
    unfold OwnI
    rw [List.length_append, List.map_append, ← hl]
    exact h2
theorem wpList_append_ints {ops : Array Oper} {rest : List Oper} {o : Oper} {z : Act} {w : World} {Q : Exit → Act → World → Prop} (hgd : o.guard = none) (s x : Operand)
    (ho : o.op = .call { callee := .builtin .append, args := #[s, x], argTypes := #[61, 61] }) (hty : o.type = 61)
    (base : Nat) (v : Value) (xs : List Int) (a : Option Addr) (m c : Nat) (zs : List Int) (hs : z.eval s = v) (hxv : z.eval x = .slice a m c) (hown : OwnI base v xs w) (h : IntsIn a m zs w) (hnil : a = none → c = 0) (hx : (xs.length : Int) ≤ 1000000) (hz : (zs.length : Int) ≤ 1000000) (hbase : base ≤ w.heap.size)
    (hK : ∀ v' w', OwnI base v' (xs ++ zs) w' → w.grownBy w' v.ownBlock → wpList Try.prog ops Q rest (z.put o.dst v') w') : wpList Try.prog ops Q (o :: rest) z w :=
  wpList_plain hgd fun _ hK' => by
    obtain ⟨v', w', hr, h1, h2⟩ := append_ints_run base v xs a m c zs w hown h hnil hx hz hbase
    unfold Oper.wp execOp
    simp only [ho, hty, resolve, invoke, builtin, Sem.run_bind, Sem.run_pure, Result.andThen_ok, List.map_toArray, List.map_cons, List.map_nil, hs, hxv, hr]
    exact hK' _ _ (hK v' w' h1 h2)
theorem ints_one (w : World) (z : Int) (t : TypeId) : IntsIn (some ⟨w.heap.size, 0, none⟩) 1 [z] (w.alloc (.cells #[.int .i64 z] t)) :=
  ⟨rfl, .inr ⟨w.heap.size, 0, rfl, by simp, fun i hi => by
    obtain rfl : i = 0 := by simpa using hi
    rw [World.cell?_alloc_new]; rfl⟩⟩
theorem OwnI.ownBlock {base : Nat} {v : Value} {zs : List Int} {w : World} (h : OwnI base v zs w) : ∀ k, v.ownBlock = some k → base ≤ k := fun k hk => (World.ownsRow.lt h k hk).1
theorem OwnI.alloc {base : Nat} {v : Value} {zs : List Int} {w : World} (h : OwnI base v zs w) (o : Obj) : OwnI base v zs (w.alloc o) := World.ownsRow.alloc h o
end Go.Proofs.Ytgagkmlkoeceiaa.W
