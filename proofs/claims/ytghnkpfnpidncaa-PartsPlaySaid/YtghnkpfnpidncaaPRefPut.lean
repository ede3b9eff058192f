/- The document's slot, and its Put. -/
import Derived.Test.YtghnkpfnpidncaaPPut
import Derived.Laws.ResultCell
import Derived.Laws.CopyOwn
import Derived.Laws.MakeOwn
import Derived.RegionTactic
import Derived.Deep.DeepCutAuto
namespace Go.Proofs.Ytghnkpfnpidncaa.P
open Go.RowKit Go.Shelf

/-- A slice that holds these cells. -/
def SliceAt (w : World) (v : Value) (xs : List Value) : Prop := ∃ a c, v = .slice a xs.length c ∧ (xs ≠ [] → ∃ g, a = some ⟨g, 0, none⟩ ∧ g < w.heap.size ∧ ∀ i, i < xs.length → w.cell? ⟨g, i, none⟩ = some (xs.getD i undef))
theorem SliceAt.below {w w' : World} {v : Value} {xs : List Value} (h : SliceAt w v xs) (hb : Below w.heap.size w w') : SliceAt w' v xs := by
  obtain ⟨a, c, hv, h⟩ := h
  refine ⟨a, c, hv, fun hx => ?_⟩
  obtain ⟨g, ha, hg, hc⟩ := h hx
  exact ⟨g, ha, Nat.lt_of_lt_of_le hg hb.size, fun i hi => (hb.cell (p := ⟨g, i, none⟩) hg).trans (hc i hi)⟩
def hsV (L : PL) : List Value := L.map fun o => Value.bool o.isSome
def strV (o : Option (List UInt8)) : ByteArray := ⟨(o.getD []).toArray⟩
def psV (L : PL) : List Value := L.map fun o => Value.string (strV o)
theorem hsV_len (L : PL) : (hsV L).length = L.length := by simp [hsV]
theorem psV_len (L : PL) : (psV L).length = L.length := by simp [psV]
/-- The document's slot. -/
def RSlot (k : Int) (L : PL) (v : Value) (w : World) : Prop := ∃ hv pv, v = .agg #[.int .i64 k, hv, pv] ∧ SliceAt w hv (hsV L) ∧ SliceAt w pv (psV L)
theorem RSlot.below {k : Int} {L : PL} {v : Value} {w w' : World} (h : RSlot k L v w) (hb : Below w.heap.size w w') : RSlot k L v w' := by
  obtain ⟨hv, pv, e, h1, h2⟩ := h
  exact ⟨hv, pv, e, h1.below hb, h2.below hb⟩
theorem rslot_zero (w : World) : RSlot 0 [] (.agg #[.int .i64 0, .slice none 0 0, .slice none 0 0]) w := ⟨_, _, rfl, ⟨none, 0, rfl, fun h => absurd rfl h⟩, ⟨none, 0, rfl, fun h => absurd rfl h⟩⟩
/-- Where the document's Put is left. -/
def RPutPost (r : (Int × PL) × Int) (w : World) (e : Ending) (w' : World) : Prop := ∃ v', e = .returned (.tuple #[v', .int .i64 r.2]) ∧ RSlot r.1.1 r.1.2 v' w' ∧ Below w.heap.size w w'
set_option maxHeartbeats 1000000 in
theorem rput_arg (k : Int) (L : PL) (v : Value) (key index count : Int) (d : ByteArray) (w : World) (h : RSlot k L v w) (hbad : count < 1 ∨ 4096 < count ∨ index < 0 ∨ count ≤ index ∨ key < 1) :
    Calls Try.prog 14 #[v, .int .i64 key, .int .i64 index, .int .i64 count, .string d] w (RPutPost (putS k L key index count (bl d)) w) := by
  have hr : putS k L key index count (bl d) = ((k, L), 6) := by unfold putS; rw [if_pos hbad]
  rw [hr]
  have HS := Lib.hid h
  obtain ⟨hv, pv, rfl, ⟨a1, c1, rfl, _⟩, ⟨a2, c2, rfl, _⟩⟩ := h
  rw [hsV_len, psV_len] at HS ⊢
  obtain ⟨N, hN⟩ : ∃ N, L.length = N := ⟨_, rfl⟩
  rw [hN] at HS ⊢
  clear hr hN
  have hfin : ∀ (w3 : World), Below w.heap.size w w3 → RPutPost ((k, L), 6) w (.returned (.tuple #[.agg #[.int .i64 k, .slice a1 N c1, .slice a2 N c2], .int .i64 6])) w3 := fun w3 hb => ⟨_, rfl, HS.out.below hb, hb⟩
  have HF := Lib.hid hfin
  clear hfin
  by_cases h1 : count < 1
  · skip
    go_enter Try.func14, Try.ntmps14
    go_wp2
    refine bodyPost_ret (v := .tuple #[.agg #[.int .i64 k, .slice a1 N c1, .slice a2 N c2], .int .i64 6]) (by rw [results_cell_tmp rfl]; go_simp) rfl ?_
    exact HF.out _ (((Below.refl _ _).alloc (Nat.le_refl _) _).alloc (by simp) _)
  by_cases h2 : 4096 < count
  · skip
    go_enter Try.func14, Try.ntmps14
    go_wp2
    refine bodyPost_ret (v := .tuple #[.agg #[.int .i64 k, .slice a1 N c1, .slice a2 N c2], .int .i64 6]) (by rw [results_cell_tmp rfl]; go_simp) rfl ?_
    exact HF.out _ (((Below.refl _ _).alloc (Nat.le_refl _) _).alloc (by simp) _)
  by_cases h3 : index < 0
  · skip
    go_enter Try.func14, Try.ntmps14
    go_wp2
    refine bodyPost_ret (v := .tuple #[.agg #[.int .i64 k, .slice a1 N c1, .slice a2 N c2], .int .i64 6]) (by rw [results_cell_tmp rfl]; go_simp) rfl ?_
    exact HF.out _ (((Below.refl _ _).alloc (Nat.le_refl _) _).alloc (by simp) _)
  by_cases h4 : count ≤ index
  · skip
    go_enter Try.func14, Try.ntmps14
    go_wp2
    refine bodyPost_ret (v := .tuple #[.agg #[.int .i64 k, .slice a1 N c1, .slice a2 N c2], .int .i64 6]) (by rw [results_cell_tmp rfl]; go_simp) rfl ?_
    exact HF.out _ (((Below.refl _ _).alloc (Nat.le_refl _) _).alloc (by simp) _)
  have h5 : key < 1 := by omega
  clear hbad
  go_enter Try.func14, Try.ntmps14
  go_wp2
  refine bodyPost_ret (v := .tuple #[.agg #[.int .i64 k, .slice a1 N c1, .slice a2 N c2], .int .i64 6]) (by rw [results_cell_tmp rfl]; go_simp) rfl ?_
  exact HF.out _ (((Below.refl _ _).alloc (Nat.le_refl _) _).alloc (by simp) _)
set_option maxHeartbeats 1000000 in
theorem rput_old (k : Int) (L : PL) (v : Value) (key index count : Int) (d : ByteArray) (w : World) (h : RSlot k L v w) (h1 : 1 ≤ count) (h2 : count ≤ 4096) (h3 : 0 ≤ index) (h4 : index < count) (h5 : 1 ≤ key) (h6 : key < k) :
    Calls Try.prog 14 #[v, .int .i64 key, .int .i64 index, .int .i64 count, .string d] w (RPutPost (putS k L key index count (bl d)) w) := by
  have hr : putS k L key index count (bl d) = ((k, L), 8) := by unfold putS; rw [if_neg (by omega), if_pos h6]
  rw [hr]
  have HS := Lib.hid h
  obtain ⟨hv, pv, rfl, ⟨a1, c1, rfl, _⟩, ⟨a2, c2, rfl, _⟩⟩ := h
  rw [hsV_len, psV_len] at HS ⊢
  obtain ⟨N, hN⟩ : ∃ N, L.length = N := ⟨_, rfl⟩
  rw [hN] at HS ⊢
  clear hr hN
  have hfin : ∀ (w3 : World), Below w.heap.size w w3 → RPutPost ((k, L), 8) w (.returned (.tuple #[.agg #[.int .i64 k, .slice a1 N c1, .slice a2 N c2], .int .i64 8])) w3 := fun w3 hb => ⟨_, rfl, HS.out.below hb, hb⟩
  have HF := Lib.hid hfin
  clear hfin
  go_enter Try.func14, Try.ntmps14
  go_wp2
  refine bodyPost_ret (v := .tuple #[.agg #[.int .i64 k, .slice a1 N c1, .slice a2 N c2], .int .i64 8]) (by rw [results_cell_tmp rfl]; go_simp) rfl ?_
  exact HF.out _ (((Below.refl _ _).alloc (Nat.le_refl _) _).alloc (by simp) _)
theorem infoB : (Try.prog.info? 4).map (fun i => (i.zero, i.size, i.bytes)) = some (some (.bool false), 1, 1) := by kernel_rfl
theorem infoT : (Try.prog.info? 9).map (fun i => (i.zero, i.size, i.bytes)) = some (some (.string ⟨#[]⟩), 1, 16) := by kernel_rfl
theorem madeCells_one (z : Value) (n : Nat) : (madeCells #[z] n).toList = List.replicate n z := by
  apply List.ext_getElem
  · simp [madeCells]
  · intro i h1 h2
    simp [madeCells, Nat.mod_one]
theorem makeB (n : Nat) (hn : n ≤ 4096) : ∃ Z : List Value, Z = List.replicate n (.bool false) ∧ ∀ W : World, (Instr.makeSlice 31 (.int .i64 (n : Int)) (.int .i64 (n : Int))).run Try.prog W = .ok (.slice (some ⟨W.heap.size, 0, none⟩) n n) (W.alloc (.cells Z.toArray 4)) := by
  obtain ⟨i0, hi, hz0, hz1, hz2⟩ := info_parts infoB
  refine ⟨_, rfl, fun W => ?_⟩
  rw [run_make W 31 4 i0 _ Try.underlying31 hi hz0 .i64 .i64 n n (by omega) (by omega) (by rw [hz2]; omega) (by omega)]
  rw [hz1, Nat.mul_one, Int.toNat_natCast, ← madeCells_one]
  rfl
theorem makeT (n : Nat) (hn : n ≤ 4096) : ∃ Z : List Value, Z = List.replicate n (.string ⟨#[]⟩) ∧ ∀ W : World, (Instr.makeSlice 24 (.int .i64 (n : Int)) (.int .i64 (n : Int))).run Try.prog W = .ok (.slice (some ⟨W.heap.size, 0, none⟩) n n) (W.alloc (.cells Z.toArray 9)) := by
  obtain ⟨i0, hi, hz0, hz1, hz2⟩ := info_parts infoT
  refine ⟨_, rfl, fun W => ?_⟩
  rw [run_make W 24 9 i0 _ Try.underlying24 hi hz0 .i64 .i64 n n (by omega) (by omega) (by rw [hz2]; omega) (by omega)]
  rw [hz1, Nat.mul_one, Int.toNat_natCast, ← madeCells_one]
  rfl
/-- Behind the making of a new slot: its block, its two rows; all that lay before is as it was. -/
structure Made (w0 : World) (key : Int) (n : Nat) (ZH ZP : List Value) (gx gH gP : Nat) (wx : World) : Prop where
  x : wx.heap[gx]? = some (.cells #[.int .i64 key, .slice (some ⟨gH, 0, none⟩) n n, .slice (some ⟨gP, 0, none⟩) n n] 33 (0, 0))
  h : wx.heap[gH]? = some (.cells ZH.toArray 4 (0, 0))
  p : wx.heap[gP]? = some (.cells ZP.toArray 9 (0, 0))
  below : Below w0.heap.size w0 wx
  lx : w0.heap.size ≤ gx
  lh : w0.heap.size ≤ gH
  lp : w0.heap.size ≤ gP
def MadeR (w0 : World) (key : Int) (n : Nat) (ZH ZP : List Value) (s12 : Value) (wx : World) : Prop := ∃ gx gH gP, s12 = .pointer (some ⟨gx, 0, none⟩) ∧ Made w0 key n ZH ZP gx gH gP wx
theorem heap_drew (w : World) (k : Nat) : w.drew.heap[k]? = w.heap[k]? := rfl
theorem heap_old (w : World) (o : Obj) (k : Nat) (v : Obj) (h : w.heap[k]? = some v) : (w.alloc o).heap[k]? = some v := (Below.heap_alloc w o k (Array.getElem?_eq_some_iff.1 h).1).trans h
theorem heap_new (w : World) (o : Obj) (k : Nat) (h : k = w.heap.size) : (w.alloc o).heap[k]? = some o := by subst h; exact World.alloc_heap_new w o
/-- what the rest of Put is, behind the making of a new slot: facts that the walk takes -/
structure Behind (w : World) (key k : Int) (L : PL) (a1 : Option Addr) (c1 : Nat) (a2 : Option Addr) (c2 n : Nat) (gx gH gP : Nat) (wx : World) : Prop where
  box : wx.heap[w.heap.size]? = some (.cells #[.int .i64 k, .slice a1 L.length c1, .slice a2 L.length c2] 33 (0, 0))
  res : wx.heap[w.heap.size + 1]? = some (.cells #[.int .i64 0, .slice none 0 0, .slice none 0 0] 33 (0, 0))
  x : wx.heap[gx]? = some (.cells #[.int .i64 key, .slice (some ⟨gH, 0, none⟩) n n, .slice (some ⟨gP, 0, none⟩) n n] 33 (0, 0))
  h : wx.heap[gH]? = some (.cells (List.replicate n (Value.bool false)).toArray 4 (0, 0))
  p : wx.heap[gP]? = some (.cells (List.replicate n (Value.string ⟨#[]⟩)).toArray 9 (0, 0))
  below : Below w.heap.size w wx
  lx : w.heap.size + 2 ≤ gx
  lh : w.heap.size + 2 ≤ gH
  lp : w.heap.size + 2 ≤ gP
theorem row_set {w : World} {g i : Nat} {cs : List Value} {t : TypeId} (h : w.heap[g]? = some (.cells cs.toArray t (0, 0))) (v : Value) : (w.setCell ⟨g, i, none⟩ v).heap[g]? = some (.cells (cs.set i v).toArray t (0, 0)) := by
  simp [World.setCell, Array.getElem?_modify, h]
theorem row_other {w : World} {g g' i : Nat} {o : Obj} (h : w.heap[g]? = some o) (hne : g ≠ g') (v : Value) : (w.setCell ⟨g', i, none⟩ v).heap[g]? = some o := (Below.heap_setCell _ _ _ _ hne).trans h
theorem row_cell {w : World} {g : Nat} {cs : List Value} {t : TypeId} (h : w.heap[g]? = some (.cells cs.toArray t (0, 0))) {i : Nat} (hi : i < cs.length) : w.cell? ⟨g, i, none⟩ = some (cs.getD i undef) := by
  rw [Lib.cell_of_heap h]
  simp [List.getD_eq_getElem?_getD, hi]
theorem sliceAt_row {w : World} {g n : Nat} {cs : List Value} {t : TypeId} (h : w.heap[g]? = some (.cells cs.toArray t (0, 0))) (hn : cs.length = n) : SliceAt w (.slice (some ⟨g, 0, none⟩) n n) cs := by
  subst hn
  exact ⟨_, _, rfl, fun _ => ⟨g, rfl, (Array.getElem?_eq_some_iff.1 h).1, fun i hi => row_cell h hi⟩⟩
theorem hsV_getD (L : PL) (i : Nat) (hi : i < L.length) : (hsV L).getD i undef = .bool (L.getD i none).isSome := by simp [hsV, List.getD_eq_getElem?_getD, hi]
theorem hsV_set (L : PL) (i : Nat) (l : List UInt8) : hsV (L.set i (some l)) = (hsV L).set i (.bool true) := by simp [hsV, List.map_set]
theorem psV_set (L : PL) (i : Nat) (d : ByteArray) : psV (L.set i (some (bl d))) = (psV L).set i (.string d) := by
  unfold psV
  rw [List.map_set]
  rfl
theorem hsV_none (n : Nat) : hsV (List.replicate n none) = List.replicate n (.bool false) := by simp [hsV]
theorem psV_none (n : Nat) : psV (List.replicate n none) = List.replicate n (.string ⟨#[]⟩) := by simp [psV, strV]
theorem wpList_copy_full {P : Program} {w : World} {ops : Array Oper} {rest : List Oper} {o : Oper} {a : Act} {Q : Exit → Act → World → Prop} (hgd : o.guard = none) (d s : Operand) (dT sT : TypeId)
    (ho : o.op = .call { callee := .builtin .copy, args := #[d, s], argTypes := #[dT, sT] }) (elem : TypeId) (hu : P.underlying dT = some (.slice elem)) (hsz : (P.info? elem).map (·.size) = some 1)
    (g n dCap : Nat) (ad : Addr) (sCap : Nat) (hd : a.eval d = .slice (some ⟨g, 0, none⟩) n dCap) (hs : a.eval s = .slice (some ad) n sCap)
    (cur cs : List Value) (t : TypeId) (hg : w.heap[g]? = some (.cells cur.toArray t (0, 0))) (hcur : cur.length = n) (hcs : cs.length = n)
    (hsrc : ∀ j v, cs[j]? = some v → w.cell? (ad.add j) = some v) (h1 : ∀ v ∈ cs, v.oneCell' = true)
    (h : ∀ w', w.grownBy w' (some g) → w'.heap[g]? = some (.cells cs.toArray t (0, 0)) → wpList P ops Q rest (a.put o.dst (goInt n)) w') : wpList P ops Q (o :: rest) a w := by
  refine wpList_copy_own hgd d s dT sT ho elem hu hsz g 0 n dCap ad n sCap hd hs cur.toArray t hg cs (by rw [hcs]; exact (Nat.min_self n).symm) hsrc (by simp; omega) h1 ?_
  rw [hcs]
  have e : (cur.toArray.toList.take 0 ++ (cs ++ cur.toArray.toList.drop (0 + n))) = cs := by
    simp only [List.take_zero, List.nil_append]
    rw [List.drop_of_length_le (by simp; omega), List.append_nil]
  rw [e]
  exact h _ ⟨rfl, rfl, rfl, by simp [World.setRow], fun k _ hk => setRow_other w g k _ (fun e => hk (by rw [e]))⟩ (setRow_heap w g _ _ t _ hg)
theorem oneCell_hs (L : PL) : ∀ v ∈ hsV L, v.oneCell' = true := by
  intro v hv
  obtain ⟨o, _, rfl⟩ := List.mem_map.1 hv
  rfl
theorem oneCell_ps (L : PL) : ∀ v ∈ psV L, v.oneCell' = true := by
  intro v hv
  obtain ⟨o, _, rfl⟩ := List.mem_map.1 hv
  rfl
theorem src_at {w wc : World} {g : Nat} {xs : List Value} (hg : g < w.heap.size) (hb : Below w.heap.size w wc) (hc : ∀ i, i < xs.length → w.cell? ⟨g, i, none⟩ = some (xs.getD i undef)) : ∀ j v, xs[j]? = some v → wc.cell? ((⟨g, 0, none⟩ : Addr).add j) = some v := by
  intro j v hv
  obtain ⟨hj, he⟩ := List.getElem?_eq_some_iff.1 hv
  have hadd : (⟨g, 0, none⟩ : Addr).add j = ⟨g, j, none⟩ := by unfold Addr.add; split <;> simp_all
  rw [hadd, hb.cell (p := ⟨g, j, none⟩) hg, hc j hj]
  simp [List.getD_eq_getElem?_getD, hv]
theorem ne_of_pos {f : PL → List Value} (hf : ∀ L, (f L).length = L.length) (L : PL) (h : 1 ≤ L.length) : f L ≠ [] := fun e => by
  have h0 := hf L
  rw [e] at h0
  simp only [List.length_nil] at h0
  omega
/-- Ahead of the last part of Put: the new slot holds the parts M. -/
structure Tail (w : World) (key : Int) (M : PL) (gx gH gP : Nat) (wx : World) : Prop where
  res : wx.heap[w.heap.size + 1]? = some (.cells #[.int .i64 0, .slice none 0 0, .slice none 0 0] 33 (0, 0))
  x : wx.heap[gx]? = some (.cells #[.int .i64 key, .slice (some ⟨gH, 0, none⟩) M.length M.length, .slice (some ⟨gP, 0, none⟩) M.length M.length] 33 (0, 0))
  h : wx.heap[gH]? = some (.cells (hsV M).toArray 4 (0, 0))
  p : wx.heap[gP]? = some (.cells (psV M).toArray 9 (0, 0))
  below : Below w.heap.size w wx
  lx : w.heap.size + 2 ≤ gx
  lh : w.heap.size + 2 ≤ gH
  lp : w.heap.size + 2 ≤ gP
theorem Tail.ne {w : World} {key : Int} {M : PL} {gx gH gP : Nat} {wx : World} (h : Tail w key M gx gH gP wx) : gx ≠ gH ∧ gx ≠ gP ∧ gH ≠ gP := by
  refine ⟨?_, ?_, ?_⟩
  · intro e
    have h1 := h.x
    rw [e, h.h] at h1
    simp at h1
  · intro e
    have h1 := h.x
    rw [e, h.p] at h1
    simp at h1
  · intro e
    have h1 := h.h
    rw [e, h.p] at h1
    simp at h1
/-- the world behind Put: a part laid in, and the slot handed back -/
def outW (w : World) (key : Int) (gH gP n : Nat) (wx : World) : World := ((wx.setCell ⟨w.heap.size + 1, 0, none⟩ (.int .i64 key)).setCell ⟨w.heap.size + 1, 1, none⟩ (.slice (some ⟨gH, 0, none⟩) n n)).setCell ⟨w.heap.size + 1, 2, none⟩ (.slice (some ⟨gP, 0, none⟩) n n)
theorem Tail.out {w : World} {key : Int} {M : PL} {gx gH gP : Nat} {wx : World} (h : Tail w key M gx gH gP wx) :
    RPutPost ((key, M), 0) w (.returned (.tuple #[.agg #[.int .i64 key, .slice (some ⟨gH, 0, none⟩) M.length M.length, .slice (some ⟨gP, 0, none⟩) M.length M.length], .int .i64 0])) (outW w key gH gP M.length wx) := by
  refine ⟨_, rfl, ⟨_, _, rfl, ?_, ?_⟩, ?_⟩
  · have := h.lh
    exact sliceAt_row (row_other (row_other (row_other h.h (by omega) _) (by omega) _) (by omega) _) (hsV_len M)
  · have := h.lp
    exact sliceAt_row (row_other (row_other (row_other h.p (by omega) _) (by omega) _) (by omega) _) (psV_len M)
  · exact ((h.below.setCell (p := ⟨w.heap.size + 1, 0, none⟩) (by simp) _).setCell (p := ⟨w.heap.size + 1, 1, none⟩) (by simp) _).setCell (p := ⟨w.heap.size + 1, 2, none⟩) (by simp) _
theorem Tail.put {w : World} {key : Int} {M : PL} {gx gH gP : Nat} {wx : World} (h : Tail w key M gx gH gP wx) (i : Nat) (d : ByteArray) :
    Tail w key (M.set i (some (bl d))) gx gH gP ((wx.setCell ⟨gH, i, none⟩ (.bool true)).setCell ⟨gP, i, none⟩ (.string d)) := by
  obtain ⟨n1, n2, n3⟩ := h.ne
  have := h.lx; have := h.lh; have := h.lp
  refine ⟨row_other (row_other h.res (by omega) _) (by omega) _, ?_, ?_, ?_, (h.below.setCell (p := ⟨gH, i, none⟩) (by show _ ≤ gH; omega) _).setCell (p := ⟨gP, i, none⟩) (by show _ ≤ gP; omega) _, h.lx, h.lh, h.lp⟩
  · rw [List.length_set]; exact row_other (row_other h.x n1 _) n2 _
  · rw [hsV_set]; exact row_other (row_set h.h _) n3 _
  · rw [psV_set]; exact row_set (row_other h.p (Ne.symm n3) _) _
set_option maxRecDepth 100000 in
set_option maxHeartbeats 4000000 in
theorem rput_rest (k : Int) (L : PL) (v : Value) (key : Int) (index count : Nat) (d : ByteArray) (w : World) (h : RSlot k L v w) (hsd : Sound k L) (h2 : count ≤ 4096) (h4 : index < count) (h5 : 1 ≤ key) (h6 : k ≤ key) :
    Calls Try.prog 14 #[v, .int .i64 key, .int .i64 (index : Int), .int .i64 (count : Int), .string d] w (RPutPost (putS k L key index count (bl d)) w) := by
  have HS := Lib.hid h
  obtain ⟨hv, pv, rfl, ⟨a1, c1, rfl, ha1⟩, ⟨a2, c2, rfl, ha2⟩⟩ := h
  rw [hsV_len, psV_len] at HS ⊢
  have HA1 := Lib.hid ha1
  have HA2 := Lib.hid ha2
  have HSd := Lib.hid hsd
  obtain ⟨N, hN⟩ : ∃ N, L.length = N := ⟨_, rfl⟩
  have HN := Lib.hid hN
  rw [hN] at HS ⊢
  clear hN ha1 ha2 hsd
  obtain ⟨ZH, hZH, hmk1⟩ := makeB count (by omega)
  obtain ⟨ZP, hZP, hmk2⟩ := makeT count (by omega)
  have HZH := Lib.hid hZH
  have HZP := Lib.hid hZP
  clear hZH hZP
  obtain ⟨r, hrr⟩ : ∃ r, putS k L key index count (bl d) = r := ⟨_, rfl⟩
  rw [hrr]
  have HR := Lib.hid hrr
  clear hrr
  have hcc1 : (1 : Int) ≤ count := by omega
  have hcc2 : (count : Int) ≤ 4096 := by omega
  have hii0 : (0 : Int) ≤ index := by omega
  have hiic : (index : Int) < count := by omega
  go_enter Try.func14, Try.ntmps14
  go_upto_region 5 with fail
  go_cut [12] (fun s12 wx => MadeR ((w.alloc (.cells #[.int .i64 k, .slice a1 N c1, .slice a2 N c2] 33)).alloc (.cells #[.int .i64 0, .slice none 0 0, .slice none 0 0] 33)) key count ZH ZP s12 wx)
  case first =>
    go_region
    all_goals (go_wp2_with fail; go_meet)
    all_goals
      have bel := fun (A B C : Obj) => ((((((Below.refl _ ((w.alloc (.cells #[.int .i64 k, .slice a1 N c1, .slice a2 N c2] 33)).alloc (.cells #[.int .i64 0, .slice none 0 0, .slice none 0 0] 33))).alloc (Nat.le_refl _) A).alloc (by simp <;> omega) B).alloc (by simp <;> omega) C).drew) : Below _ _ _)
      first
        | exact ⟨w.heap.size + 1 + 1, w.heap.size + 1 + 1 + 1, w.heap.size + 1 + 1 + 1 + 1, rfl, ⟨heap_old _ _ _ _ (heap_old _ _ _ _ (heap_new _ _ _ (by simp <;> omega))), heap_old _ _ _ _ (heap_new _ _ _ (by simp <;> omega)), heap_new _ _ _ (by simp <;> omega), bel _ _ _, by simp <;> omega, by simp <;> omega, by simp <;> omega⟩⟩
        | exact ⟨w.heap.size + 1 + 1, w.heap.size + 1 + 1 + 1 + 1, w.heap.size + 1 + 1 + 1, rfl, ⟨heap_old _ _ _ _ (heap_old _ _ _ _ (heap_new _ _ _ (by simp <;> omega))), heap_new _ _ _ (by simp <;> omega), heap_old _ _ _ _ (heap_new _ _ _ (by simp <;> omega)), bel _ _ _, by simp <;> omega, by simp <;> omega, by simp <;> omega⟩⟩
        | exact ⟨w.heap.size + 1 + 1 + 1, w.heap.size + 1 + 1, w.heap.size + 1 + 1 + 1 + 1, rfl, ⟨heap_old _ _ _ _ (heap_new _ _ _ (by simp <;> omega)), heap_old _ _ _ _ (heap_old _ _ _ _ (heap_new _ _ _ (by simp <;> omega))), heap_new _ _ _ (by simp <;> omega), bel _ _ _, by simp <;> omega, by simp <;> omega, by simp <;> omega⟩⟩
        | exact ⟨w.heap.size + 1 + 1 + 1, w.heap.size + 1 + 1 + 1 + 1, w.heap.size + 1 + 1, rfl, ⟨heap_old _ _ _ _ (heap_new _ _ _ (by simp <;> omega)), heap_new _ _ _ (by simp <;> omega), heap_old _ _ _ _ (heap_old _ _ _ _ (heap_new _ _ _ (by simp <;> omega))), bel _ _ _, by simp <;> omega, by simp <;> omega, by simp <;> omega⟩⟩
        | exact ⟨w.heap.size + 1 + 1 + 1 + 1, w.heap.size + 1 + 1, w.heap.size + 1 + 1 + 1, rfl, ⟨heap_new _ _ _ (by simp <;> omega), heap_old _ _ _ _ (heap_old _ _ _ _ (heap_new _ _ _ (by simp <;> omega))), heap_old _ _ _ _ (heap_new _ _ _ (by simp <;> omega)), bel _ _ _, by simp <;> omega, by simp <;> omega, by simp <;> omega⟩⟩
        | exact ⟨w.heap.size + 1 + 1 + 1 + 1, w.heap.size + 1 + 1 + 1, w.heap.size + 1 + 1, rfl, ⟨heap_new _ _ _ (by simp <;> omega), heap_old _ _ _ _ (heap_new _ _ _ (by simp <;> omega)), heap_old _ _ _ _ (heap_old _ _ _ _ (heap_new _ _ _ (by simp <;> omega))), bel _ _ _, by simp <;> omega, by simp <;> omega, by simp <;> omega⟩⟩
  case rest =>
    obtain ⟨gx, gH, gP, rfl, hM⟩ := hcut
    have hb : Behind w key k L a1 c1 a2 c2 count gx gH gP wc := by
      have b1 := hM.below
      have hs2 : ((w.alloc (.cells #[.int .i64 k, .slice a1 N c1, .slice a2 N c2] 33)).alloc (.cells #[.int .i64 0, .slice none 0 0, .slice none 0 0] 33)).heap.size = w.heap.size + 2 := by simp
      refine ⟨?_, ?_, hM.x, by rw [← HZH.out]; exact hM.h, by rw [← HZP.out]; exact hM.p, ?_, by rw [← hs2]; exact hM.lx, by rw [← hs2]; exact hM.lh, by rw [← hs2]; exact hM.lp⟩
      · rw [HN.out]; exact (b1.block _ (by omega)).trans (heap_old _ _ _ _ (heap_new _ _ _ rfl))
      · exact (b1.block _ (by omega)).trans (heap_new _ _ _ (by simp))
      · exact (((Below.refl _ _).alloc (Nat.le_refl _) _).alloc (by simp) _).trans (b1.mono (by omega))
    have HB := Lib.hid hb
    have hbx0 : wc.cell? ⟨w.heap.size, 0, none⟩ = some (.int .i64 k) := by rw [Lib.cell_of_heap hb.box]; rfl
    have hbx1 : wc.cell? ⟨w.heap.size, 1, none⟩ = some (.slice a1 N c1) := by rw [Lib.cell_of_heap hb.box, HN.out]; rfl
    have hbx2 : wc.cell? ⟨w.heap.size, 2, none⟩ = some (.slice a2 N c2) := by rw [Lib.cell_of_heap hb.box, HN.out]; rfl
    have hr0 : wc.cell? ⟨w.heap.size + 1, 0, none⟩ = some (.int .i64 0) := by rw [Lib.cell_of_heap hb.res]; rfl
    have hr1 : wc.cell? ⟨w.heap.size + 1, 1, none⟩ = some (.slice none 0 0) := by rw [Lib.cell_of_heap hb.res]; rfl
    have hr2 : wc.cell? ⟨w.heap.size + 1, 2, none⟩ = some (.slice none 0 0) := by rw [Lib.cell_of_heap hb.res]; rfl
    have hrf := fun j => Lib.frozen_of_heap hb.res j
    have hrf0 := hrf 0
    have hrf1 := hrf 1
    have hrf2 := hrf 2
    clear hM hb hmk1 hmk2 hrf
    by_cases hk : key = k
    · subst hk
      by_cases hc : count = N
      · subst hc
        have hlc : L.length = count := HN.out
        have hne1 : hsV L ≠ [] := ne_of_pos hsV_len L (by omega)
        have hne2 : psV L ≠ [] := ne_of_pos psV_len L (by omega)
        obtain ⟨g1, rfl, hg1, hcl1⟩ := HA1.out hne1
        obtain ⟨g2, rfl, hg2, hcl2⟩ := HA2.out hne2
        have hsrc1 := src_at hg1 HB.out.below hcl1
        have h1a := oneCell_hs L
        have h1b := oneCell_ps L
        have hcs1 : (hsV L).length = count := by rw [hsV_len]; exact hlc
        have hcs2 : (psV L).length = count := by rw [psV_len]; exact hlc
        have hcur1 : (List.replicate count (Value.bool false)).length = count := List.length_replicate ..
        have hcur2 : (List.replicate count (Value.string ⟨#[]⟩)).length = count := List.length_replicate ..
        obtain ⟨XH, hXH⟩ : ∃ XH, hsV L = XH := ⟨_, rfl⟩
        obtain ⟨XP, hXP⟩ : ∃ XP, psV L = XP := ⟨_, rfl⟩
        rw [hXH] at hsrc1 h1a hcs1
        rw [hXP] at h1b hcs2
        obtain ⟨CH, hCH⟩ : ∃ CH, List.replicate count (Value.bool false) = CH := ⟨_, rfl⟩
        obtain ⟨CP, hCP⟩ : ∃ CP, List.replicate count (Value.string ⟨#[]⟩) = CP := ⟨_, rfl⟩
        have hrowH := HB.out.h
        have hrowP := HB.out.p
        rw [hCH] at hrowH hcur1
        rw [hCP] at hrowP hcur2
        have hneP : gP ≠ gH := fun e => by rw [e, hrowH] at hrowP; simp at hrowP
        have hneX : gx ≠ gH := fun e => by have h := HB.out.x; rw [e, hrowH] at h; simp at h
        have hneX2 : gx ≠ gP := fun e => by have h := HB.out.x; rw [e, hrowP] at h; simp at h
        have hlh0 := HB.out.lh
        have hlp0 := HB.out.lp
        have hzz : w.heap.size + 1 < wc.heap.size := (Array.getElem?_eq_some_iff.1 HB.out.res).1
        have hgxl : gx < wc.heap.size := (Array.getElem?_eq_some_iff.1 HB.out.x).1
        have hgPl : gP < wc.heap.size := (Array.getElem?_eq_some_iff.1 hrowP).1
        have hx1c : wc.cell? ⟨gx, 1, none⟩ = some (.slice (some ⟨gH, 0, none⟩) count count) := by rw [Lib.cell_of_heap HB.out.x]; rfl
        have HRowH := Lib.hid hrowH
        have HRowP := Lib.hid hrowP
        have HSrc1 := Lib.hid hsrc1
        have H1a := Lib.hid h1a
        have H1b := Lib.hid h1b
        have HCs1 := Lib.hid hcs1
        have HCs2 := Lib.hid hcs2
        have HCu1 := Lib.hid hcur1
        have HCu2 := Lib.hid hcur2
        have HXH := Lib.hid hXH
        have HXP := Lib.hid hXP
        have HCl2 := Lib.hid hcl2
        have HLc := Lib.hid hlc
        clear hrowH hrowP hsrc1 h1a h1b hcs1 hcs2 hcur1 hcur2 hXH hXP hcl1 hcl2 hne1 hne2 hCH hCP hlc
        go_wp2_with (with_reducible refine wpList_copy_full rfl (.tmp 55) (.tmp 57) 31 31 rfl 4 Try.underlying31 (by kernel_rfl) gH count count ⟨g1, 0, none⟩ c1 rfl rfl CH XH 4 HRowH.out HCu1.out HCs1.out HSrc1.out H1a.out ?_)
        intro W1 hgr1 hrow1
        have hx2c : W1.cell? ⟨gx, 2, none⟩ = some (.slice (some ⟨gP, 0, none⟩) count count) := by rw [Lib.cell_of_heap ((hgr1.block gx hgxl (by intro e; cases e; exact hneX rfl)).trans HB.out.x)]; rfl
        have hbx2' : W1.cell? ⟨w.heap.size, 2, none⟩ = some (.slice (some ⟨g2, 0, none⟩) count c2) := by rw [Lib.cell_of_heap ((hgr1.block _ (by omega) (by intro e; cases e; omega)).trans HB.out.box), HN.out]; rfl
        have hrowP1 := (hgr1.block gP hgPl (by intro e; cases e; exact hneP rfl)).trans HRowP.out
        have hbel1 : Below w.heap.size w W1 := HB.out.below.grown hgr1 (by omega) (fun q e => by cases e; omega)
        have hsrc2 : ∀ j v, XP[j]? = some v → W1.cell? ((⟨g2, 0, none⟩ : Addr).add j) = some v := by rw [← HXP.out]; exact src_at hg2 hbel1 HCl2.out
        have HG1 := Lib.hid hgr1
        have HR1 := Lib.hid hrow1
        have HRP1 := Lib.hid hrowP1
        have HS2 := Lib.hid hsrc2
        have HBel1 := Lib.hid hbel1
        clear hgr1 hrow1 hrowP1 hsrc2 hbel1
        go_wp2_with (with_reducible refine wpList_copy_full rfl (.tmp 60) (.tmp 62) 24 24 rfl 9 Try.underlying24 (by kernel_rfl) gP count count ⟨g2, 0, none⟩ c2 rfl rfl CP XP 9 HRP1.out HCu2.out HCs2.out HS2.out H1b.out ?_)
        intro W2 hgr2 hrow2
        have hs1 := HG1.out.size
        have hT : Tail w key L gx gH gP W2 := by
          have q : ∀ j, j < wc.heap.size → j ≠ gH → j ≠ gP → W2.heap[j]? = wc.heap[j]? := fun j hj h1 h2 => (hgr2.block j (by omega) (by intro e; cases e; exact h2 rfl)).trans (HG1.out.block j hj (by intro e; cases e; exact h1 rfl))
          refine ⟨(q _ hzz (by omega) (by omega)).trans HB.out.res, ?_, ?_, ?_, HBel1.out.grown hgr2 (by omega) (fun q e => by cases e; omega), HB.out.lx, HB.out.lh, HB.out.lp⟩
          · rw [HLc.out]; exact (q _ hgxl hneX hneX2).trans HB.out.x
          · rw [HXH.out]
            exact (hgr2.block gH (Array.getElem?_eq_some_iff.1 HR1.out).1 (by intro e; cases e; exact hneP rfl)).trans HR1.out
          · rw [HXP.out]; exact hrow2
        have hlc := HLc.out
        obtain ⟨n1, n2, n3⟩ := hT.ne
        have hx0 : W2.cell? ⟨gx, 0, none⟩ = some (.int .i64 key) := by rw [Lib.cell_of_heap hT.x]; rfl
        have hx1 : W2.cell? ⟨gx, 1, none⟩ = some (.slice (some ⟨gH, 0, none⟩) count count) := by rw [Lib.cell_of_heap hT.x, HN.out]; rfl
        have hx2 : W2.cell? ⟨gx, 2, none⟩ = some (.slice (some ⟨gP, 0, none⟩) count count) := by rw [Lib.cell_of_heap hT.x, HN.out]; rfl
        have hq0 : W2.cell? ⟨w.heap.size + 1, 0, none⟩ = some (.int .i64 0) := by rw [Lib.cell_of_heap hT.res]; rfl
        have hq1 : W2.cell? ⟨w.heap.size + 1, 1, none⟩ = some (.slice none 0 0) := by rw [Lib.cell_of_heap hT.res]; rfl
        have hq2 : W2.cell? ⟨w.heap.size + 1, 2, none⟩ = some (.slice none 0 0) := by rw [Lib.cell_of_heap hT.res]; rfl
        have hqf := fun j => Lib.frozen_of_heap hT.res j
        have hqf0 := hqf 0
        have hqf1 := hqf 1
        have hqf2 := hqf 2
        have hh : W2.cell? ⟨gH, index, none⟩ = some (.bool (L.getD index none).isSome) := by
          rw [row_cell hT.h (by rw [hsV_len]; omega), hsV_getD _ _ (by omega)]
        have hp : W2.cell? ⟨gP, index, none⟩ = some ((psV L).getD index undef) := row_cell hT.p (by rw [psV_len]; omega)
        have hfh : W2.frozen? ⟨gH, index, none⟩ = false := Lib.frozen_of_heap hT.h index
        have hfp : W2.frozen? ⟨gP, index, none⟩ = false := Lib.frozen_of_heap hT.p index
        have hlx := hT.lx
        have hlh := hT.lh
        have hlp := hT.lp
        have m1 : ¬ gH = gx := fun e => n1 e.symm
        have m2 : ¬ gP = gx := fun e => n2 e.symm
        have m3 : ¬ gH = gP := n3
        have m4 : ¬ gH = w.heap.size + 1 := by omega
        have m5 : ¬ gP = w.heap.size + 1 := by omega
        obtain ⟨PV, hPV⟩ : ∃ PV, (psV L).getD index undef = PV := ⟨_, rfl⟩
        rw [hPV] at hp
        clear hPV hqf
        cases hpr : L.getD index none with
        | some u =>
          have hr : putS key L key index count (bl d) = ((key, L), 0) := by unfold putS; rw [if_neg (by omega), if_neg (by omega), if_neg (by omega), if_neg (by omega), Int.toNat_natCast, hpr]
          rw [HR.out] at hr
          have hfin := hT.out
          rw [← hr, hlc] at hfin
          unfold outW at hfin
          rw [hpr] at hh
          simp only [Option.isSome_some] at hh
          have HF := Lib.hid hfin
          clear hfin hr hT hgr2 hrow2 hlc hpr hs1
          go_wp2
          refine bodyPost_ret (v := .tuple #[.agg #[.int .i64 key, .slice (some ⟨gH, 0, none⟩) count count, .slice (some ⟨gP, 0, none⟩) count count], .int .i64 0]) (by rw [results_cell_tmp rfl]; go_simp) rfl ?_
          exact HF.out
        | none =>
          have hr : putS key L key index count (bl d) = ((key, L.set index (some (bl d))), 0) := by unfold putS; rw [if_neg (by omega), if_neg (by omega), if_neg (by omega), if_neg (by omega), Int.toNat_natCast, hpr]
          rw [HR.out] at hr
          have hfin := (hT.put index d).out
          rw [← hr, List.length_set, hlc] at hfin
          unfold outW at hfin
          rw [hpr] at hh
          simp only [Option.isSome_none] at hh
          have HF := Lib.hid hfin
          clear hfin hr hT hgr2 hrow2 hlc hpr hs1
          go_wp2
          refine bodyPost_ret (v := .tuple #[.agg #[.int .i64 key, .slice (some ⟨gH, 0, none⟩) count count, .slice (some ⟨gP, 0, none⟩) count count], .int .i64 0]) (by rw [results_cell_tmp rfl]; go_simp) rfl ?_
          exact HF.out
      · have hr : putS key L key index count (bl d) = ((key, L), 1) := by unfold putS; rw [if_neg (by omega), if_neg (by omega), if_neg (by omega), if_pos (by rw [HN.out]; omega)]
        rw [HR.out] at hr
        have hne : ((count : Int) == (N : Int)) = false := by rw [beq_eq_false_iff_ne]; omega
        have hne2 : ((count : Int) != (N : Int)) = true := by simp; omega
        have hfin : RPutPost r w (.returned (.tuple #[.agg #[.int .i64 key, .slice a1 N c1, .slice a2 N c2], .int .i64 1])) (((wc.setCell ⟨w.heap.size + 1, 0, none⟩ (.int .i64 key)).setCell ⟨w.heap.size + 1, 1, none⟩ (.slice a1 N c1)).setCell ⟨w.heap.size + 1, 2, none⟩ (.slice a2 N c2)) := by
          have hb : Below w.heap.size w (((wc.setCell ⟨w.heap.size + 1, 0, none⟩ (.int .i64 key)).setCell ⟨w.heap.size + 1, 1, none⟩ (.slice a1 N c1)).setCell ⟨w.heap.size + 1, 2, none⟩ (.slice a2 N c2)) := ((HB.out.below.setCell (p := ⟨w.heap.size + 1, 0, none⟩) (by simp) _).setCell (p := ⟨w.heap.size + 1, 1, none⟩) (by simp) _).setCell (p := ⟨w.heap.size + 1, 2, none⟩) (by simp) _
          rw [hr]
          exact ⟨_, rfl, HS.out.below hb, hb⟩
        have HF := Lib.hid hfin
        clear hfin hr hc
        go_wp2
        refine bodyPost_ret (v := .tuple #[.agg #[.int .i64 key, .slice a1 N c1, .slice a2 N c2], .int .i64 1]) (by rw [results_cell_tmp rfl]; go_simp) rfl ?_
        exact HF.out
    · have hkl : k < key := by omega
      have hr : putS k L key index count (bl d) = ((key, (List.replicate count none).set index (some (bl d))), 0) := by unfold putS; rw [if_neg (by omega), if_neg (by omega), if_pos hkl, Int.toNat_natCast, Int.toNat_natCast]
      rw [HR.out] at hr
      have hlr : (List.replicate count (none : Option (List UInt8))).length = count := List.length_replicate ..
      have hT : Tail w key (List.replicate count none) gx gH gP wc := ⟨HB.out.res, by rw [hlr]; exact HB.out.x, by rw [hsV_none]; exact HB.out.h, by rw [psV_none]; exact HB.out.p, HB.out.below, HB.out.lx, HB.out.lh, HB.out.lp⟩
      have hT2 := hT.put index d
      have hfin := hT2.out
      rw [← hr, List.length_set, hlr] at hfin
      unfold outW at hfin
      obtain ⟨n1, n2, n3⟩ := hT.ne
      have hx0 : wc.cell? ⟨gx, 0, none⟩ = some (.int .i64 key) := by rw [Lib.cell_of_heap HB.out.x]; rfl
      have hx1 : wc.cell? ⟨gx, 1, none⟩ = some (.slice (some ⟨gH, 0, none⟩) count count) := by rw [Lib.cell_of_heap HB.out.x]; rfl
      have hx2 : wc.cell? ⟨gx, 2, none⟩ = some (.slice (some ⟨gP, 0, none⟩) count count) := by rw [Lib.cell_of_heap HB.out.x]; rfl
      have hh : wc.cell? ⟨gH, index, none⟩ = some (.bool false) := by
        rw [row_cell hT.h (by rw [hsV_len, hlr]; exact h4), hsV_getD _ _ (by rw [hlr]; exact h4)]
        simp [List.getD_eq_getElem?_getD, h4]
      have hp : wc.cell? ⟨gP, index, none⟩ = some ((psV (List.replicate count none)).getD index undef) := row_cell hT.p (by rw [psV_len, hlr]; exact h4)
      have hfh : wc.frozen? ⟨gH, index, none⟩ = false := Lib.frozen_of_heap hT.h index
      have hfp : wc.frozen? ⟨gP, index, none⟩ = false := Lib.frozen_of_heap hT.p index
      have hlx := hT.lx
      have hlh := hT.lh
      have hlp := hT.lp
      have m1 : ¬ gH = gx := fun e => n1 e.symm
      have m2 : ¬ gP = gx := fun e => n2 e.symm
      have m3 : ¬ gH = gP := n3
      have m4 : ¬ gH = w.heap.size + 1 := by omega
      have m5 : ¬ gP = w.heap.size + 1 := by omega
      obtain ⟨PV, hPV⟩ : ∃ PV, (psV (List.replicate count none)).getD index undef = PV := ⟨_, rfl⟩
      rw [hPV] at hp
      have hkn : (key == k) = false := by rw [beq_eq_false_iff_ne]; exact hk
      have HF := Lib.hid hfin
      clear hfin hr hT hT2 hlr hPV hk
      go_wp2
      refine bodyPost_ret (v := .tuple #[.agg #[.int .i64 key, .slice (some ⟨gH, 0, none⟩) count count, .slice (some ⟨gP, 0, none⟩) count count], .int .i64 0]) (by rw [results_cell_tmp rfl]; go_simp) rfl ?_
      exact HF.out
end Go.Proofs.Ytghnkpfnpidncaa.P
