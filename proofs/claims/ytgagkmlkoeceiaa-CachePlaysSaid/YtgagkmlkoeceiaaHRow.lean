/- A row of spans, cell by cell: copy into it, clear, and what slices.overlaps says of it. -/
import Derived.Test.YtgagkmlkoeceiaaMerged6
import Derived.Lib.Overlaps
import Derived.Laws.Externs
import Derived.Lib.AppendZerosOnto
import Derived.Shelf.RegionOpenPlain
import Derived.StillTailTactics
namespace Go.Proofs.Ytgagkmlkoeceiaa.H
open Go.RowKit Go.Shelf

/-- the cells of a row -/
def RowC (q : Nat) (C : List Value) (w : World) : Prop := w.heap[q]? = some (.cells C.toArray 81 (0, 0))
theorem info_span : (Try.prog.info? 81).map (·.size) = some 2 := by kernel_rfl
theorem copyC {w : World} {q : Nat} {C : List Value} (hC : RowC q C w) (ty : TypeId) (o dLen dCap : Nat) (a : Addr) (sLen sCap : Nat) (cs : List Value) (hn : cs.length = Nat.min sLen dLen * 2) (hsrc : ∀ j v, cs[j]? = some v → w.cell? (a.add j) = some v) (hfit : o + cs.length ≤ C.length) (h1 : ∀ v ∈ cs, v.oneCell' = true) :
    (Builtin.copy_ #[67, 67] ty #[.slice (some ⟨q, o, none⟩) dLen dCap, .slice (some a) sLen sCap]).run Try.prog w = .ok (goInt (Nat.min sLen dLen : Nat)) (w.setRow q (C.take o ++ cs ++ C.drop (o + cs.length)).toArray) := by
  have := U.run_copy_rows (P := Try.prog) w 67 67 ty 81 2 q o dLen dCap a sLen sCap C.toArray 81 cs sl_span info_span hC hn hsrc (by simpa using hfit) h1
  simpa using this
theorem RowC.set {w : World} {q : Nat} {C C' : List Value} (hC : RowC q C w) : RowC q C' (w.setRow q C'.toArray) := setRow_heap w q C.toArray C'.toArray _ (0, 0) hC
theorem setRow_keep (w : World) (q : Nat) (A : Array Value) : KeepB [q] w (w.setRow q A) := ⟨rfl, rfl, rfl, by simp [World.setRow], fun k _ hk => setRow_other w q k _ (fun e => hk (by rw [e]; simp))⟩
theorem RowC.cells {w : World} {q : Nat} {C : List Value} (hC : RowC q C w) (o : Nat) : ∀ j v, (C.drop o)[j]? = some v → w.cell? ((⟨q, o, none⟩ : Addr).add j) = some v := fun j v hj => by
  have hadd : ((⟨q, o, none⟩ : Addr).add j) = ⟨q, o + j, none⟩ := by unfold Addr.add; split <;> simp_all
  rw [hadd, cell_block hC]
  rw [List.getElem?_drop] at hj
  simpa using hj
/-- an own row of spans is some row of cells -/
theorem OwnP.rowC {base : Nat} {q n cap : Nat} {l : List Sp} {w : World} (h : OwnP .i64 81 base (.slice (some ⟨q, 0, none⟩) n cap) l w) : ∃ C : List Value, RowC q C w ∧ C.length = cap * 2 ∧ C.take (l.length * 2) = flatP .i64 l ∧ n = l.length ∧ n ≤ cap ∧ cap ≤ maxLen ∧ base ≤ q := by
  rcases h.2 with ⟨e, _⟩ | ⟨g, c, cur, e, hb, hg, hc, hm, hs, ht⟩
  · cases e
  · obtain ⟨rfl, rfl, rfl⟩ : q = g ∧ n = l.length ∧ cap = c := by injection e with e e2 e3; injection e with e; injection e with e4; exact ⟨e4, e2, e3⟩
    exact ⟨cur.toList, by simpa [RowC] using hg, by simpa using hs, ht, rfl, hc, hm, hb⟩
theorem RowC.own {q cap : Nat} {C : List Value} {l : List Sp} {w : World} (hC : RowC q C w) (hl : C.length = cap * 2) (ht : C.take (l.length * 2) = flatP .i64 l) (hc : l.length ≤ cap) (hm : cap ≤ maxLen) : OwnP .i64 81 0 (.slice (some ⟨q, 0, none⟩) l.length cap) l w :=
  ⟨by rw [flatP_len], .inr ⟨q, cap, C.toArray, rfl, Nat.zero_le _, hC, hc, hm, by simpa using hl, by simpa using ht⟩⟩
theorem flatP_takeD (l : List Sp) (i : Nat) : flatP .i64 (l.take i) = (flatP .i64 l).take (i * 2) := by
  by_cases h : i ≤ l.length
  · have e1 : flatP .i64 l = flatP .i64 (l.take i) ++ flatP .i64 (l.drop i) := by rw [← flatP_append, List.take_append_drop]
    rw [e1, List.take_left' (by rw [flatP_len, List.length_take, Nat.min_eq_left h])]
  · rw [List.take_of_length_le (by omega), List.take_of_length_le (by rw [flatP_len]; omega)]
theorem flatP_dropD (l : List Sp) (i : Nat) : flatP .i64 (l.drop i) = (flatP .i64 l).drop (i * 2) := by
  by_cases h : i ≤ l.length
  · have e1 : flatP .i64 l = flatP .i64 (l.take i) ++ flatP .i64 (l.drop i) := by rw [← flatP_append, List.take_append_drop]
    rw [e1, List.drop_left' (by rw [flatP_len, List.length_take, Nat.min_eq_left h])]
  · rw [List.drop_of_length_le (by omega), List.drop_of_length_le (by rw [flatP_len]; omega)]; rfl
/-- clear of a row's part -/
theorem clearC {w : World} {q : Nat} {C : List Value} (hC : RowC q C w) (ty : TypeId) (o n c : Nat) (hfit : o + n * 2 ≤ C.length) :
    ∃ w', (Builtin.clear_ #[67] ty #[.slice (some ⟨q, o, none⟩) n c]).run Try.prog w = .ok (.tuple #[]) w' ∧ KeepB [q] w w' ∧ ∃ Z : List Value, Z.length = n * 2 ∧ RowC q (C.take o ++ Z ++ C.drop (o + n * 2)) w' := by
  obtain ⟨i0, hi, hz0, hz1, hz2⟩ := info_parts spanT.info
  cases n with
  | zero => exact ⟨w, by simp [Builtin.clear_, run_underlying sl_span], KeepB.refl _ _, [], rfl, by simpa using hC⟩
  | succ n =>
    obtain ⟨zs, hzs⟩ : ∃ zs, Builtin.zeroCells (Value.agg #[.int .i64 0, .int .i64 0]).cells (n + 1) = zs := ⟨_, rfl⟩
    have hzl : zs.toList.length = (n + 1) * 2 := by
      rw [← hzs, Array.length_toList, size_zeroCells]
      simp [Value.cells]
    have hone : ∀ v ∈ zs.toList, v.oneCell' = true := by
      intro v hv
      rw [← hzs] at hv
      simp only [Builtin.zeroCells, Array.toList_map, List.mem_map] at hv
      obtain ⟨i, -, rfl⟩ := hv
      have h2 : i % (Value.agg #[.int .i64 0, .int .i64 0]).cells.size < 2 := Nat.mod_lt _ (by decide)
      generalize i % (Value.agg #[.int .i64 0, .int .i64 0]).cells.size = k at h2 ⊢
      match k, h2 with
      | 0, _ => rfl
      | 1, _ => rfl
    have hst := run_storeCells_at (P := Try.prog) q o 81 zs.toList 0 C.toArray w hC (by simp at hfit ⊢; rw [show zs.size = zs.toList.length from rfl, hzl]; omega) hone
    refine ⟨w.setRow q (C.take o ++ zs.toList ++ C.drop (o + (n + 1) * 2)).toArray, ?_, setRow_keep _ _ _, zs.toList, hzl, hC.set⟩
    have hst' : (storeCells ⟨q, o, none⟩ zs.toList 0).run Try.prog w = .ok () (w.setRow q (C.take o ++ zs.toList ++ C.drop (o + (n + 1) * 2)).toArray) := by
      rw [hst, hzl]
      simp
    simp only [Builtin.clear_, List.getElem?_toArray, List.getElem?_cons_zero, Sem.run_bind, run_underlying sl_span, Result.andThen_ok]
    have hzv : ∀ w, (zeroValue 81).run Try.prog w = .ok (.agg #[.int .i64 0, .int .i64 0]) w := fun w => by simp [zeroValue, typeInfo, hi, hz0]
    simp only [hzv, Result.andThen_ok, Sem.run_bind, hzs, hst', Sem.run_pure]
/-- two rows in two blocks don't overlap -/
theorem overlaps_apart {w : World} {q g : Nat} {C D : List Value} (hq : RowC q C w) (hg : RowC g D w) (hne : g ≠ q) (hD : D ≠ []) (o1 o2 la ca lb cb : Nat) :
    (callFunc 58 #[.slice (some ⟨q, o1, none⟩) la ca, .slice (some ⟨g, o2, none⟩) lb cb]).run Try.prog w = .ok (.value (.bool false)) w := by
  have hz : ∀ w, (Go.sizeOf 81).run Try.prog w = .ok 2 w := fun w => by
    obtain ⟨i0, hi, hz0, hz1, hz2⟩ := info_parts spanT.info
    simp [sizeOf, typeInfo, hi, hz1]
  rw [run_callFunc_extern Try.func58 (by kernel_rfl) (by kernel_rfl) (by kernel_rfl) (e := Extern.SlicesOverlaps.overlaps #[67, 67] #[4]) (by kernel_rfl),
    Lib.run_overlaps_apart w 67 4 81 sl_span 2 hz ⟨q, o1, none⟩ ⟨g, o2, none⟩ la ca lb cb (Ne.symm hne) 81 81 C.length D.length (by simp [World.shape?, show w.heap[q]? = _ from hq]) (by simp [World.shape?, show w.heap[g]? = _ from hg]) (by simpa using hD) (frozen_block hq _) (frozen_block hq _)]
  rfl
end Go.Proofs.Ytgagkmlkoeceiaa.H
