/- A set in memory; the small calls: counted, none. -/
import Derived.Test.YthplghcpjmodeaaHBase
import Derived.Test.YthplghcpjmodeaaHMath
namespace Go.Proofs.Ythplghcpjmodeaa.H
open Go.RowKit

/-- the set of block b, whose spans are vl; M: the blocks that its calls change -/
structure SetAt (b : Nat) (M : List Nat) (l : List Sp) (vl : Value) (w : World) : Prop where
  bb : w.heap[b]? = some (.cells #[vl] 60 (0, 0))
  own : OwnP .i64 56 0 vl l w
  bm : b ∈ M
  qm : ∀ q, vl.ownBlock = some q → q ∈ M
  lt : ∀ p ∈ M, p < w.heap.size
def St (b : Nat) (M : List Nat) (l : List Sp) (w : World) : Prop := ∃ vl, SetAt b M l vl w
theorem OwnP.moved {rk : IntKind} {T : TypeId} {base : Nat} {v : Value} {l : List (Int × Int)} {w w' : World} (h : OwnP rk T base v l w) (hv : ∀ q, v.ownBlock = some q → w'.heap[q]? = w.heap[q]?) : OwnP rk T base v l w' := by
  refine ⟨h.1, ?_⟩
  rcases h.2 with h0 | ⟨g', c', cur, he, hbase, hgb, hc, hmx, hsz, ht⟩
  · exact .inl h0
  · exact .inr ⟨g', c', cur, he, hbase, (hv g' (by rw [he]; rfl)).trans hgb, hc, hmx, hsz, ht⟩
theorem SetAt.moved {b : Nat} {M : List Nat} {l : List Sp} {vl : Value} {w w' : World} (h : SetAt b M l vl w) (hs : w.heap.size ≤ w'.heap.size) (hM : ∀ p ∈ M, w'.heap[p]? = w.heap[p]?) : SetAt b M l vl w' :=
  ⟨(hM b h.bm).trans h.bb, h.own.moved (fun q hq => hM q (h.qm q hq)), h.bm, h.qm, fun p hp => Nat.lt_of_lt_of_le (h.lt p hp) hs⟩
theorem SetAt.below {b : Nat} {M : List Nat} {l : List Sp} {vl : Value} {w w' : World} (h : SetAt b M l vl w) (hb : Below w.heap.size w w') : SetAt b M l vl w' := h.moved hb.size (fun p hp => hb.block p (h.lt p hp))
theorem SetAt.kept {b : Nat} {M L : List Nat} {l : List Sp} {vl : Value} {w w' : World} (h : SetAt b M l vl w) (hb : KeepB L w w') (hd : ∀ p ∈ M, p ∉ L) : SetAt b M l vl w' := h.moved hb.size (fun p hp => hb.block p (h.lt p hp) (hd p hp))
theorem St.below {b : Nat} {M : List Nat} {l : List Sp} {w w' : World} (h : St b M l w) (hb : Below w.heap.size w w') : St b M l w' := by
  obtain ⟨vl, h⟩ := h
  exact ⟨vl, h.below hb⟩
theorem St.kept {b : Nat} {M L : List Nat} {l : List Sp} {w w' : World} (h : St b M l w) (hb : KeepB L w w') (hd : ∀ p ∈ M, p ∉ L) : St b M l w' := by
  obtain ⟨vl, h⟩ := h
  exact ⟨vl, h.kept hb hd⟩
theorem SetAt.c0 {b : Nat} {M : List Nat} {l : List Sp} {vl : Value} {w : World} (h : SetAt b M l vl w) : w.cell? ⟨b, 0, none⟩ = some vl := by rw [cell_block h.bb]; rfl
theorem SetAt.fr {b : Nat} {M : List Nat} {l : List Sp} {vl : Value} {w : World} (h : SetAt b M l vl w) (o : Nat) : w.frozen? ⟨b, o, none⟩ = false := frozen_block h.bb o
theorem SetAt.b_lt {b : Nat} {M : List Nat} {l : List Sp} {vl : Value} {w : World} (h : SetAt b M l vl w) : b < w.heap.size := h.lt b h.bm
theorem SetAt.bq {b : Nat} {M : List Nat} {l : List Sp} {vl : Value} {w : World} (h : SetAt b M l vl w) : ∀ q, vl.ownBlock = some q → q ≠ b := fun q hq e => by
  obtain ⟨cs, h1, -⟩ := U.own_type h.own hq
  rw [e, h.bb] at h1
  injection h1 with h1
  injection h1 with h1 h2
  exact absurd h2 (by decide)
theorem St.lt {b : Nat} {M : List Nat} {l : List Sp} {w : World} (h : St b M l w) : ∀ p ∈ M, p < w.heap.size := by
  obtain ⟨vl, h⟩ := h
  exact h.lt
theorem St.new (w : World) : St w.heap.size [w.heap.size] [] (w.alloc (.cells #[.slice none 0 0] 60)) :=
  ⟨_, heap_alloc_new w _, OwnP.nil _ _ _ _, List.mem_singleton.2 rfl, (fun q e => by cases e), fun p hp => by rw [List.mem_singleton.1 hp]; simp⟩
def i64 (n : Int) : Prop := -9223372036854775808 ≤ n ∧ n ≤ 9223372036854775807
def CntPost (x : Sp) (w : World) (e : Ending) (w' : World) : Prop := e = .returned (.agg #[.int .i64 (near x.1), .int .i64 (near x.2)]) ∧ Below w.heap.size w w'
set_option maxRecDepth 100000 in
set_option maxHeartbeats 1000000 in
theorem counted_any (x : Sp) (w : World) : Calls Try.prog 40 #[.agg #[.int .i64 x.1, .int .i64 x.2]] w (CntPost x w) := by
  obtain ⟨a, c⟩ := x
  go_enter Try.func40, Try.ntmps40
  go_wp2_with fail
  refine bodyPost_ret (v := .agg #[.int .i64 (near a), .int .i64 (near c)]) (by simp [results, Try.results40, go_sem, near, lo, hi]) rfl ⟨rfl, ?_⟩
  exact ((Below.refl _ _).alloc (Nat.le_refl _) _).alloc (by simp) _
def NoneV (x : Sp) : Bool := decide (x.2 ≤ x.1)
set_option maxRecDepth 100000 in
set_option maxHeartbeats 1000000 in
theorem none_any (x : Sp) (w : World) : Calls Try.prog 41 #[.agg #[.int .i64 x.1, .int .i64 x.2]] w fun e w' => e = .returned (.bool (NoneV x)) ∧ Below w.heap.size w w' := by
  obtain ⟨a, c⟩ := x
  obtain ⟨r, hr⟩ : ∃ r, decide (c ≤ a) = r := ⟨_, rfl⟩
  have HR := Lib.hid hr
  go_enter Try.func41, Try.ntmps41
  go_wp2_with fail
  go_ret
  exact ⟨by unfold NoneV; rw [HR.out]; rfl, (Below.refl _ _).alloc (Nat.le_refl _) _⟩
end Go.Proofs.Ythplghcpjmodeaa.H
