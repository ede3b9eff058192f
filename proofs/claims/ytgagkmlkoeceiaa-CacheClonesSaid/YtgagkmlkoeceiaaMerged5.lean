/- A set in memory; the small calls: counted, none. -/
import Derived.Test.YtgagkmlkoeceiaaHBase
import Derived.Test.YtgagkmlkoeceiaaHMath
import Derived.Lib.QuietBelow
import Derived.BigQuiet
namespace Go.Proofs.Ytgagkmlkoeceiaa.H
open Go.RowKit

/-- the set of block b, whose spans are vl; M: the blocks that its calls change -/
structure SetAt (b : Nat) (M : List Nat) (l : List Sp) (vl : Value) (w : World) : Prop where
  bb : w.heap[b]? = some (.cells #[vl] 84 (0, 0))
  own : OwnP .i64 81 0 vl l w
  bm : b ∈ M
  qm : ∀ q, vl.ownBlock = some q → q ∈ M
  lt : ∀ p ∈ M, p < w.heap.size
def St (b : Nat) (M : List Nat) (l : List Sp) (w : World) : Prop := ∃ vl, SetAt b M l vl w
theorem OwnP.moved {rk : IntKind} {T : TypeId} {base : Nat} {v : Value} {l : List (Int × Int)} {w w' : World} (h : OwnP rk T base v l w) (hv : ∀ q, v.ownBlock = some q → w'.heap[q]? = w.heap[q]?) : OwnP rk T base v l w' := by
  refine ⟨h.1, ?_⟩
  rcases h.2 with h0 | ⟨g', c', cur, he, hbase, hgb, hc, hmx, hsz, ht⟩
  · exact .inl h0
  · exact .inr ⟨g', c', cur, he, hbase, (hv g' (by rw [he]; rfl)).trans hgb, hc, hmx, hsz, ht⟩
theorem SetAt.moved {b : Nat} {M : List Nat} {l : List Sp} {vl : Value} {w w' : World} (h : SetAt b M l vl w) (hs : w.heap.size ≤ w'.heap.size) (hM : ∀ p ∈ M, w'.heap[p]? = w.heap[p]?) : SetAt b M l vl w' :=
  ⟨(hM b h.bm).trans h.bb, h.own.moved (fun q hq => hM q (h.qm q hq)), h.bm, h.qm, fun p hp => Nat.lt_of_lt_of_le (h.lt p hp) hs⟩
theorem SetAt.below {b : Nat} {M : List Nat} {l : List Sp} {vl : Value} {w w' : World} (h : SetAt b M l vl w) (hb : Below w.heap.size w w') : SetAt b M l vl w' := h.moved hb.size (fun p hp => hb.block p (h.lt p hp))
theorem SetAt.kept {b : Nat} {M L : List Nat} {l : List Sp} {vl : Value} {w w' : World} (h : SetAt b M l vl w) (hb : KeepB L w w') (hd : ∀ p ∈ M, p ∉ L) : SetAt b M l vl w' := h.moved hb.size (fun p hp => hb.block p (h.lt p hp) (hd p hp))
theorem St.below {b : Nat} {M : List Nat} {l : List Sp} {w w' : World} (h : St b M l w) (hb : Below w.heap.size w w') : St b M l w' := by
  obtain ⟨vl, h⟩ := h
  exact ⟨vl, h.below hb⟩
theorem St.kept {b : Nat} {M L : List Nat} {l : List Sp} {w w' : World} (h : St b M l w) (hb : KeepB L w w') (hd : ∀ p ∈ M, p ∉ L) : St b M l w' := by
  obtain ⟨vl, h⟩ := h
  exact ⟨vl, h.kept hb hd⟩
theorem SetAt.c0 {b : Nat} {M : List Nat} {l : List Sp} {vl : Value} {w : World} (h : SetAt b M l vl w) : w.cell? ⟨b, 0, none⟩ = some vl := by rw [cell_block h.bb]; rfl
theorem SetAt.fr {b : Nat} {M : List Nat} {l : List Sp} {vl : Value} {w : World} (h : SetAt b M l vl w) (o : Nat) : w.frozen? ⟨b, o, none⟩ = false := frozen_block h.bb o
theorem SetAt.b_lt {b : Nat} {M : List Nat} {l : List Sp} {vl : Value} {w : World} (h : SetAt b M l vl w) : b < w.heap.size := h.lt b h.bm
theorem SetAt.bq {b : Nat} {M : List Nat} {l : List Sp} {vl : Value} {w : World} (h : SetAt b M l vl w) : ∀ q, vl.ownBlock = some q → q ≠ b := fun q hq e => by
  obtain ⟨cs, h1, -⟩ := U.own_type h.own hq
  rw [e, h.bb] at h1
  injection h1 with h1
  injection h1 with h1 h2
  exact absurd h2 (by decide)
theorem St.lt {b : Nat} {M : List Nat} {l : List Sp} {w : World} (h : St b M l w) : ∀ p ∈ M, p < w.heap.size := by
  obtain ⟨vl, h⟩ := h
  exact h.lt
theorem St.new (w : World) : St w.heap.size [w.heap.size] [] (w.alloc (.cells #[.slice none 0 0] 84)) :=
  ⟨_, heap_alloc_new w _, OwnP.nil _ _ _ _, List.mem_singleton.2 rfl, (fun q e => by cases e), fun p hp => by rw [List.mem_singleton.1 hp]; simp⟩
def i64 (n : Int) : Prop := -9223372036854775808 ≤ n ∧ n ≤ 9223372036854775807
def CntPost (x : Sp) (w : World) (e : Ending) (w' : World) : Prop := e = .returned (.agg #[.int .i64 (near x.1), .int .i64 (near x.2)]) ∧ Below w.heap.size w w'
set_option maxRecDepth 100000 in
set_option maxHeartbeats 1000000 in
theorem counted_any (x : Sp) (w : World) : Calls Try.prog 37 #[.agg #[.int .i64 x.1, .int .i64 x.2]] w (CntPost x w) := by
  obtain ⟨a, c⟩ := x
  go_enter Try.func37, Try.ntmps37
  go_wp2_with fail
  refine bodyPost_ret (v := .agg #[.int .i64 (near a), .int .i64 (near c)]) (by simp [results, Try.results37, go_sem, near, lo, hi]) rfl ⟨rfl, ?_⟩
  exact ((Below.refl _ _).alloc (Nat.le_refl _) _).alloc (by simp) _
def NoneV (x : Sp) : Bool := decide (x.2 ≤ x.1)
set_option maxRecDepth 100000 in
set_option maxHeartbeats 1000000 in
theorem none_any (x : Sp) (w : World) : Calls Try.prog 38 #[.agg #[.int .i64 x.1, .int .i64 x.2]] w fun e w' => e = .returned (.bool (NoneV x)) ∧ Below w.heap.size w w' := by
  obtain ⟨a, c⟩ := x
  obtain ⟨r, hr⟩ : ∃ r, decide (c ≤ a) = r := ⟨_, rfl⟩
  have HR := Lib.hid hr
  go_enter Try.func38, Try.ntmps38
  go_wp2_with fail
  go_ret
  exact ⟨by unfold NoneV; rw [HR.out]; rfl, (Below.refl _ _).alloc (Nat.le_refl _) _⟩
end Go.Proofs.Ytgagkmlkoeceiaa.H

/- Where spans stand: sort.Search, behind, Has. -/
namespace Go.Proofs.Ytgagkmlkoeceiaa.H
open Go.RowKit

/-- how many spans end at n or ahead of it -/
def behN (n : Int) (l : List Sp) : Nat := (l.takeWhile (fun x => decide (x.2 ≤ n))).length
theorem behN_cons (n : Int) (y : Sp) (l : List Sp) : behN n (y :: l) = if y.2 ≤ n then behN n l + 1 else 0 := by
  unfold behN
  rw [List.takeWhile_cons]
  by_cases h : y.2 ≤ n <;> simp [h]
theorem behN_le (n : Int) : ∀ (l : List Sp), behN n l ≤ l.length
  | [] => Nat.le_refl _
  | y :: l => by
    rw [behN_cons]
    have := behN_le n l
    split <;> simp <;> omega
theorem behN_spec (n : Int) : ∀ (l : List Sp) (b : Int), Norm b l → ∀ (i : Nat) (x : Sp), l[i]? = some x → (x.2 ≤ n ↔ i < behN n l)
  | y :: l, b, hn, i, x, hx => by
    rw [behN_cons]
    by_cases h : y.2 ≤ n
    · rw [if_pos h]
      match i, hx with
      | 0, hx =>
        obtain rfl : y = x := by simpa using hx
        exact ⟨fun _ => by omega, fun _ => h⟩
      | i + 1, hx =>
        have := behN_spec n l _ hn.2.2 i x (by simpa using hx)
        rw [this]; omega
    · rw [if_neg h]
      refine ⟨fun hh => ?_, fun hh => by omega⟩
      match i, hx with
      | 0, hx =>
        obtain rfl : y = x := by simpa using hx
        exact absurd hh h
      | i + 1, hx =>
        have := Norm.ends hn.2.2 x (List.mem_of_getElem? (by simpa using hx))
        omega
def BPost (r : Bool) (w : World) (e : Ending) (w' : World) : Prop := e = .returned (.bool r) ∧ Below w.heap.size w w'
def IPost (r : Int) (w : World) (e : Ending) (w' : World) : Prop := e = .returned (.int .i64 r) ∧ Below w.heap.size w w'
set_option maxRecDepth 100000 in
set_option maxHeartbeats 1000000 in
/-- does the i-th span end behind n? -/
theorem beh1_any (i : Nat) (n x2 : Int) (r : Bool) (hr : decide (n < x2) = r) (ps pn b g off len cap : Nat) (w : World) (hi : i < len) (hl : (len : Int) ≤ 1000000) (h0 : w.cell? ⟨ps, 0, none⟩ = some (.pointer (some ⟨b, 0, none⟩))) (h1 : w.cell? ⟨pn, 0, none⟩ = some (.int .i64 n))
    (h2 : w.cell? ⟨b, 0, none⟩ = some (.slice (some ⟨g, off, none⟩) len cap)) (h3 : w.cell? ⟨g, off + i * 2 + 1, none⟩ = some (.int .i64 x2)) :
    Calls Try.prog 56 #[.int .i64 (i : Int), .pointer (some ⟨ps, 0, none⟩), .pointer (some ⟨pn, 0, none⟩)] w (BPost r w) := by
  obtain ⟨P, hP⟩ : ∃ P, BPost r w = P := ⟨_, rfl⟩
  rw [hP]
  have hend : Hid (∀ d os, P (.returned (.bool r)) (Go.Sort.grow (redrawn w d) os)) := Lib.hid (fun d os => by rw [← hP]; exact ⟨rfl, below_regrown _ _ _⟩)
  clear hP
  have z0 := fun d os => cell_regrown h0 d os
  have z1 := fun d os => cell_regrown h1 d os
  have z2 := fun d os => cell_regrown h2 d os
  have z3 := fun d os => cell_regrown h3 d os
  have hii : (i : Int) < (len : Int) := by omega
  clear h0 h1 h2 h3
  go_enter Try.func56, Try.ntmps56
  go_upto_region 1 with fail
  refine wp_region_quiet_below (by kernel_rfl) (by kernel_rfl) ?_
  repeat (go_big_quiet_step (fail))
  refine wpQuiet_nil ?_
  intro _ hw'
  obtain ⟨⟨dq, osq⟩, hw''⟩ := hw'
  subst hw''
  go_wp2
  exact hend.out _ _
/-- what behind's closure looks at -/
structure BLook (ps pn b : Nat) (n : Int) (M : List Nat) (l : List Sp) (vl : Value) (w : World) : Prop where
  s : SetAt b M l vl w
  c0 : w.cell? ⟨ps, 0, none⟩ = some (.pointer (some ⟨b, 0, none⟩))
  c1 : w.cell? ⟨pn, 0, none⟩ = some (.int .i64 n)
theorem BLook.below {ps pn b : Nat} {n : Int} {M : List Nat} {l : List Sp} {vl : Value} {w w' : World} (h : BLook ps pn b n M l vl w) (hb : Below w.heap.size w w') : BLook ps pn b n M l vl w' :=
  ⟨h.s.below hb, by rw [hb.cell (block_lt_of_cell h.c0)]; exact h.c0, by rw [hb.cell (block_lt_of_cell h.c1)]; exact h.c1⟩
theorem beh1_look {ps pn b : Nat} {n : Int} {M : List Nat} {l : List Sp} {vl : Value} {w : World} {c : Int} (h : BLook ps pn b n M l vl w) (hn : Norm c l) (hl : (l.length : Int) ≤ 1000000) (i : Nat) (hi : i < l.length) (r : Bool) (hr : decide (behN n l ≤ i) = r) :
    Calls Try.prog 56 #[.int .i64 (i : Int), .pointer (some ⟨ps, 0, none⟩), .pointer (some ⟨pn, 0, none⟩)] w (BPost r w) := by
  obtain ⟨a, cp, rfl, hI, hA, -⟩ := h.s.own.shape
  have hx : l[i]? = some l[i] := List.getElem?_eq_getElem hi
  rcases hI.at_ with e | ⟨g, off, rfl, hlt, hat⟩
  · rw [e] at hi; cases hi
  · refine beh1_any i n l[i].2 r ?_ ps pn b g off l.length cp w hi hl h.c0 h.c1 h.s.c0 (hat i _ hx).2
    rw [← hr]
    have := behN_spec n l c hn i _ hx
    rw [decide_eq_decide]
    omega
set_option maxRecDepth 100000 in
set_option maxHeartbeats 1000000 in
theorem search_any {ps pn b : Nat} {n c : Int} {M : List Nat} {l : List Sp} {vl : Value} {w : World} (h : BLook ps pn b n M l vl w) (hn : Norm c l) (hl : (l.length : Int) ≤ 1000000) (N K : Nat) (hN : l.length = N) (hK : behN n l = K) :
    Calls Try.prog 55 #[.int .i64 (N : Int), .func (.func 56) #[] #[.pointer (some ⟨ps, 0, none⟩), .pointer (some ⟨pn, 0, none⟩)]] w (IPost (K : Int) w) := by
  obtain ⟨P, hP⟩ : ∃ P, IPost (K : Int) w = P := ⟨_, rfl⟩
  rw [hP]
  have hKN : K ≤ N := by rw [← hK, ← hN]; exact behN_le n l
  have HEnd : Hid (∀ w', Below w.heap.size w w' → P (.returned (.int .i64 (K : Int))) w') := Lib.hid (fun w' hb => by rw [← hP]; exact ⟨rfl, hb⟩)
  have HC : Hid (∀ (W : World), Below w.heap.size w W → ∀ (i : Nat) (r : Bool), i < N → decide (K ≤ i) = r → Calls Try.prog 56 #[.int .i64 (i : Int), .pointer (some ⟨ps, 0, none⟩), .pointer (some ⟨pn, 0, none⟩)] W (BPost r W)) := Lib.hid (fun W hb i r hi hr => beh1_look (h.below hb) hn hl i (by rw [hN]; exact hi) r (by rw [hK]; exact hr))
  have hNl : (N : Int) ≤ 1000000 := by omega
  clear hP h hn hl hN hK
  go_enter Try.func55, Try.ntmps55
  go_wp2_with fail
  go_loopw [5, 6] (fun i j wr => ∃ lw hh : Nat, i = .int .i64 (lw : Int) ∧ j = .int .i64 (hh : Int) ∧ lw ≤ K ∧ K ≤ hh ∧ hh ≤ N ∧ Hid (Below w.heap.size w wr)) (fun i j _ => (intOf j).toNat - (intOf i).toNat)
  case atStart => exact ⟨0, N, rfl, rfl, by omega, hKN, by omega, Lib.hid (Below.refl _ _)⟩
  case round =>
    rename_i wr
    obtain ⟨lw, hh, rfl, rfl, h1, h2, h3, HB⟩ := hrel
    by_cases hlt : lw < hh
    · obtain ⟨m, hm⟩ : ∃ m, (lw + hh) / 2 = m := ⟨_, rfl⟩
      have hmi : ((lw : Int) + (hh : Int)) / 2 = (m : Int) := by omega
      have hm1 : lw ≤ m ∧ m < hh := by omega
      have HM := Lib.hid hm1
      have hmN : m < N := by omega
      by_cases hk : K ≤ m
      · have hc := HC.out wr HB.out m true hmN (by simpa using hk)
        have HCC := Lib.hid hc
        clear hm hc hm1
        go_wp2_with fail
        refine HCC.out.mono ?_
        rintro e w1 ⟨rfl, hb⟩
        have HB1 := Lib.hid (HB.out.trans (hb.mono HB.out.size))
        clear hb
        go_wp2
        go_roundw
        case rel => exact ⟨lw, m, rfl, rfl, h1, hk, by omega, HB1⟩
        case measure => have := HM.out; simp [intOf]; omega
      · have hc := HC.out wr HB.out m false hmN (by simpa using hk)
        have HCC := Lib.hid hc
        clear hm hc hm1
        go_wp2_with fail
        refine HCC.out.mono ?_
        rintro e w1 ⟨rfl, hb⟩
        have HB1 := Lib.hid (HB.out.trans (hb.mono HB.out.size))
        clear hb
        go_wp2
        go_roundw
        case rel => exact ⟨m + 1, hh, by go_num, rfl, by omega, h2, h3, HB1⟩
        case measure => have := HM.out; simp [intOf]; omega
    · obtain rfl : lw = hh := by have := HB; omega
      obtain rfl : lw = K := by omega
      go_wp2
      exact HEnd.out _ HB.out
set_option maxRecDepth 100000 in
set_option maxHeartbeats 1000000 in
theorem behind_any {b : Nat} {M : List Nat} {l : List Sp} {vl : Value} {w : World} {c : Int} (h : SetAt b M l vl w) (hn : Norm c l) (hl : (l.length : Int) ≤ 1000000) (n : Int) :
    Calls Try.prog 39 #[.pointer (some ⟨b, 0, none⟩), .int .i64 n] w (IPost (behN n l : Int) w) := by
  obtain ⟨P, hP⟩ : ∃ P, IPost (behN n l : Int) w = P := ⟨_, rfl⟩
  rw [hP]
  obtain ⟨N, hN⟩ : ∃ N, l.length = N := ⟨_, rfl⟩
  obtain ⟨K, hK⟩ : ∃ K, behN n l = K := ⟨_, rfl⟩
  obtain ⟨a, cp, rfl, hI, hA, -⟩ := h.own.shape
  have hb2 : Below w.heap.size w ((w.alloc (.cells #[.pointer (some ⟨b, 0, none⟩)] 90)).alloc (.cells #[.int .i64 n] 3)) := ((Below.refl _ _).alloc (Nat.le_refl _) _).alloc (by simp) _
  have hlk : BLook w.heap.size (w.heap.size + 1) b n M l (.slice a l.length cp) ((w.alloc (.cells #[.pointer (some ⟨b, 0, none⟩)] 90)).alloc (.cells #[.int .i64 n] 3)) := ⟨h.below hb2, by simp, by simp⟩
  have hc0 := h.c0
  rw [hN] at hc0
  have HS := Lib.hid (search_any hlk hn hl N K hN hK)
  have HEnd : Hid (∀ w', Below w.heap.size w w' → P (.returned (.int .i64 (K : Int))) w') := Lib.hid (fun w' hb => by rw [← hP, hK]; exact ⟨rfl, hb⟩)
  have HB2 := Lib.hid hb2
  have hbl := h.b_lt
  clear hP h hn hl hN hK hI hA hlk hb2
  go_enter Try.func39, Try.ntmps39
  go_wp2_with fail
  refine HS.out.mono ?_
  rintro e w1 ⟨rfl, hb⟩
  have HB1 := Lib.hid (HB2.out.trans (hb.mono HB2.out.size))
  clear hb
  go_wp2
  exact HEnd.out _ HB1.out
end Go.Proofs.Ytgagkmlkoeceiaa.H
