/- The contracts of snap's small functions: within, drawable, counted, stands, counts; a snap as it is handed on. -/
import Derived.Test.YtohhlhnjopbmhaaGreatDoorMerged3
import Derived.Test.YtohhlhnjopbmhaaGreatDoorMerged12
import Derived.Test.YtohhlhnjopbmhaaGreatDoorMerged11
import Derived.Test.YtohhlhnjopbmhaaGreatDoorBQ
import Derived.BigQuiet
import Derived.Lib.QuietBelow
import Derived.Test.YtohhlhnjopbmhaaGreatDoorMerged0
namespace Go.Proofs.YtohhlhnjopbmhaaGreatDoor.K
open Go.RowKit Go.Proofs.YtohhlhnjopbmhaaGreatDoor.I

theorem within_any (n lo hi : Int) (w : World) : Calls Tryz.prog 64 #[.int .i64 n, .int .i64 lo, .int .i64 hi] w fun e w' => e = .returned (.bool (decide (lo ≤ n ∧ n ≤ hi))) ∧ w = w' := by
  by_cases h1 : lo ≤ n
  · have d1 : decide (lo ≤ n) = true := decide_eq_true h1
    by_cases h2 : n ≤ hi
    · have d2 : decide (n ≤ hi) = true := decide_eq_true h2
      rw [decide_eq_true (show lo ≤ n ∧ n ≤ hi from ⟨h1, h2⟩)]
      clear h1 h2
      go_enter Tryz.func64, Tryz.ntmps64
      go_wp2
      go_ret
      exact ⟨rfl, rfl⟩
    · have d2 : decide (n ≤ hi) = false := decide_eq_false h2
      rw [decide_eq_false (show ¬ (lo ≤ n ∧ n ≤ hi) from fun h => h2 h.2)]
      clear h1 h2
      go_enter Tryz.func64, Tryz.ntmps64
      go_wp2
      go_ret
      exact ⟨rfl, rfl⟩
  · have d1 : decide (lo ≤ n) = false := decide_eq_false h1
    rw [decide_eq_false (show ¬ (lo ≤ n ∧ n ≤ hi) from fun h => h1 h.1)]
    clear h1
    go_enter Tryz.func64, Tryz.ntmps64
    go_wp2
    go_ret
    exact ⟨rfl, rfl⟩
def DrawC (x s : Int) : Prop := (0 ≤ x ∧ x ≤ 1114111) ∧ 0 ≤ s ∧ s ≤ 647
instance (x s : Int) : Decidable (DrawC x s) := by unfold DrawC; exact inferInstance
theorem drawable_any (x s : Int) (hx : -2147483648 ≤ x ∧ x ≤ 2147483647) (w : World) : Calls Tryz.prog 65 #[.int .i32 x, .int .i64 s] w fun e w' => e = .returned (.bool (decide (DrawC x s))) ∧ w = w' := by
  have hw : IntKind.i64.wrap x = x := by rw [IntKind.wrap_i64]; omega
  have H1 := fun w => within_any x 0 1114111 w
  have H2 := fun w => within_any s 0 647 w
  by_cases h1 : 0 ≤ x ∧ x ≤ 1114111
  · have d1 : decide (0 ≤ x ∧ x ≤ 1114111) = true := decide_eq_true h1
    have e : decide (DrawC x s) = decide (0 ≤ s ∧ s ≤ 647) := by unfold DrawC; simp [h1]
    rw [d1] at H1
    rw [e]
    obtain ⟨D, hD⟩ : ∃ D, decide (0 ≤ s ∧ s ≤ 647) = D := ⟨_, rfl⟩
    rw [hD] at H2 ⊢
    have K1 := Lib.hid H1
    have K2 := Lib.hid H2
    clear H1 H2 h1 d1 e hD hx
    go_enter Tryz.func65, Tryz.ntmps65
    go_wp2_with fail
    refine (K1.out _).mono ?_
    rintro e w' ⟨rfl, rfl⟩
    go_wp2_with fail
    refine (K2.out _).mono ?_
    rintro e w' ⟨rfl, rfl⟩
    go_wp2
    all_goals go_ret
    all_goals exact ⟨rfl, rfl⟩
  · have d1 : decide (0 ≤ x ∧ x ≤ 1114111) = false := decide_eq_false h1
    have e : decide (DrawC x s) = false := decide_eq_false (fun h => h1 h.1)
    rw [d1] at H1
    rw [e]
    have K1 := Lib.hid H1
    clear H1 H2 h1 d1 e hx
    go_enter Tryz.func65, Tryz.ntmps65
    go_wp2_with fail
    refine (K1.out _).mono ?_
    rintro e w' ⟨rfl, rfl⟩
    go_wp2
    go_ret
    exact ⟨rfl, rfl⟩
/-- a snap, as it is handed on -/
def snA (s : Sn) (ra : Option Addr) (rn rc : Nat) (ga : Option Addr) (gn gc : Nat) : Array Value := #[.int .i64 s.k, .int .i64 s.w, .int .i64 s.h, .int .i64 s.x, .int .i64 s.y, .string s.t, .slice ra rn rc, .int .i64 s.n, .int .i64 s.c, .slice ga gn gc]
structure SnIn (rk : IntKind) (ra : Option Addr) (rn rc : Nat) (ga : Option Addr) (gn gc : Nat) (s : Sn) (w : World) : Prop where
  rows : RowsL rk [] ra rn rc s.R w
  beg : PairsIn rk ga gn gc s.B w
  nil : ga = none → gc = 0
theorem SnIn.belowAll {rk : IntKind} {ra : Option Addr} {rn rc : Nat} {ga : Option Addr} {gn gc : Nat} {s : Sn} {w w' : World} (h : SnIn rk ra rn rc ga gn gc s w) (hb : Below w.heap.size w w') : SnIn rk ra rn rc ga gn gc s w' := ⟨h.rows.below hb, h.beg.belowAll hb, h.nil⟩
theorem i64_sub1 {z : Int} (h : 1 ≤ z ∧ z ≤ 1000) : IntKind.i64.wrap (z - 1) = z - 1 := by rw [IntKind.wrap_i64]; omega
set_option maxRecDepth 100000 in
set_option maxHeartbeats 4000000 in
theorem stands_any (s : Sn) (ra : Option Addr) (rn rc : Nat) (ga : Option Addr) (gn gc : Nat) (w : World) : Calls Tryz.prog 31 #[.agg (snA s ra rn rc ga gn gc)] w fun e w' => e = .returned (.bool (decide (Stands s))) ∧ Below w.heap.size w w' := by
  obtain ⟨k, W, h, x, y, t, R, n, c, B⟩ := s
  obtain ⟨D, hD⟩ : ∃ D, decide (Stands ⟨k, W, h, x, y, t, R, n, c, B⟩) = D := ⟨_, rfl⟩
  rw [hD]
  have hdef : Stands ⟨k, W, h, x, y, t, R, n, c, B⟩ ↔ (1 ≤ W ∧ W ≤ 1000) ∧ (1 ≤ h ∧ h ≤ 1000) ∧ (0 ≤ x ∧ x ≤ W - 1) ∧ 0 ≤ y ∧ y ≤ h - 1 := Iff.rfl
  have H1 := fun w => within_any W 1 1000 w
  have H2 := fun w => within_any h 1 1000 w
  have H3 := fun w => within_any x 0 (W - 1) w
  have H4 := fun w => within_any y 0 (h - 1) w
  have hbb : Below w.heap.size w (w.alloc (.cells #[.int .i64 k, .int .i64 W, .int .i64 h, .int .i64 x, .int .i64 y, .string t, .slice ra rn rc, .int .i64 n, .int .i64 c, .slice ga gn gc] 25)) := (Below.refl _ _).alloc (Nat.le_refl _) _
  have HB := Lib.hid hbb
  unfold snA
  simp only
  by_cases h1 : 1 ≤ W ∧ W ≤ 1000
  rotate_left
  · rw [decide_eq_false h1] at H1
    rw [decide_eq_false (by rw [hdef]; exact fun h => h1 h.1)] at hD
    subst hD
    have K1 := Lib.hid H1
    clear H1 H2 H3 H4 h1 hdef hbb
    go_enter Tryz.func31, Tryz.ntmps31
    go_wp2_with fail
    refine (K1.out _).mono ?_
    rintro e w' ⟨rfl, rfl⟩
    go_wp2
    go_ret
    exact ⟨rfl, HB.out⟩
  have q1 := i64_sub1 h1
  have b1 : -9223372036854775808 ≤ W - 1 ∧ W - 1 ≤ 9223372036854775807 := by omega
  rw [decide_eq_true h1] at H1
  have K1 := Lib.hid H1
  by_cases h2 : 1 ≤ h ∧ h ≤ 1000
  rotate_left
  · rw [decide_eq_false h2] at H2
    rw [decide_eq_false (by rw [hdef]; exact fun h => h2 h.2.1)] at hD
    subst hD
    have K2 := Lib.hid H2
    clear H1 H2 H3 H4 h1 h2 hdef hbb q1 b1
    go_enter Tryz.func31, Tryz.ntmps31
    go_wp2_with fail
    refine (K1.out _).mono ?_
    rintro e w' ⟨rfl, rfl⟩
    go_wp2_with fail
    refine (K2.out _).mono ?_
    rintro e w' ⟨rfl, rfl⟩
    go_wp2
    go_ret
    exact ⟨rfl, HB.out⟩
  have q2 := i64_sub1 h2
  have b2 : -9223372036854775808 ≤ h - 1 ∧ h - 1 ≤ 9223372036854775807 := by omega
  rw [decide_eq_true h2] at H2
  have K2 := Lib.hid H2
  by_cases h3 : 0 ≤ x ∧ x ≤ W - 1
  rotate_left
  · rw [decide_eq_false h3] at H3
    rw [decide_eq_false (by rw [hdef]; exact fun h => h3 h.2.2.1)] at hD
    subst hD
    have K3 := Lib.hid H3
    clear H1 H2 H3 H4 h1 h2 h3 hdef hbb q2 b2
    go_enter Tryz.func31, Tryz.ntmps31
    go_wp2_with fail
    refine (K1.out _).mono ?_
    rintro e w' ⟨rfl, rfl⟩
    go_wp2_with fail
    refine (K2.out _).mono ?_
    rintro e w' ⟨rfl, rfl⟩
    go_wp2_with fail
    refine (K3.out _).mono ?_
    rintro e w' ⟨rfl, rfl⟩
    go_wp2
    go_ret
    exact ⟨rfl, HB.out⟩
  rw [decide_eq_true h3] at H3
  have K3 := Lib.hid H3
  have he : decide (0 ≤ y ∧ y ≤ h - 1) = D := by rw [← hD]; exact decide_eq_decide.2 (by rw [hdef]; exact ⟨fun hy => ⟨h1, h2, h3, hy⟩, fun hy => hy.2.2.2⟩)
  rw [he] at H4
  have K4 := Lib.hid H4
  clear H1 H2 H3 H4 h1 h2 h3 hdef hbb he hD
  go_enter Tryz.func31, Tryz.ntmps31
  go_wp2_with fail
  refine (K1.out _).mono ?_
  rintro e w' ⟨rfl, rfl⟩
  go_wp2_with fail
  refine (K2.out _).mono ?_
  rintro e w' ⟨rfl, rfl⟩
  go_wp2_with fail
  refine (K3.out _).mono ?_
  rintro e w' ⟨rfl, rfl⟩
  go_wp2_with fail
  refine (K4.out _).mono ?_
  rintro e w' ⟨rfl, rfl⟩
  go_wp2
  all_goals go_ret
  all_goals exact ⟨rfl, HB.out⟩
set_option maxRecDepth 100000 in
set_option maxHeartbeats 4000000 in
theorem counts_any (s : Sn) (ra : Option Addr) (rn rc : Nat) (ga : Option Addr) (gn gc : Nat) (w : World) : Calls Tryz.prog 32 #[.agg (snA s ra rn rc ga gn gc)] w fun e w' => e = .returned (.bool (decide (Counts s))) ∧ Below w.heap.size w w' := by
  obtain ⟨k, W, h, x, y, t, R, n, c, B⟩ := s
  obtain ⟨D, hD⟩ : ∃ D, decide (Counts ⟨k, W, h, x, y, t, R, n, c, B⟩) = D := ⟨_, rfl⟩
  rw [hD]
  have hdef : Counts ⟨k, W, h, x, y, t, R, n, c, B⟩ ↔ (1 ≤ k ∧ k ≤ 1152921504606846976) ∧ (0 ≤ n ∧ n ≤ 1152921504606846976) ∧ (0 ≤ c ∧ c ≤ 281474976710656) ∧ t.size ≤ 200 := Iff.rfl
  have H1 := fun w => within_any k 1 1152921504606846976 w
  have H2 := fun w => within_any n 0 1152921504606846976 w
  have H3 := fun w => within_any c 0 281474976710656 w
  have hbb : Below w.heap.size w (w.alloc (.cells #[.int .i64 k, .int .i64 W, .int .i64 h, .int .i64 x, .int .i64 y, .string t, .slice ra rn rc, .int .i64 n, .int .i64 c, .slice ga gn gc] 25)) := (Below.refl _ _).alloc (Nat.le_refl _) _
  have HB := Lib.hid hbb
  unfold snA
  simp only
  by_cases h1 : 1 ≤ k ∧ k ≤ 1152921504606846976
  rotate_left
  · rw [decide_eq_false h1] at H1
    rw [decide_eq_false (by rw [hdef]; exact fun h => h1 h.1)] at hD
    subst hD
    have K1 := Lib.hid H1
    clear H1 H2 H3 h1 hdef hbb
    go_enter Tryz.func32, Tryz.ntmps32
    go_wp2_with fail
    refine (K1.out _).mono ?_
    rintro e w' ⟨rfl, rfl⟩
    go_wp2
    go_ret
    exact ⟨rfl, HB.out⟩
  rw [decide_eq_true h1] at H1
  have K1 := Lib.hid H1
  by_cases h2 : 0 ≤ n ∧ n ≤ 1152921504606846976
  rotate_left
  · rw [decide_eq_false h2] at H2
    rw [decide_eq_false (by rw [hdef]; exact fun h => h2 h.2.1)] at hD
    subst hD
    have K2 := Lib.hid H2
    clear H1 H2 H3 h1 h2 hdef hbb
    go_enter Tryz.func32, Tryz.ntmps32
    go_wp2_with fail
    refine (K1.out _).mono ?_
    rintro e w' ⟨rfl, rfl⟩
    go_wp2_with fail
    refine (K2.out _).mono ?_
    rintro e w' ⟨rfl, rfl⟩
    go_wp2
    go_ret
    exact ⟨rfl, HB.out⟩
  rw [decide_eq_true h2] at H2
  have K2 := Lib.hid H2
  by_cases h3 : 0 ≤ c ∧ c ≤ 281474976710656
  rotate_left
  · rw [decide_eq_false h3] at H3
    rw [decide_eq_false (by rw [hdef]; exact fun h => h3 h.2.2.1)] at hD
    subst hD
    have K3 := Lib.hid H3
    clear H1 H2 H3 h1 h2 h3 hdef hbb
    go_enter Tryz.func32, Tryz.ntmps32
    go_wp2_with fail
    refine (K1.out _).mono ?_
    rintro e w' ⟨rfl, rfl⟩
    go_wp2_with fail
    refine (K2.out _).mono ?_
    rintro e w' ⟨rfl, rfl⟩
    go_wp2_with fail
    refine (K3.out _).mono ?_
    rintro e w' ⟨rfl, rfl⟩
    go_wp2
    go_ret
    exact ⟨rfl, HB.out⟩
  rw [decide_eq_true h3] at H3
  have K3 := Lib.hid H3
  have he : decide (t.size ≤ 200) = D := by rw [← hD]; exact decide_eq_decide.2 (by rw [hdef]; exact ⟨fun hy => ⟨h1, h2, h3, hy⟩, fun hy => hy.2.2.2⟩)
  have he2 : decide ((t.size : Int) ≤ 200) = D := by rw [← he]; exact decide_eq_decide.2 (by omega)
  clear H1 H2 H3 h1 h2 h3 hdef hbb hD
  go_enter Tryz.func32, Tryz.ntmps32
  go_wp2_with fail
  refine (K1.out _).mono ?_
  rintro e w' ⟨rfl, rfl⟩
  go_wp2_with fail
  refine (K2.out _).mono ?_
  rintro e w' ⟨rfl, rfl⟩
  go_wp2_with fail
  refine (K3.out _).mono ?_
  rintro e w' ⟨rfl, rfl⟩
  cases D
  · go_wp2
    go_ret
    exact ⟨rfl, HB.out⟩
  · go_wp2
    go_ret
    exact ⟨rfl, HB.out⟩
end Go.Proofs.YtohhlhnjopbmhaaGreatDoor.K

/- A book in memory. -/
namespace Go.Proofs.YtohhlhnjopbmhaaGreatDoor.K
open Go.RowKit

/-- a line, as it lies in a block -/
structure Lv where
  a : Option Addr
  n : Nat
  c : Nat
  ch : Nat
def lCells (u : Lv) : List Value := [.slice u.a u.n u.c, .int .i64 (u.ch : Int)]
def flatL (l : List Lv) : List Value := l.flatMap lCells
theorem flatL_get : ∀ (l : List Lv) (i j : Nat) (c : Lv), l[i]? = some c → j < 2 → (flatL l)[i * 2 + j]? = (lCells c)[j]?
  | [], _, _, _, h, _ => by cases h
  | d :: l, 0, j, c, h, hj => by
    obtain rfl : d = c := by simpa using h
    show (lCells d ++ flatL l)[0 * 2 + j]? = _
    rw [List.getElem?_append_left (by simp [lCells]; omega)]
    simp
  | d :: l, i + 1, j, c, h, hj => by
    show (lCells d ++ flatL l)[(i + 1) * 2 + j]? = _
    rw [List.getElem?_append_right (by simp [lCells]; omega)]
    have e : (i + 1) * 2 + j - (lCells d).length = i * 2 + j := by simp [lCells]; omega
    rw [e]
    exact flatL_get l i j c (by simpa using h) hj
/-- lines of our own -/
def OwnL (base : Nat) (v : Value) (l : List Lv) (w : World) : Prop := w.ownsRow base 143 2 v l.length (flatL l)
theorem OwnL.nil (base : Nat) (w : World) : OwnL base (.slice none 0 0) [] w := World.ownsRow_nil _ _ _ _
theorem OwnL.weaken {base base' : Nat} {v : Value} {l : List Lv} {w : World} (h : OwnL base v l w) (hb : base' ≤ base) : OwnL base' v l w := U.weaken h hb
theorem OwnL.own {base : Nat} {v : Value} {l : List Lv} {w : World} (h : OwnL base v l w) : ∀ q, v.ownBlock = some q → base ≤ q ∧ q < w.heap.size ∧ ∃ cs, w.heap[q]? = some (.cells cs 143 (0, 0)) := fun q hq => by
  obtain ⟨cs, h1, h2, h3⟩ := U.own_type h hq
  exact ⟨h2, h3, cs, h1⟩
theorem OwnL.moved {base : Nat} {v : Value} {l : List Lv} {w w' : World} (h : OwnL base v l w) (hv : ∀ q, v.ownBlock = some q → w'.heap[q]? = w.heap[q]?) : OwnL base v l w' := by
  refine ⟨h.1, ?_⟩
  rcases h.2 with h0 | ⟨g', c', cur, he, hbase, hgb, hc, hmx, hsz, ht⟩
  · exact .inl h0
  · exact .inr ⟨g', c', cur, he, hbase, (hv g' (by rw [he]; rfl)).trans hgb, hc, hmx, hsz, ht⟩
theorem OwnL.shape {base : Nat} {v : Value} {l : List Lv} {w : World} (h : OwnL base v l w) : ∃ a c, v = .slice a l.length c ∧ l.length ≤ c ∧ (c : Int) ≤ 9223372036854775807 ∧ (l = [] ∨ ∃ g, a = some ⟨g, 0, none⟩ ∧ g < w.heap.size ∧ ∀ i u, l[i]? = some u → w.cell? ⟨g, 0 + i * 2, none⟩ = some (.slice u.a u.n u.c) ∧ w.cell? ⟨g, 0 + i * 2 + 1, none⟩ = some (.int .i64 (u.ch : Int))) := by
  rcases h.2 with ⟨rfl, h0⟩ | ⟨g, cap, cur, rfl, hbase, hg, hc, hm, hs, ht⟩
  · exact ⟨none, 0, by rw [h0], by omega, by decide, .inl (List.length_eq_zero_iff.1 h0)⟩
  · refine ⟨some ⟨g, 0, none⟩, cap, rfl, hc, by unfold maxLen at hm; omega, .inr ⟨g, rfl, (Array.getElem?_eq_some_iff.1 hg).1, fun i c hi => ?_⟩⟩
    have hil : i < l.length := (List.getElem?_eq_some_iff.1 hi).1
    have hcell : ∀ j, j < 2 → w.cell? ⟨g, 0 + i * 2 + j, none⟩ = (lCells c)[j]? := fun j hj => by
      rw [Nat.zero_add, World.ownsRow.cellAt h (i * 2 + j) (by omega), flatL_get l i j c hi hj]
    exact ⟨hcell 0 (by decide), hcell 1 (by decide)⟩
/-- what the lines' cells are, and the chain of each -/
structure LinesV (us : List Lv) (L : List (List (Int × Int))) (w : World) : Prop where
  len : us.length = L.length
  at_ : ∀ (i : Nat) (u : Lv) (l : List (Int × Int)), us[i]? = some u → L[i]? = some l → PairsIn .i32 u.a u.n u.c l w ∧ (u.a = none → u.c = 0) ∧ u.ch = chainB (L.take (i + 1))
/-- the book of block b; M: the blocks that its calls change -/
structure BoAt (b : Nat) (M N : List Nat) (x : Bk) (vl vb : Value) (us : List Lv) (w : World) : Prop where
  bb : w.heap[b]? = some (.cells #[vl, vb] 104 (0, 0))
  own : OwnL 0 vl us w
  q : OwnQ .i32 86 0 vb x.G w
  lv : LinesV us x.L w
  off : ∀ u ∈ us, ∀ p o, u.a = some ⟨p, o, none⟩ → p ∉ M ∧ p ∉ N
  nt : ∀ q ∈ N, q < w.heap.size
  lt : ∀ u ∈ us, ∀ p o, u.a = some ⟨p, o, none⟩ → p < w.heap.size
  bm : b ∈ M
  lm : ∀ q, vl.ownBlock = some q → q ∈ M
  qm : ∀ q, vb.ownBlock = some q → q ∈ M
  ty : ∀ p ∈ M, p < w.heap.size ∧ ∃ cs T, w.heap[p]? = some (.cells cs T (0, 0)) ∧ (T = 104 ∨ T = 143 ∨ T = 86)
def Bo (b : Nat) (M N : List Nat) (x : Bk) (w : World) : Prop := ∃ vl vb us, BoAt b M N x vl vb us w
theorem PairsIn.blocks {rk : IntKind} {a : Option Addr} {n c : Nat} {gs : List (Int × Int)} {w w' : World} (h : PairsIn rk a n c gs w) (hs : w.heap.size ≤ w'.heap.size) (hk : ∀ b off, a = some ⟨b, off, none⟩ → b < w.heap.size → w'.heap[b]? = w.heap[b]?) : PairsIn rk a n c gs w' := by
  refine ⟨h.len, h.fit, h.top, h.at_.imp id ?_⟩
  rintro ⟨b, off, ha, hl, hi⟩
  have hk' := hk b off ha hl
  exact ⟨b, off, ha, Nat.lt_of_lt_of_le hl hs, fun i u hu => ⟨(World.cell?_of_block (a := ⟨b, off + i * 2, none⟩) hk').trans (hi i u hu).1, (World.cell?_of_block (a := ⟨b, off + i * 2 + 1, none⟩) hk').trans (hi i u hu).2⟩⟩
theorem LinesV.moved {us : List Lv} {L : List (List (Int × Int))} {w w' : World} (h : LinesV us L w) (hs : w.heap.size ≤ w'.heap.size) (hk : ∀ u ∈ us, ∀ b off, u.a = some ⟨b, off, none⟩ → b < w.heap.size → w'.heap[b]? = w.heap[b]?) : LinesV us L w' :=
  ⟨h.len, fun i u l hu hl => by
    obtain ⟨h1, h2, h3⟩ := h.at_ i u l hu hl
    exact ⟨h1.blocks hs (hk u (List.mem_of_getElem? hu)), h2, h3⟩⟩
theorem BoAt.moved {b : Nat} {M N : List Nat} {x : Bk} {vl vb : Value} {us : List Lv} {w w' : World} (h : BoAt b M N x vl vb us w) (hs : w.heap.size ≤ w'.heap.size) (hM : ∀ p ∈ M, w'.heap[p]? = w.heap[p]?) (hk : ∀ u ∈ us, ∀ b off, u.a = some ⟨b, off, none⟩ → b < w.heap.size → w'.heap[b]? = w.heap[b]?) : BoAt b M N x vl vb us w' :=
  ⟨(hM b h.bm).trans h.bb, h.own.moved (fun q hq => hM q (h.lm q hq)), h.q.moved (fun q hq => hM q (h.qm q hq)), h.lv.moved hs hk, h.off, (fun q hq => Nat.lt_of_lt_of_le (h.nt q hq) hs), (fun u hu p o e => Nat.lt_of_lt_of_le (h.lt u hu p o e) hs), h.bm, h.lm, h.qm, fun p hp => by
    obtain ⟨h1, cs, T, h2, h3⟩ := h.ty p hp
    exact ⟨Nat.lt_of_lt_of_le h1 hs, cs, T, (hM p hp).trans h2, h3⟩⟩
theorem Bo.below {b : Nat} {M N : List Nat} {x : Bk} {w w' : World} (h : Bo b M N x w) (hb : Below w.heap.size w w') : Bo b M N x w' := by
  obtain ⟨vl, vb, us, h⟩ := h
  exact ⟨vl, vb, us, h.moved hb.size (fun p hp => hb.block p (h.ty p hp).1) (fun u _ b o _ hl => hb.block b hl)⟩
theorem Bo.lt {b : Nat} {M N : List Nat} {x : Bk} {w : World} (h : Bo b M N x w) : ∀ p ∈ M, p < w.heap.size := by
  obtain ⟨vl, vb, us, h⟩ := h
  exact fun p hp => (h.ty p hp).1
theorem BoAt.c0 {b : Nat} {M N : List Nat} {x : Bk} {vl vb : Value} {us : List Lv} {w : World} (h : BoAt b M N x vl vb us w) : w.cell? ⟨b, 0, none⟩ = some vl := by rw [cell_block h.bb]; rfl
theorem BoAt.c1 {b : Nat} {M N : List Nat} {x : Bk} {vl vb : Value} {us : List Lv} {w : World} (h : BoAt b M N x vl vb us w) : w.cell? ⟨b, 1, none⟩ = some vb := by rw [cell_block h.bb]; rfl
theorem BoAt.fr {b : Nat} {M N : List Nat} {x : Bk} {vl vb : Value} {us : List Lv} {w : World} (h : BoAt b M N x vl vb us w) (o : Nat) : w.frozen? ⟨b, o, none⟩ = false := frozen_block h.bb o
theorem Bo.new (w : World) : Bo w.heap.size [w.heap.size] [] ⟨[], []⟩ (w.alloc (.cells #[.slice none 0 0, .slice none 0 0] 104)) := by
  have hb := heap_alloc_new w (.cells #[.slice none 0 0, .slice none 0 0] 104)
  refine ⟨_, _, [], hb, OwnL.nil _ _, OwnQ.nil _ _ _ _, ⟨rfl, fun i u l h => by cases h⟩, (fun u h => by cases h), (fun q h => by cases h), (fun u h => by cases h), List.mem_singleton.2 rfl, (fun q e => by cases e), (fun q e => by cases e), fun p hp => ?_⟩
  rw [List.mem_singleton.1 hp]
  exact ⟨by simp, _, _, hb, .inl rfl⟩
end Go.Proofs.YtohhlhnjopbmhaaGreatDoor.K

/- The contract of snap's begins: may what is begun be? -/
namespace Go.Proofs.YtohhlhnjopbmhaaGreatDoor.K
open Go.RowKit Go.Proofs.YtohhlhnjopbmhaaGreatDoor.I

theorem take_all {α : Type} (p : α → Prop) (l : List α) (j : Nat) (h : j < l.length) (h1 : ∀ x ∈ l.take j, p x) (h2 : p l[j]) : ∀ x ∈ l.take (j + 1), p x := by
  rw [List.take_succ_eq_append_getElem h]
  intro x hx
  rcases List.mem_append.1 hx with hx | hx
  · exact h1 x hx
  · rw [List.mem_singleton.1 hx]; exact h2
set_option maxRecDepth 100000 in
set_option maxHeartbeats 8000000 in
theorem begins_any (s : Sn) (ra : Option Addr) (rn rc : Nat) (ga : Option Addr) (gn gc : Nat) (w : World) (hI : PairsIn .i32 ga gn gc s.B w) (hr : ∀ g ∈ s.B, -2147483648 ≤ g.1 ∧ g.1 ≤ 2147483647) :
    Calls Tryz.prog 34 #[.agg (snA s ra rn rc ga gn gc)] w fun e w' => e = .returned (.bool (decide (Begins s))) ∧ Below w.heap.size w w' := by
  obtain ⟨k, W, h, x, y, t, R, n, c, B⟩ := s
  simp only at hI hr
  obtain ⟨rb, hrb⟩ : ∃ rb, w.heap.size = rb := ⟨_, rfl⟩
  rw [hrb]
  obtain ⟨D, hD⟩ : ∃ D, decide (Begins ⟨k, W, h, x, y, t, R, n, c, B⟩) = D := ⟨_, rfl⟩
  rw [hD]
  have hdef : Begins ⟨k, W, h, x, y, t, R, n, c, B⟩ ↔ (∀ g ∈ B, DrawC g.1 g.2) ∧ B.length ≤ 1024 := Iff.rfl
  obtain ⟨P, hP⟩ : ∃ P : Ending → World → Prop, (fun e w' => e = .returned (.bool D) ∧ Below rb w w') = P := ⟨_, rfl⟩
  rw [hP]
  have HP := Lib.hid hP
  have HD : Hid (∀ b, (Begins ⟨k, W, h, x, y, t, R, n, c, B⟩ ↔ b = true) → D = b) := Lib.hid (fun b hb => by rw [← hD]; cases b <;> simp_all)
  have HDef := Lib.hid hdef
  have HLn := Lib.hid hI.len
  have HRb := Lib.hid hrb
  have HI := Lib.hid hI
  have HRg := Lib.hid hr
  unfold snA
  simp only
  obtain ⟨w1, hw1⟩ : ∃ w1, w.alloc (.cells #[.int .i64 k, .int .i64 W, .int .i64 h, .int .i64 x, .int .i64 y, .string t, .slice ra rn rc, .int .i64 n, .int .i64 c, .slice ga gn gc] 25) = w1 := ⟨_, rfl⟩
  have hb1 : Below rb w w1 := by rw [← hw1, ← hrb]; exact (Below.refl _ _).alloc (Nat.le_refl _) _
  have hk1 : w1.heap[rb]? = some (.cells #[.int .i64 k, .int .i64 W, .int .i64 h, .int .i64 x, .int .i64 y, .string t, .slice ra rn rc, .int .i64 n, .int .i64 c, .slice ga gn gc] 25 (0, 0)) := by rw [← hw1, ← hrb]; exact heap_alloc_new w _
  have c9 : w1.cell? ⟨rb, 9, none⟩ = some (.slice ga gn gc) := by rw [cell_block hk1]; rfl
  have HB1 := Lib.hid hb1
  have HC9 := Lib.hid c9
  have HS1 : Hid (rb < w1.heap.size) := Lib.hid (Array.getElem?_eq_some_iff.1 hk1).1
  have HW1 := Lib.hid hw1
  have hnI : (gn : Int) ≤ 9223372036854775807 := by have h1 := hI.fit; have h2 := hI.top; omega
  clear hP hD hdef hI hr hb1 hk1 hw1 hrb
  go_enter Tryz.func34, Tryz.ntmps34
  go_upto_region 1 with fail
  rw [HW1.out, HRb.out]
  go_wp2_with fail
  clear c9
  go_loopw [8] (fun i wr => ∃ j : Nat, i = .int .i64 (j : Int) ∧ j ≤ gn ∧ Hid ((∀ g ∈ B.take j, DrawC g.1 g.2) ∧ Below rb w wr ∧ wr.cell? ⟨rb, 9, none⟩ = some (.slice ga gn gc) ∧ rb < wr.heap.size)) (fun i _ => gn - (intOf i).toNat)
  case atStart => exact ⟨0, rfl, Nat.zero_le _, Lib.hid ⟨by simp, HB1.out, HC9.out, HS1.out⟩⟩
  case round =>
    obtain ⟨j, rfl, hj, HF⟩ := hrel
    by_cases hlt : j < gn
    · have hd : decide (j < gn) = true := decide_eq_true hlt
      have hjI : (j : Int) < gn := by omega
      have hjl : j < B.length := by rw [← HLn.out]; exact hlt
      obtain ⟨b, off, rfl, hbl, hAt⟩ := HI.out.at_.resolve_left (by intro e; rw [e] at hjl; simp at hjl)
      have hat := hAt j B[j] (List.getElem?_eq_getElem hjl)
      have hrg := HRg.out B[j] (List.getElem_mem hjl)
      have htk := take_all (fun g : Int × Int => DrawC g.1 g.2) B j hjl HF.out.1
      have hmem := List.getElem_mem hjl
      obtain ⟨⟨gx, gs⟩, hx⟩ : ∃ g, B[j] = g := ⟨_, rfl⟩
      rw [hx] at hat hrg htk hmem
      simp only at hat hrg htk
      have hbr : b < rb := by rw [← HRb.out]; exact hbl
      have k0 : wr.cell? ⟨b, off + j * 2, none⟩ = some (.int .i32 gx) := (HF.out.2.1.cell (p := ⟨b, off + j * 2, none⟩) hbr).trans hat.1
      have k1 : wr.cell? ⟨b, off + j * 2 + 1, none⟩ = some (.int .i64 gs) := (HF.out.2.1.cell (p := ⟨b, off + j * 2 + 1, none⟩) hbr).trans hat.2
      obtain ⟨gb, hgb⟩ : ∃ gb, wr.heap.size = gb := ⟨_, rfl⟩
      obtain ⟨w5, hw5⟩ : ∃ w5, wr.alloc (.cells #[.int .i32 gx, .int .i64 gs] 86) = w5 := ⟨_, rfl⟩
      have hnew : w5.heap[gb]? = some (.cells #[.int .i32 gx, .int .i64 gs] 86 (0, 0)) := by rw [← hw5, ← hgb]; exact heap_alloc_new wr _
      have m0 : w5.cell? ⟨gb, 0, none⟩ = some (.int .i32 gx) := by rw [cell_block hnew]; rfl
      have m1 : w5.cell? ⟨gb, 1, none⟩ = some (.int .i64 gs) := by rw [cell_block hnew]; rfl
      have hb5 : Below wr.heap.size wr w5 := by rw [← hw5]; exact (Below.refl _ _).alloc (Nat.le_refl _) _
      have hF5 : Below rb w w5 := HF.out.2.1.trans (hb5.mono (by have := HF.out.2.2.2; omega))
      have hc5 : w5.cell? ⟨rb, 9, none⟩ = some (.slice (some ⟨b, off, none⟩) gn gc) := (hb5.cell (p := ⟨rb, 9, none⟩) HF.out.2.2.2).trans HF.out.2.2.1
      have hs5 : rb < w5.heap.size := Nat.lt_of_lt_of_le HF.out.2.2.2 hb5.size
      have HN := Lib.hid (drawable_any gx gs hrg w5)
      have HW5 := Lib.hid hw5
      have HGb := Lib.hid hgb
      have HTk := Lib.hid htk
      have H5 : Hid (Below rb w w5 ∧ w5.cell? ⟨rb, 9, none⟩ = some (.slice (some ⟨b, off, none⟩) gn gc) ∧ rb < w5.heap.size) := Lib.hid ⟨hF5, hc5, hs5⟩
      by_cases hdr : DrawC gx gs
      · rw [decide_eq_true hdr] at HN
        have HE : Hid ((∀ g ∈ B.take (j + 1), DrawC g.1 g.2) ∧ Below rb w w5 ∧ w5.cell? ⟨rb, 9, none⟩ = some (.slice (some ⟨b, off, none⟩) gn gc) ∧ rb < w5.heap.size) := Lib.hid ⟨HTk.out hdr, H5.out⟩
        clear hjl hAt hat hrg htk hmem hx hbl hbr hgb hw5 hnew hb5 hF5 hc5 hs5 hdr HF
        go_upto_region 4 with fail
        rw [HW5.out, HGb.out]
        clear k0 k1
        go_wp2_with fail
        refine HN.out.mono ?_
        rintro e w6 ⟨rfl, rfl⟩
        go_wp2_with fail
        go_roundw
        case rel => exact ⟨j + 1, by go_num, by omega, HE⟩
        case measure => simp [intOf]; omega
      · rw [decide_eq_false hdr] at HN
        have hend : Hid (P (.returned (.bool false)) w5) := Lib.hid (by
          rw [← HP.out]
          refine ⟨?_, H5.out.1⟩
          rw [HD.out false (by rw [HDef.out]; exact ⟨fun h => absurd (h.1 _ hmem) hdr, fun h => by cases h⟩)])
        clear hjl hAt hat hrg htk hmem hx hbl hbr hgb hw5 hnew hb5 hF5 hc5 hs5 hdr HF
        go_upto_region 4 with fail
        rw [HW5.out, HGb.out]
        clear k0 k1
        go_wp2_with fail
        refine HN.out.mono ?_
        rintro e w6 ⟨rfl, rfl⟩
        go_wp2_with fail
        exact hend.out
    · obtain rfl : j = gn := by omega
      have hd : decide (j < j) = false := by simp
      have c9 := HF.out.2.2.1
      have hall : ∀ g ∈ B, DrawC g.1 g.2 := by have := HF.out.1; rw [HLn.out, List.take_length] at this; exact this
      have he : decide ((j : Int) ≤ 1024) = D := by
        symm
        refine HD.out _ ?_
        rw [HDef.out, decide_eq_true_iff]
        exact ⟨fun h => by have := h.2; have := HLn.out; omega, fun h => ⟨hall, by have := HLn.out; omega⟩⟩
      have hend : Hid (P (.returned (.bool D)) wr) := Lib.hid (by rw [← HP.out]; exact ⟨rfl, HF.out.2.1⟩)
      clear HF hall hlt
      cases D
      · go_wp2_with fail
        exact hend.out
      · go_wp2_with fail
        exact hend.out
end Go.Proofs.YtohhlhnjopbmhaaGreatDoor.K
