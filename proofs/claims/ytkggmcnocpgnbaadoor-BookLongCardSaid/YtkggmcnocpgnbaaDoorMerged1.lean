/- A row that is a struct in memory, or a result; the document's near and Blank. -/
import Derived.Test.YtkggmcnocpgnbaaDoorKApp
import Derived.Laws.ResultCell
import Derived.RangeFuncBox
import Derived.Deep.Cut
import Derived.Deep.CutBlock
import Derived.Deep.DeepCutAuto
import Derived.Lib.MinMax
namespace Go.Proofs.YtkggmcnocpgnbaaDoor.K
open Go.RowKit

theorem results_cell {fn : Func} {p : Tmp} {ty : TypeId} (h : fn.results = #[.cell p ty]) (tmps : Array Value) (P : Program) (w : World) :
    (results fn tmps).run P w = ((asAddr (tmps.getD p undef)).run P w).andThen fun a w₁ => (loadVar ty a).run P w₁ := by
  simp only [results, h]
  simp [Sem.run_bind, Result.andThen]
theorem refT : CelT .i64 36 107 24 := ⟨Tryd.underlying36, by kernel_rfl, by decide⟩
theorem rowT : CelT .i32 25 105 24 := ⟨Tryd.underlying25, by kernel_rfl, by decide⟩
/-- a row in a block -/
def RoB (t : TypeId) (p : Nat) (v : Value) (b : Bool) (w : World) : Prop := w.heap[p]? = some (.cells #[v, .bool b] t (0, 0))
theorem RoB.new (t : TypeId) (w : World) (v : Value) (b : Bool) : RoB t w.heap.size v b (w.alloc (.cells #[v, .bool b] t)) := World.alloc_heap_new w _
theorem RoB.lt {t : TypeId} {p : Nat} {v : Value} {b : Bool} {w : World} (h : RoB t p v b w) : p < w.heap.size := (Array.getElem?_eq_some_iff.1 h).1
theorem RoB.c0 {t : TypeId} {p : Nat} {v : Value} {b : Bool} {w : World} (h : RoB t p v b w) : w.cell? ⟨p, 0, none⟩ = some v := by simp [World.cell?, show w.heap[p]? = _ from h]
theorem RoB.c1 {t : TypeId} {p : Nat} {v : Value} {b : Bool} {w : World} (h : RoB t p v b w) : w.cell? ⟨p, 1, none⟩ = some (.bool b) := by simp [World.cell?, show w.heap[p]? = _ from h]
theorem RoB.fr {t : TypeId} {p : Nat} {v : Value} {b : Bool} {w : World} (h : RoB t p v b w) (o : Nat) : w.frozen? ⟨p, o, none⟩ = false := by simp [World.frozen?, show w.heap[p]? = _ from h]
theorem RoB.below {t : TypeId} {p : Nat} {v : Value} {b : Bool} {w w' : World} {B : Nat} (h : RoB t p v b w) (hb : Below B w w') (hp : p < B) : RoB t p v b w' := (hb.block p hp).trans h
theorem RoB.belowAll {t : TypeId} {p : Nat} {v : Value} {b : Bool} {w w' : World} (h : RoB t p v b w) (hb : Below w.heap.size w w') : RoB t p v b w' := h.below hb h.lt
theorem RoB.grown {t : TypeId} {p : Nat} {v : Value} {b : Bool} {w w' : World} {row : Option Nat} (h : RoB t p v b w) (hg : w.grownBy w' row) (hne : row ≠ some p) : RoB t p v b w' := (hg.block p h.lt (fun e => hne e.symm)).trans h
theorem below_set2 {base p : Nat} {w0 w : World} {v : Value} {b : Bool} (h : Below base w0 w) (hp : base ≤ p) : Below base w0 ((w.setCell ⟨p, 0, none⟩ v).setCell ⟨p, 1, none⟩ (.bool b)) :=
  (h.setCell (p := ⟨p, 0, none⟩) hp _).setCell (p := ⟨p, 1, none⟩) hp _
/-- what a call answers that makes a row -/
def RowPost (rk : IntKind) (T : TypeId) (base : Nat) (l : List Cel) (b : Bool) (w : World) (e : Ending) (w' : World) : Prop := ∃ v, e = .returned (.agg #[v, .bool b]) ∧ OwnC rk T base v l w' ∧ Below base w w'
theorem OwnC.lit (rk : IntKind) (T : TypeId) (w : World) (base : Nat) (hb : base ≤ w.heap.size) : OwnC rk T base (.slice (some ⟨w.heap.size, 0, none⟩) 0 0) [] (w.alloc (.cells #[] T)) := World.ownsRow_lit w #[] 0 hb (by decide) rfl
theorem OwnC.set2 {rk : IntKind} {T : TypeId} {base : Nat} {v : Value} {l : List Cel} {w : World} (h : OwnC rk T base v l w) {p : Nat} (hp : p < base) (v0 v1 : Value) : OwnC rk T base v l ((w.setCell ⟨p, 0, none⟩ v0).setCell ⟨p, 1, none⟩ v1) := by
  have g1 : ∀ (u : World) (o : Nat) (x : Value), u.grownBy (u.setCell ⟨p, o, none⟩ x) (some p) := fun u o x => ⟨rfl, rfl, rfl, (KeepsWalks.setCell u _ x).size, fun i _ hi => Below.heap_setCell _ _ _ i (fun e => hi (by rw [e]))⟩
  have hne : ∀ {u : World}, OwnC rk T base v l u → ∀ q, v.ownBlock = some q → some p ≠ some q := fun hu q hq e => by have := (hu.ownBlock q hq).1; have := Option.some.inj e; omega
  have h1 := h.kept (g1 w 0 v0) (hne h)
  exact h1.kept (g1 _ 1 v1) (hne h1)

def nearI (n lo hi : Int) : Int := if n < lo then lo else if hi < n then hi else n
theorem nearI_N (n : Int) : nearI n 0 1000 = (nearN n : Int) := by
  unfold nearI nearN
  split
  · omega
  · split <;> omega
theorem near_any (n lo hi : Int) (w : World) : Calls Tryd.prog 93 #[.int .i64 n, .int .i64 lo, .int .i64 hi] w fun e w' => e = .returned (.int .i64 (nearI n lo hi)) ∧ w = w' := by
  unfold nearI
  by_cases h1 : n < lo
  · rw [if_pos h1]
    go_enter Tryd.func93, Tryd.ntmps93
    go_wp2
    go_ret
    exact ⟨rfl, rfl⟩
  · rw [if_neg h1]
    by_cases h2 : hi < n
    · rw [if_pos h2]
      go_enter Tryd.func93, Tryd.ntmps93
      go_wp2
      go_ret
      exact ⟨rfl, rfl⟩
    · rw [if_neg h2]
      go_enter Tryd.func93, Tryd.ntmps93
      go_wp2
      go_ret
      exact ⟨rfl, rfl⟩
theorem blanks_succ (n : Nat) (s : Int) : blanks (n + 1) s = blanks n s ++ [blk s] := List.replicate_succ'

set_option maxRecDepth 100000 in
set_option maxHeartbeats 4000000 in
theorem refBlank_any (n s : Int) (w : World) : Calls Tryd.prog 65 #[.int .i64 n, .int .i64 s] w (RowPost .i64 107 w.heap.size (blanks (nearN n) s) false w) := by
  obtain ⟨rb, hrb⟩ : ∃ rb, w.heap.size = rb := ⟨_, rfl⟩
  rw [hrb]
  obtain ⟨N, hN⟩ : ∃ N, nearN n = N := ⟨_, rfl⟩
  have hN1 : N ≤ 1000 := by rw [← hN]; exact nearN_le n
  obtain ⟨P, hP⟩ : ∃ P, RowPost .i64 107 rb (blanks N s) false w = P := ⟨_, rfl⟩
  rw [hN, hP]
  have HP := Lib.hid hP
  have HNear := Lib.hid (fun (v : World) => near_any n 0 1000 v)
  rw [nearI_N, hN] at HNear
  obtain ⟨w1, hw1⟩ : ∃ w1, w.alloc (.cells #[.slice none 0 0, .bool false] 38) = w1 := ⟨_, rfl⟩
  obtain ⟨w2, hw2⟩ : ∃ w2, w1.alloc (.cells #[] 107) = w2 := ⟨_, rfl⟩
  have hb1 : Below rb w w1 := by rw [← hw1, ← hrb]; exact (Below.refl _ _).alloc (Nat.le_refl _) _
  have hr1 : RoB 38 rb (.slice none 0 0) false w1 := by rw [← hw1, ← hrb]; exact RoB.new _ _ _ _
  have hs1 : w1.heap.size = rb + 1 := by rw [← hw1, World.size_alloc, hrb]
  have hb2 : Below rb w w2 := by rw [← hw2]; exact hb1.alloc (by omega) _
  have hr2 : RoB 38 rb (.slice none 0 0) false w2 := by rw [← hw2]; exact hr1.belowAll ((Below.refl _ _).alloc (Nat.le_refl _) _)
  have ho2 : OwnC .i64 107 (rb + 1) (.slice (some ⟨rb + 1, 0, none⟩) 0 0) (blanks 0 s) w2 := by
    have h := OwnC.lit .i64 107 w1 (rb + 1) (by omega)
    rw [hs1, hw2] at h
    exact h
  have HB2 := Lib.hid hb2
  have HR2 := Lib.hid hr2
  have HO2 := Lib.hid ho2
  have hlt2 : rb + 1 ≤ w2.heap.size := hr2.lt
  have HW1 := Lib.hid hw1
  have HW2 := Lib.hid hw2
  have HRb := Lib.hid hrb
  have HS1 := Lib.hid hs1
  clear hP hN hw1 hw2 hb1 hr1 hs1 hb2 hr2 ho2 hrb
  go_enter Tryd.func65, Tryd.ntmps65
  go_upto_region 1 with fail
  rw [HW1.out, HRb.out]
  go_upto_region 2 with fail
  rw [HW2.out, HS1.out]
  go_wp2_with fail
  go_loopw [5, 6] (fun o i wr => ∃ j : Nat, i = .int .i64 (j : Int) ∧ j ≤ N ∧ rb + 1 ≤ wr.heap.size ∧ Hid (Below rb w wr ∧ OwnC .i64 107 (rb + 1) o (blanks j s) wr ∧ RoB 38 rb (.slice none 0 0) false wr)) (fun _ i _ => N - (intOf i).toNat)
  case atStart => exact ⟨0, rfl, by omega, hlt2, Lib.hid ⟨HB2.out, HO2.out, HR2.out⟩⟩
  case round =>
    obtain ⟨j, rfl, hj, hlw, HI⟩ := hrel
    by_cases hlt : j < N
    · have hd : decide (j < N) = true := by simp; omega
      have HLen : Hid (((blanks j s).length : Int) ≤ 1000000) := Lib.hid (by rw [blanks_length]; omega)
      go_wp2_with (first | (go_at_call 93; refine (HNear.out _).mono ?_; rintro e w' ⟨rfl, rfl⟩) | (refine wpList_add_cell refT (rb + 1) _ (blanks j s) (blk s) rfl rfl rfl HI.out.2.1 HLen.out hlw ?_))
      intro v' w' hown hbel hlw'
      have HI' : Hid (Below rb w w' ∧ OwnC .i64 107 (rb + 1) v' (blanks (j + 1) s) w' ∧ RoB 38 rb (.slice none 0 0) false w') := Lib.hid ⟨(HI.out.1.trans ((hbel wr (Below.refl _ _)).mono (by omega))), by rw [blanks_succ]; exact hown, HI.out.2.2.below (hbel wr (Below.refl _ _)) (by omega)⟩
      clear hown hbel
      go_wp2
      go_roundw
      case rel => exact ⟨j + 1, by go_num, by omega, hlw', HI'⟩
      case measure => simp [intOf]; omega
    · obtain rfl : j = N := by omega
      have hd : decide (j < j) = false := by simp
      obtain ⟨a5, c5, he, -⟩ := HI.out.2.1.shape
      obtain ⟨n5, hn5⟩ : ∃ n5, (blanks j s).length = n5 := ⟨_, rfl⟩
      rw [hn5] at he
      subst he
      clear hn5
      have c0 := HI.out.2.2.c0
      have c1 := HI.out.2.2.c1
      have f0 := HI.out.2.2.fr 0
      have f1 := HI.out.2.2.fr 1
      go_wp2_with (go_at_call 93; refine (HNear.out _).mono ?_; rintro e w' ⟨rfl, rfl⟩)
      refine bodyPost_ret (v := .agg #[.slice a5 n5 c5, .bool false]) (by rw [results_cell (fn := Tryd.f65) rfl]; go_simp <;> rfl) rfl ?_
      rw [← HP.out]
      exact ⟨_, rfl, (HI.out.2.1.set2 (Nat.lt_succ_self rb) _ _).weaken (by omega), below_set2 HI.out.1 (Nat.le_refl _)⟩
end Go.Proofs.YtkggmcnocpgnbaaDoor.K

/- Pairs of numbers (a rune, and how it looks) in memory; append of one. -/
namespace Go.Proofs.YtkggmcnocpgnbaaDoor.K
open Go.RowKit

def pCells (rk : IntKind) (g : Int × Int) : List Value := [.int rk g.1, .int .i64 g.2]
def flatP (rk : IntKind) (l : List (Int × Int)) : List Value := l.flatMap (pCells rk)
theorem flatP_len (rk : IntKind) (l : List (Int × Int)) : (flatP rk l).length = l.length * 2 := by
  induction l with
  | nil => rfl
  | cons c l ih => simp [flatP, List.flatMap_cons, pCells] at ih ⊢; omega
theorem flatP_append (rk : IntKind) (a b : List (Int × Int)) : flatP rk (a ++ b) = flatP rk a ++ flatP rk b := List.flatMap_append ..
theorem flatP_get (rk : IntKind) : ∀ (l : List (Int × Int)) (i j : Nat) (c : Int × Int), l[i]? = some c → j < 2 → (flatP rk l)[i * 2 + j]? = (pCells rk c)[j]?
  | [], _, _, _, h, _ => by cases h
  | d :: l, 0, j, c, h, hj => by
    obtain rfl : d = c := by simpa using h
    show (pCells rk d ++ flatP rk l)[0 * 2 + j]? = _
    rw [List.getElem?_append_left (by simp [pCells]; omega)]
    simp
  | d :: l, i + 1, j, c, h, hj => by
    show (pCells rk d ++ flatP rk l)[(i + 1) * 2 + j]? = _
    rw [List.getElem?_append_right (by simp [pCells]; omega)]
    have e : (i + 1) * 2 + j - (pCells rk d).length = i * 2 + j := by simp [pCells]; omega
    rw [e]
    exact flatP_get rk l i j c (by simpa using h) hj
theorem flatP_one (rk : IntKind) (l : List (Int × Int)) : ∀ u ∈ flatP rk l, u.oneCell' = true := by
  intro u hu
  obtain ⟨c, _, hu⟩ := List.mem_flatMap.1 hu
  simp only [pCells, List.mem_cons, List.not_mem_nil, or_false] at hu
  rcases hu with rfl | rfl <;> rfl
/-- pairs of our own -/
def OwnP (rk : IntKind) (T : TypeId) (base : Nat) (v : Value) (l : List (Int × Int)) (w : World) : Prop := w.ownsRow base T 2 v l.length (flatP rk l)
theorem OwnP.nil (rk : IntKind) (T : TypeId) (base : Nat) (w : World) : OwnP rk T base (.slice none 0 0) [] w := World.ownsRow_nil _ _ _ _
theorem OwnP.belowAll {rk : IntKind} {T : TypeId} {base : Nat} {v : Value} {l : List (Int × Int)} {w w' : World} (h : OwnP rk T base v l w) (hb : Below w.heap.size w w') : OwnP rk T base v l w' := U.belowAll h hb
theorem OwnP.alloc {rk : IntKind} {T : TypeId} {base : Nat} {v : Value} {l : List (Int × Int)} {w : World} (h : OwnP rk T base v l w) (o : Obj) : OwnP rk T base v l (w.alloc o) := h.belowAll ((Below.refl _ _).alloc (Nat.le_refl _) o)
theorem OwnP.weaken {rk : IntKind} {T : TypeId} {base base' : Nat} {v : Value} {l : List (Int × Int)} {w : World} (h : OwnP rk T base v l w) (hb : base' ≤ base) : OwnP rk T base' v l w := U.weaken h hb
theorem OwnP.ownBlock {rk : IntKind} {T : TypeId} {base : Nat} {v : Value} {l : List (Int × Int)} {w : World} (h : OwnP rk T base v l w) : ∀ q, v.ownBlock = some q → base ≤ q ∧ q < w.heap.size := fun q hq => ⟨(U.own_type h hq).choose_spec.2.1, (U.own_type h hq).choose_spec.2.2⟩
theorem OwnP.lit (rk : IntKind) (T : TypeId) (w : World) (base : Nat) (hb : base ≤ w.heap.size) : OwnP rk T base (.slice (some ⟨w.heap.size, 0, none⟩) 0 0) [] (w.alloc (.cells #[] T)) := World.ownsRow_lit w #[] 0 hb (by decide) rfl
/-- a slice of pairs -/
structure PairsIn (rk : IntKind) (a : Option Addr) (n c : Nat) (gs : List (Int × Int)) (w : World) : Prop where
  len : n = gs.length
  fit : n ≤ c
  top : (c : Int) ≤ 9223372036854775807
  at_ : gs = [] ∨ ∃ b off, a = some ⟨b, off, none⟩ ∧ b < w.heap.size ∧ ∀ i g, gs[i]? = some g → w.cell? ⟨b, off + i * 2, none⟩ = some (.int rk g.1) ∧ w.cell? ⟨b, off + i * 2 + 1, none⟩ = some (.int .i64 g.2)
theorem PairsIn.belowAll {rk : IntKind} {a : Option Addr} {n c : Nat} {gs : List (Int × Int)} {w w' : World} (h : PairsIn rk a n c gs w) (hb : Below w.heap.size w w') : PairsIn rk a n c gs w' := by
  refine ⟨h.len, h.fit, h.top, h.at_.imp id ?_⟩
  rintro ⟨b, off, ha, hl, hi⟩
  exact ⟨b, off, ha, Nat.lt_of_lt_of_le hl hb.size, fun i g hg => ⟨(hb.cell (p := ⟨b, off + i * 2, none⟩) hl).trans (hi i g hg).1, (hb.cell (p := ⟨b, off + i * 2 + 1, none⟩) hl).trans (hi i g hg).2⟩⟩
theorem OwnP.shape {rk : IntKind} {T : TypeId} {base : Nat} {v : Value} {l : List (Int × Int)} {w : World} (h : OwnP rk T base v l w) : ∃ a c, v = .slice a l.length c ∧ PairsIn rk a l.length c l w ∧ (∀ b off, a = some ⟨b, off, none⟩ → base ≤ b ∧ b < w.heap.size ∧ off = 0) ∧ (a = none → c = 0) := by
  rcases h.2 with ⟨rfl, h0⟩ | ⟨g, cap, cur, rfl, hbase, hg, hc, hm, hs, ht⟩
  · exact ⟨none, 0, by rw [h0], ⟨rfl, by omega, by decide, .inl (List.length_eq_zero_iff.1 h0)⟩, (fun _ _ e => by cases e), fun _ => rfl⟩
  · have hlt := (Array.getElem?_eq_some_iff.1 hg).1
    refine ⟨some ⟨g, 0, none⟩, cap, rfl, ⟨rfl, hc, by unfold maxLen at hm; omega, .inr ⟨g, 0, rfl, hlt, fun i c hi => ?_⟩⟩, (fun b off e => by cases e; exact ⟨hbase, hlt, rfl⟩), (fun e => by cases e)⟩
    have hil : i < l.length := (List.getElem?_eq_some_iff.1 hi).1
    have hcell : ∀ j, j < 2 → w.cell? ⟨g, 0 + i * 2 + j, none⟩ = (pCells rk c)[j]? := fun j hj => by
      rw [Nat.zero_add, World.ownsRow.cellAt h (i * 2 + j) (by omega), flatP_get rk l i j c hi hj]
    exact ⟨hcell 0 (by decide), hcell 1 (by decide)⟩
theorem OwnP.kept {rk : IntKind} {T : TypeId} {base : Nat} {v : Value} {l : List (Int × Int)} {w w' : World} {row : Option Nat} (h : OwnP rk T base v l w) (hg : w.grownBy w' row) (hne : ∀ q, v.ownBlock = some q → row ≠ some q) : OwnP rk T base v l w' := U.kept_apart h hg hne
/-- t is a slice of the pairs T -/
structure PairT (rk : IntKind) (t T : TypeId) (bytes : Nat) : Prop where
  slice : Tryd.prog.underlying t = some (.slice T)
  info : (Tryd.prog.info? T).map (fun i => (i.zero, i.size, i.bytes)) = some (some (.agg #[.int rk 0, .int .i64 0]), 2, bytes)
  small : bytes ≤ 24
theorem gluT : PairT .i32 40 61 16 := ⟨Tryd.underlying40, by kernel_rfl, by decide⟩
theorem refGluT : PairT .i64 30 63 16 := ⟨Tryd.underlying30, by kernel_rfl, by decide⟩
/-- append of a slice of one pair -/
theorem wpList_append_pair {rk : IntKind} {t T : TypeId} {bytes : Nat} (hI : PairT rk t T bytes) {ops : Array Oper} {rest : List Oper} {o : Oper} {z : Act} {w : World} {Q : Exit → Act → World → Prop} (hgd : o.guard = none) (s x : Operand)
    (ho : o.op = .call { callee := .builtin .append, args := #[s, x], argTypes := #[t, t] }) (hty : o.type = t)
    (base : Nat) (v : Value) (l : List (Int × Int)) (c : Int × Int) (p : Nat) (hs : z.eval s = v) (hxv : z.eval x = .slice (some ⟨p, 0, none⟩) 1 1) (hown : OwnP rk T base v l w)
    (h0 : w.cell? ⟨p, 0, none⟩ = some (.int rk c.1)) (h1 : w.cell? ⟨p, 1, none⟩ = some (.int .i64 c.2)) (hl : (l.length : Int) ≤ 1000000) (hbase : base ≤ w.heap.size)
    (hK : ∀ v' w', OwnP rk T base v' (l ++ [c]) w' → w.grownBy w' v.ownBlock → wpList Tryd.prog ops Q rest (z.put o.dst v') w') : wpList Tryd.prog ops Q (o :: rest) z w :=
  wpList_plain hgd fun _ hK' => by
    obtain ⟨i0, hi, hz0, hz1, hz2⟩ := info_parts hI.info
    have hb := hI.small
    have hmul : (l.length + 1) * bytes ≤ 140737488355328 := Nat.le_trans (Nat.mul_le_mul (show l.length + 1 ≤ 2000000 by omega) hb) (by decide)
    have hnews : ∀ j u, (pCells rk c)[j]? = some u → w.cell? ((⟨p, 0, none⟩ : Addr).add j) = some u := fun j u hj => by
      have hadd : ((⟨p, 0, none⟩ : Addr).add j) = ⟨p, 0 + j, none⟩ := by unfold Addr.add; split <;> simp_all
      rw [hadd, Nat.zero_add]
      match j, hj with
      | 0, hj => rw [show u = .int rk c.1 by simpa [pCells] using hj.symm]; exact h0
      | 1, hj => rw [show u = .int .i64 c.2 by simpa [pCells] using hj.symm]; exact h1
      | n + 2, hj => simp [pCells] at hj
    obtain ⟨v', w', hr, g⟩ := U.append_grew (P := Tryd.prog) w t t T i0 _ 2 bytes hI.slice hi hz0 hz1 hz2 rfl (by decide) base v l.length (flatP rk l) hown ⟨p, 0, none⟩ 1 1 (pCells rk c) rfl hnews (fun u hu => flatP_one rk [c] u (by simpa [flatP] using hu)) (by unfold maxLen; omega) hmul hbase
    unfold Oper.wp execOp
    simp only [ho, hty, resolve, invoke, builtin, Sem.run_bind, Sem.run_pure, Result.andThen_ok, List.map_toArray, List.map_cons, List.map_nil, hs, hxv, hr]
    refine hK' _ _ (hK v' w' ?_ g.grown)
    have e : flatP rk (l ++ [c]) = flatP rk l ++ pCells rk c := by rw [flatP_append]; simp [flatP]
    unfold OwnP
    rw [e, List.length_append]
    exact g.own
end Go.Proofs.YtkggmcnocpgnbaaDoor.K
