/- append of cells upon cells of our own; a cell that is stored. -/
import Derived.Test.YtbikehngbkfckaaMerged4
import Derived.Laws.ResultCell
import Derived.RangeFuncBox
import Derived.Deep.Cut
import Derived.Deep.CutBlock
import Derived.Deep.DeepCutAuto
import Derived.Lib.MinMax
import Derived.Lib.SliceRun
import Derived.Laws.Bits64b
namespace Go.Proofs.Ytbikehngbkfckaa.K
open Go.RowKit

/-- t is a slice of the cells T -/
structure CelT (rk : IntKind) (t T : TypeId) (bytes : Nat) : Prop where
  slice : Try.prog.underlying t = some (.slice T)
  info : (Try.prog.info? T).map (fun i => (i.zero, i.size, i.bytes)) = some (some (.agg #[.int rk 0, .int .i64 0, .int .i64 0]), 3, bytes)
  small : bytes ≤ 24
theorem run_append_cells {rk : IntKind} {t T : TypeId} {bytes : Nat} (hI : CelT rk t T bytes) (base : Nat) (v : Value) (l : List Cel) (a : Option Addr) (m c : Nat) (l2 : List Cel) (w : World) (hown : OwnC rk T base v l w) (h : CelsIn rk a m l2 w) (hnil : a = none → c = 0) (h1 : (l.length : Int) ≤ 1000000) (h2 : (l2.length : Int) ≤ 1000000) (hbase : base ≤ w.heap.size) :
    ∃ v' w', (Builtin.append_ #[t, t] t #[v, .slice a m c]).run Try.prog w = .ok v' w' ∧ OwnC rk T base v' (l ++ l2) w' ∧ U.Grew base T 3 v (l.length + m) (flatC rk l ++ flatC rk l2) w v' w' := by
  obtain ⟨i0, hi, hz0, hz1, hz2⟩ := info_parts hI.info
  have hl := h.len
  have hb := hI.small
  have hmul : (l.length + m) * bytes ≤ 140737488355328 := Nat.le_trans (Nat.mul_le_mul (show l.length + m ≤ 2000000 by omega) hb) (by decide)
  have done : ∀ v' w', U.Grew base T 3 v (l.length + m) (flatC rk l ++ flatC rk l2) w v' w' → OwnC rk T base v' (l ++ l2) w' := fun v' w' g => by
    unfold OwnC
    rw [List.length_append, flatC_append, ← hl]
    exact g.own
  cases a with
  | none =>
    have hc := hnil rfl
    have h0 : l2 = [] := by
      rcases h.at_ with h0 | ⟨b, off, e, _⟩
      · exact h0
      · cases e
    subst h0
    obtain rfl : m = 0 := hl
    obtain ⟨hr, g⟩ := U.append_none (P := Try.prog) w t t T i0 3 c hI.slice hi base v l.length (flatC rk l) hown hc
    have g' : U.Grew base T 3 v (l.length + 0) (flatC rk l ++ flatC rk []) w v w := by simpa [flatC] using g
    exact ⟨v, w, hr, done _ _ g', g'⟩
  | some ad =>
    have hnews : ∀ j u, (flatC rk l2)[j]? = some u → w.cell? (ad.add j) = some u := fun j u hj => by
      rcases h.at_ with h0 | ⟨b, off, e, _⟩
      · rw [h0] at hj; simp [flatC] at hj
      · cases e
        exact h.news j u hj
    obtain ⟨v', w', hr, g⟩ := U.append_grew (P := Try.prog) w t t T i0 _ 3 bytes hI.slice hi hz0 hz1 hz2 rfl (by decide) base v l.length (flatC rk l) hown ad m c (flatC rk l2) (by rw [flatC_len, hl]) hnews (flatC_one rk l2) (by unfold maxLen; omega) hmul hbase
    exact ⟨v', w', hr, done _ _ g, g⟩
theorem wpList_append_cells {rk : IntKind} {t T : TypeId} {bytes : Nat} (hI : CelT rk t T bytes) {ops : Array Oper} {rest : List Oper} {o : Oper} {z : Act} {w : World} {Q : Exit → Act → World → Prop} (hgd : o.guard = none) (s x : Operand)
    (ho : o.op = .call { callee := .builtin .append, args := #[s, x], argTypes := #[t, t] }) (hty : o.type = t)
    (base : Nat) (v : Value) (l : List Cel) (a : Option Addr) (m c : Nat) (l2 : List Cel) (hs : z.eval s = v) (hxv : z.eval x = .slice a m c) (hown : OwnC rk T base v l w) (h : CelsIn rk a m l2 w) (hnil : a = none → c = 0) (h1 : (l.length : Int) ≤ 1000000) (h2 : (l2.length : Int) ≤ 1000000) (hbase : base ≤ w.heap.size)
    (hK : ∀ v' w', OwnC rk T base v' (l ++ l2) w' → U.Grew base T 3 v (l.length + m) (flatC rk l ++ flatC rk l2) w v' w' → wpList Try.prog ops Q rest (z.put o.dst v') w') : wpList Try.prog ops Q (o :: rest) z w :=
  wpList_plain hgd fun _ hK' => by
    obtain ⟨v', w', hr, k1, k2⟩ := run_append_cells hI base v l a m c l2 w hown h hnil h1 h2 hbase
    unfold Oper.wp execOp
    simp only [ho, hty, resolve, invoke, builtin, Sem.run_bind, Sem.run_pure, Result.andThen_ok, List.map_toArray, List.map_cons, List.map_nil, hs, hxv, hr]
    exact hK' _ _ (hK v' w' k1 k2)
theorem cels_one {rk : IntKind} (w : World) (c : Cel) (T : TypeId) : CelsIn rk (some ⟨w.heap.size, 0, none⟩) 1 [c] (w.alloc (.cells (cArr rk c) T)) :=
  ⟨rfl, .inr ⟨w.heap.size, 0, rfl, by simp, fun i d hi => by
    have h0 : i = 0 := by have := (List.getElem?_eq_some_iff.1 hi).1; simp at this; omega
    subst h0
    obtain rfl : c = d := by simpa using hi
    exact ⟨by rw [World.cell?_alloc_new]; rfl, by rw [World.cell?_alloc_new]; rfl, by rw [World.cell?_alloc_new]; rfl⟩⟩⟩
/-! ## a cell that is stored -/
end Go.Proofs.Ytbikehngbkfckaa.K

/- A row that is a struct in memory, or a result; the document's near and Blank. -/
namespace Go.Proofs.Ytbikehngbkfckaa.K
open Go.RowKit

theorem results_cell {fn : Func} {p : Tmp} {ty : TypeId} (h : fn.results = #[.cell p ty]) (tmps : Array Value) (P : Program) (w : World) :
    (results fn tmps).run P w = ((asAddr (tmps.getD p undef)).run P w).andThen fun a w₁ => (loadVar ty a).run P w₁ := by
  simp only [results, h]
  simp [Sem.run_bind, Result.andThen]
theorem refT : CelT .i64 49 104 24 := ⟨Try.underlying49, by kernel_rfl, by decide⟩
theorem rowT : CelT .i32 43 67 24 := ⟨Try.underlying43, by kernel_rfl, by decide⟩
/-- a row in a block -/
def RoB (t : TypeId) (p : Nat) (v : Value) (b : Bool) (w : World) : Prop := w.heap[p]? = some (.cells #[v, .bool b] t (0, 0))
theorem RoB.new (t : TypeId) (w : World) (v : Value) (b : Bool) : RoB t w.heap.size v b (w.alloc (.cells #[v, .bool b] t)) := World.alloc_heap_new w _
theorem RoB.lt {t : TypeId} {p : Nat} {v : Value} {b : Bool} {w : World} (h : RoB t p v b w) : p < w.heap.size := (Array.getElem?_eq_some_iff.1 h).1
theorem RoB.c0 {t : TypeId} {p : Nat} {v : Value} {b : Bool} {w : World} (h : RoB t p v b w) : w.cell? ⟨p, 0, none⟩ = some v := by simp [World.cell?, show w.heap[p]? = _ from h]
theorem RoB.c1 {t : TypeId} {p : Nat} {v : Value} {b : Bool} {w : World} (h : RoB t p v b w) : w.cell? ⟨p, 1, none⟩ = some (.bool b) := by simp [World.cell?, show w.heap[p]? = _ from h]
theorem RoB.fr {t : TypeId} {p : Nat} {v : Value} {b : Bool} {w : World} (h : RoB t p v b w) (o : Nat) : w.frozen? ⟨p, o, none⟩ = false := by simp [World.frozen?, show w.heap[p]? = _ from h]
theorem RoB.below {t : TypeId} {p : Nat} {v : Value} {b : Bool} {w w' : World} {B : Nat} (h : RoB t p v b w) (hb : Below B w w') (hp : p < B) : RoB t p v b w' := (hb.block p hp).trans h
theorem RoB.belowAll {t : TypeId} {p : Nat} {v : Value} {b : Bool} {w w' : World} (h : RoB t p v b w) (hb : Below w.heap.size w w') : RoB t p v b w' := h.below hb h.lt
theorem RoB.grown {t : TypeId} {p : Nat} {v : Value} {b : Bool} {w w' : World} {row : Option Nat} (h : RoB t p v b w) (hg : w.grownBy w' row) (hne : row ≠ some p) : RoB t p v b w' := (hg.block p h.lt (fun e => hne e.symm)).trans h
theorem below_set2 {base p : Nat} {w0 w : World} {v : Value} {b : Bool} (h : Below base w0 w) (hp : base ≤ p) : Below base w0 ((w.setCell ⟨p, 0, none⟩ v).setCell ⟨p, 1, none⟩ (.bool b)) :=
  (h.setCell (p := ⟨p, 0, none⟩) hp _).setCell (p := ⟨p, 1, none⟩) hp _
/-- what a call answers that makes a row -/
def RowPost (rk : IntKind) (T : TypeId) (base : Nat) (l : List Cel) (b : Bool) (w : World) (e : Ending) (w' : World) : Prop := ∃ v, e = .returned (.agg #[v, .bool b]) ∧ OwnC rk T base v l w' ∧ Below base w w'
theorem OwnC.lit (rk : IntKind) (T : TypeId) (w : World) (base : Nat) (hb : base ≤ w.heap.size) : OwnC rk T base (.slice (some ⟨w.heap.size, 0, none⟩) 0 0) [] (w.alloc (.cells #[] T)) := World.ownsRow_lit w #[] 0 hb (by decide) rfl
theorem OwnC.set2 {rk : IntKind} {T : TypeId} {base : Nat} {v : Value} {l : List Cel} {w : World} (h : OwnC rk T base v l w) {p : Nat} (hp : p < base) (v0 v1 : Value) : OwnC rk T base v l ((w.setCell ⟨p, 0, none⟩ v0).setCell ⟨p, 1, none⟩ v1) := by
  have g1 : ∀ (u : World) (o : Nat) (x : Value), u.grownBy (u.setCell ⟨p, o, none⟩ x) (some p) := fun u o x => ⟨rfl, rfl, rfl, (KeepsWalks.setCell u _ x).size, fun i _ hi => Below.heap_setCell _ _ _ i (fun e => hi (by rw [e]))⟩
  have hne : ∀ {u : World}, OwnC rk T base v l u → ∀ q, v.ownBlock = some q → some p ≠ some q := fun hu q hq e => by have := (hu.ownBlock q hq).1; have := Option.some.inj e; omega
  have h1 := h.kept (g1 w 0 v0) (hne h)
  exact h1.kept (g1 _ 1 v1) (hne h1)

end Go.Proofs.Ytbikehngbkfckaa.K

/- The contract of the document's mend. -/
namespace Go.Proofs.Ytbikehngbkfckaa.K
open Go.RowKit

end Go.Proofs.Ytbikehngbkfckaa.K

/- The program's row: nearest, blank, stray. -/
namespace Go.Proofs.Ytbikehngbkfckaa.K
open Go.RowKit

def nearS (n most : Int) : Int := min (max n 0) most
theorem nearest_any (n most : Int) (w : World) : Calls Try.prog 102 #[.int .i64 n, .int .i64 most] w fun e w' => e = .returned (.int .i64 (nearS n most)) ∧ w = w' := by
  unfold nearS
  obtain ⟨N, hN⟩ : ∃ N, max n 0 = N := ⟨_, rfl⟩
  rw [hN]
  obtain ⟨M, hM⟩ : ∃ M, min N most = M := ⟨_, rfl⟩
  rw [hM]
  go_enter Try.func102, Try.ntmps102
  go_wp2
  go_ret
  exact ⟨rfl, rfl⟩
/-- a cell that is a result -/
theorem blank_any (s : Int) (w : World) : Calls Try.prog 105 #[.int .i64 s] w fun e w' => e = .returned (.agg #[.int .i32 32, .int .i64 s, .int .i64 0]) ∧ Below w.heap.size w w' := by
  go_enter Try.func105, Try.ntmps105
  go_wp2
  refine bodyPost_ret (v := .agg #[.int .i32 32, .int .i64 s, .int .i64 0]) (by rw [results_cell (fn := Try.f105) rfl]; go_simp <;> rfl) rfl ?_
  refine ⟨rfl, ?_⟩
  first
    | exact (((((Below.refl _ _).alloc (Nat.le_refl _) _).setCell (p := ⟨w.heap.size, 0, none⟩) (Nat.le_refl _) _).setCell (p := ⟨w.heap.size, 1, none⟩) (Nat.le_refl _) _).setCell (p := ⟨w.heap.size, 2, none⟩) (Nat.le_refl _) _)
    | exact (Below.refl _ _).alloc (Nat.le_refl _) _
end Go.Proofs.Ytbikehngbkfckaa.K

/- The contract of the program's stray. -/
namespace Go.Proofs.Ytbikehngbkfckaa.K
open Go.RowKit

end Go.Proofs.Ytbikehngbkfckaa.K

/- The contract of the program's mended: cells of our own, in their place. -/
namespace Go.Proofs.Ytbikehngbkfckaa.K
open Go.RowKit

theorem below_grown {base g : Nat} {w0 w w' : World} (h : Below base w0 w) (hg : w.grownBy w' (some g)) (hb : base ≤ g) (hs : base ≤ w.heap.size) : Below base w0 w' :=
  ⟨hg.os.trans h.os, hg.tape.trans h.tape, hg.output.trans h.output, Nat.le_trans h.size hg.size, fun k hk => (hg.block k (Nat.lt_of_lt_of_le hk hs) (fun e => by have := Option.some.inj e; omega)).trans (h.block k hk)⟩
theorem OwnC.set2ne {rk : IntKind} {T : TypeId} {base : Nat} {v : Value} {l : List Cel} {w : World} (h : OwnC rk T base v l w) {p : Nat} (hp : ∀ q, v.ownBlock = some q → q ≠ p) (v0 v1 : Value) : OwnC rk T base v l ((w.setCell ⟨p, 0, none⟩ v0).setCell ⟨p, 1, none⟩ v1) := by
  have g1 : ∀ (u : World) (o : Nat) (x : Value), u.grownBy (u.setCell ⟨p, o, none⟩ x) (some p) := fun u o x => ⟨rfl, rfl, rfl, (KeepsWalks.setCell u _ x).size, fun i _ hi => Below.heap_setCell _ _ _ i (fun e => hi (by rw [e]))⟩
  have hne : ∀ q, v.ownBlock = some q → some p ≠ some q := fun q hq e => hp q hq (Option.some.inj e).symm
  exact (h.kept (g1 w 0 v0) hne).kept (g1 _ 1 v1) hne

end Go.Proofs.Ytbikehngbkfckaa.K

/- The contracts of slices.Clone at cells, and of a product with 1. -/
namespace Go.Proofs.Ytbikehngbkfckaa.K
open Go.RowKit

/-- what a call answers that makes cells -/
def CelPost (T : TypeId) (base : Nat) (l : List Cel) (w : World) (e : Ending) (w' : World) : Prop := ∃ v, e = .returned v ∧ OwnC .i32 T base v l w' ∧ Below base w w'

set_option maxRecDepth 100000 in
set_option maxHeartbeats 4000000 in
theorem clone_any (a : Option Addr) (n c : Nat) (l : List Cel) (w : World) (hI : CelsIn .i32 a n l w) (hnil : a = none → c = 0) (hn : (n : Int) ≤ 1000000) :
    Calls Try.prog 85 #[.slice a n c] w (CelPost 67 w.heap.size l w) := by
  obtain ⟨P, hP⟩ : ∃ P, CelPost 67 w.heap.size l w = P := ⟨_, rfl⟩
  rw [hP]
  have HP := Lib.hid hP
  cases a with
  | none =>
    obtain rfl := hnil rfl
    obtain rfl : l = [] := by
      rcases hI.at_ with h | ⟨_, _, h, _⟩
      · exact h
      · cases h
    obtain rfl : n = 0 := hI.len
    clear hP hI hnil hn
    have qn : ∀ (w : World), (binOp .eql 43 (.slice none 0 0) (.slice none 0 0)).run Try.prog w = .ok (.bool true) w := fun w => Lib.run_eql_slice_nil w _ _ none 0 0 0 0 Try.underlying43
    go_enter Try.func85, Try.ntmps85
    go_wp2_with fail
    rw [← HP.out]
    exact ⟨_, rfl, OwnC.nil _ _ _ _, Below.refl _ _⟩
  | some ad =>
    have hb1 : Below w.heap.size w (w.alloc (.cells #[] 67)) := (Below.refl _ _).alloc (Nat.le_refl _) _
    have HO1 := Lib.hid (OwnC.lit .i32 67 w w.heap.size (Nat.le_refl _))
    have HI1 := Lib.hid (hI.belowAll hb1)
    have HS1 := Lib.hid hb1.size
    have HLn : Hid ((l.length : Int) ≤ 1000000) := Lib.hid (by rw [← hI.len]; exact hn)
    have HB1 := Lib.hid hb1
    clear hP hb1 hI hnil
    have qn : ∀ (w : World), (binOp .eql 43 (.slice (some ad) n c) (.slice none 0 0)).run Try.prog w = .ok (.bool false) w := fun w => Lib.run_eql_slice_nil w _ _ (some ad) n c 0 0 Try.underlying43
    go_enter Try.func85, Try.ntmps85
    go_wp2_with (refine wpList_append_cells rowT rfl _ _ rfl rfl w.heap.size _ [] (some ad) n c l rfl rfl HO1.out HI1.out (fun e => by cases e) (by simp) HLn.out HS1.out ?_)
    intro v' w' hown hg
    have HE : Hid (OwnC .i32 67 w.heap.size v' l w' ∧ Below w.heap.size w w') := Lib.hid ⟨by simpa using hown, HB1.out.grown hg.grown HS1.out (fun q hq => (HO1.out.ownBlock q hq).1)⟩
    clear hown hg
    go_wp2
    rw [← HP.out]
    exact ⟨_, rfl, HE.out.1, HE.out.2⟩

theorem u64_and32 (n : Nat) (hn : n ≤ 1000000) : bits .and .u64 (n : Int) 4294967295 = (n : Int) := by
  have h := bits_and_u64_nat n 4294967295 (by omega) (by decide)
  rw [show ((4294967295 : Nat) : Int) = 4294967295 from rfl] at h
  rw [h, show (4294967295 : Nat) = 2 ^ 32 - 1 from rfl, Nat.and_two_pow_sub_one_eq_mod, Nat.mod_eq_of_lt (by omega)]
set_option maxRecDepth 100000 in
set_option maxHeartbeats 4000000 in
theorem mul64_one (n : Nat) (hn : n ≤ 1000000) (w : World) : Calls Try.prog 99 #[.int .u64 1, .int .u64 (n : Int)] w fun e w' => e = .returned (.tuple #[.int .u64 0, .int .u64 (n : Int)]) ∧ w = w' := by
  have h1 : bits .and .u64 1 4294967295 = 1 := by decide
  have h2 := u64_and32 n hn
  have h3 : (n : Int) / 4294967296 = 0 := by omega
  have h4 : bits .and .u64 0 4294967295 = 0 := by decide
  go_enter Try.func99, Try.ntmps99
  go_wp2_with fail
  refine bodyPost_ret (results_tmp2 rfl _ _ _) rfl ?_
  exact ⟨rfl, rfl⟩
set_option maxRecDepth 100000 in
set_option maxHeartbeats 4000000 in
theorem mul_one (n : Nat) (hn : n ≤ 1000000) (w : World) : Calls Try.prog 79 #[.int .u64 1, .int .u64 (n : Int)] w fun e w' => e = .returned (.tuple #[.int .u64 0, .int .u64 (n : Int)]) ∧ w = w' := by
  go_enter Try.func79, Try.ntmps79
  go_wp2_with (go_at_call 99; refine (mul64_one n hn w).mono ?_; rintro e w' ⟨rfl, rfl⟩)
  refine bodyPost_ret (results_tmp2 rfl _ _ _) rfl ?_
  exact ⟨rfl, rfl⟩
end Go.Proofs.Ytbikehngbkfckaa.K
