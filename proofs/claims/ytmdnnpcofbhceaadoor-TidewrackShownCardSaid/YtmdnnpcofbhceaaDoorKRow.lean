/- A row that is a struct in memory, or a result; the document's near and Blank. -/
import Derived.Test.YtmdnnpcofbhceaaDoorKApp
import Derived.Laws.ResultCell
import Derived.RangeFuncBox
import Derived.Deep.Cut
import Derived.Deep.CutBlock
import Derived.Deep.DeepCutAuto
import Derived.Lib.MinMax
namespace Go.Proofs.YtmdnnpcofbhceaaDoor.K
open Go.RowKit

theorem results_cell {fn : Func} {p : Tmp} {ty : TypeId} (h : fn.results = #[.cell p ty]) (tmps : Array Value) (P : Program) (w : World) :
    (results fn tmps).run P w = ((asAddr (tmps.getD p undef)).run P w).andThen fun a w₁ => (loadVar ty a).run P w₁ := by
  simp only [results, h]
  simp [Sem.run_bind, Result.andThen]
theorem refT : CelT .i64 28 87 24 := ⟨Tryd.underlying28, by kernel_rfl, by decide⟩
theorem rowT : CelT .i32 24 82 24 := ⟨Tryd.underlying24, by kernel_rfl, by decide⟩
/-- a row in a block -/
def RoB (t : TypeId) (p : Nat) (v : Value) (b : Bool) (w : World) : Prop := w.heap[p]? = some (.cells #[v, .bool b] t (0, 0))
theorem RoB.new (t : TypeId) (w : World) (v : Value) (b : Bool) : RoB t w.heap.size v b (w.alloc (.cells #[v, .bool b] t)) := World.alloc_heap_new w _
theorem RoB.lt {t : TypeId} {p : Nat} {v : Value} {b : Bool} {w : World} (h : RoB t p v b w) : p < w.heap.size := (Array.getElem?_eq_some_iff.1 h).1
theorem RoB.c0 {t : TypeId} {p : Nat} {v : Value} {b : Bool} {w : World} (h : RoB t p v b w) : w.cell? ⟨p, 0, none⟩ = some v := by simp [World.cell?, show w.heap[p]? = _ from h]
theorem RoB.c1 {t : TypeId} {p : Nat} {v : Value} {b : Bool} {w : World} (h : RoB t p v b w) : w.cell? ⟨p, 1, none⟩ = some (.bool b) := by simp [World.cell?, show w.heap[p]? = _ from h]
theorem RoB.fr {t : TypeId} {p : Nat} {v : Value} {b : Bool} {w : World} (h : RoB t p v b w) (o : Nat) : w.frozen? ⟨p, o, none⟩ = false := by simp [World.frozen?, show w.heap[p]? = _ from h]
theorem RoB.below {t : TypeId} {p : Nat} {v : Value} {b : Bool} {w w' : World} {B : Nat} (h : RoB t p v b w) (hb : Below B w w') (hp : p < B) : RoB t p v b w' := (hb.block p hp).trans h
theorem RoB.belowAll {t : TypeId} {p : Nat} {v : Value} {b : Bool} {w w' : World} (h : RoB t p v b w) (hb : Below w.heap.size w w') : RoB t p v b w' := h.below hb h.lt
theorem RoB.grown {t : TypeId} {p : Nat} {v : Value} {b : Bool} {w w' : World} {row : Option Nat} (h : RoB t p v b w) (hg : w.grownBy w' row) (hne : row ≠ some p) : RoB t p v b w' := (hg.block p h.lt (fun e => hne e.symm)).trans h
theorem below_set2 {base p : Nat} {w0 w : World} {v : Value} {b : Bool} (h : Below base w0 w) (hp : base ≤ p) : Below base w0 ((w.setCell ⟨p, 0, none⟩ v).setCell ⟨p, 1, none⟩ (.bool b)) :=
  (h.setCell (p := ⟨p, 0, none⟩) hp _).setCell (p := ⟨p, 1, none⟩) hp _
/-- what a call answers that makes a row -/
def RowPost (rk : IntKind) (T : TypeId) (base : Nat) (l : List Cel) (b : Bool) (w : World) (e : Ending) (w' : World) : Prop := ∃ v, e = .returned (.agg #[v, .bool b]) ∧ OwnC rk T base v l w' ∧ Below base w w'
theorem OwnC.lit (rk : IntKind) (T : TypeId) (w : World) (base : Nat) (hb : base ≤ w.heap.size) : OwnC rk T base (.slice (some ⟨w.heap.size, 0, none⟩) 0 0) [] (w.alloc (.cells #[] T)) := World.ownsRow_lit w #[] 0 hb (by decide) rfl
theorem OwnC.set2 {rk : IntKind} {T : TypeId} {base : Nat} {v : Value} {l : List Cel} {w : World} (h : OwnC rk T base v l w) {p : Nat} (hp : p < base) (v0 v1 : Value) : OwnC rk T base v l ((w.setCell ⟨p, 0, none⟩ v0).setCell ⟨p, 1, none⟩ v1) := by
  have g1 : ∀ (u : World) (o : Nat) (x : Value), u.grownBy (u.setCell ⟨p, o, none⟩ x) (some p) := fun u o x => ⟨rfl, rfl, rfl, (KeepsWalks.setCell u _ x).size, fun i _ hi => Below.heap_setCell _ _ _ i (fun e => hi (by rw [e]))⟩
  have hne : ∀ {u : World}, OwnC rk T base v l u → ∀ q, v.ownBlock = some q → some p ≠ some q := fun hu q hq e => by have := (hu.ownBlock q hq).1; have := Option.some.inj e; omega
  have h1 := h.kept (g1 w 0 v0) (hne h)
  exact h1.kept (g1 _ 1 v1) (hne h1)

def nearI (n lo hi : Int) : Int := if n < lo then lo else if hi < n then hi else n
theorem nearI_N (n : Int) : nearI n 0 1000 = (nearN n : Int) := by
  unfold nearI nearN
  split
  · omega
  · split <;> omega
theorem near_any (n lo hi : Int) (w : World) : Calls Tryd.prog 46 #[.int .i64 n, .int .i64 lo, .int .i64 hi] w fun e w' => e = .returned (.int .i64 (nearI n lo hi)) ∧ w = w' := by
  unfold nearI
  by_cases h1 : n < lo
  · rw [if_pos h1]
    go_enter Tryd.func46, Tryd.ntmps46
    go_wp2
    go_ret
    exact ⟨rfl, rfl⟩
  · rw [if_neg h1]
    by_cases h2 : hi < n
    · rw [if_pos h2]
      go_enter Tryd.func46, Tryd.ntmps46
      go_wp2
      go_ret
      exact ⟨rfl, rfl⟩
    · rw [if_neg h2]
      go_enter Tryd.func46, Tryd.ntmps46
      go_wp2
      go_ret
      exact ⟨rfl, rfl⟩
theorem blanks_succ (n : Nat) (s : Int) : blanks (n + 1) s = blanks n s ++ [blk s] := List.replicate_succ'

set_option maxRecDepth 100000 in
set_option maxHeartbeats 4000000 in
theorem refBlank_any (n s : Int) (w : World) : Calls Tryd.prog 15 #[.int .i64 n, .int .i64 s] w (RowPost .i64 87 w.heap.size (blanks (nearN n) s) false w) := by
  obtain ⟨rb, hrb⟩ : ∃ rb, w.heap.size = rb := ⟨_, rfl⟩
  rw [hrb]
  obtain ⟨N, hN⟩ : ∃ N, nearN n = N := ⟨_, rfl⟩
  have hN1 : N ≤ 1000 := by rw [← hN]; exact nearN_le n
  obtain ⟨P, hP⟩ : ∃ P, RowPost .i64 87 rb (blanks N s) false w = P := ⟨_, rfl⟩
  rw [hN, hP]
  have HP := Lib.hid hP
  have HNear := Lib.hid (fun (v : World) => near_any n 0 1000 v)
  rw [nearI_N, hN] at HNear
  obtain ⟨w1, hw1⟩ : ∃ w1, w.alloc (.cells #[.slice none 0 0, .bool false] 30) = w1 := ⟨_, rfl⟩
  obtain ⟨w2, hw2⟩ : ∃ w2, w1.alloc (.cells #[] 87) = w2 := ⟨_, rfl⟩
  have hb1 : Below rb w w1 := by rw [← hw1, ← hrb]; exact (Below.refl _ _).alloc (Nat.le_refl _) _
  have hr1 : RoB 30 rb (.slice none 0 0) false w1 := by rw [← hw1, ← hrb]; exact RoB.new _ _ _ _
  have hs1 : w1.heap.size = rb + 1 := by rw [← hw1, World.size_alloc, hrb]
  have hb2 : Below rb w w2 := by rw [← hw2]; exact hb1.alloc (by omega) _
  have hr2 : RoB 30 rb (.slice none 0 0) false w2 := by rw [← hw2]; exact hr1.belowAll ((Below.refl _ _).alloc (Nat.le_refl _) _)
  have ho2 : OwnC .i64 87 (rb + 1) (.slice (some ⟨rb + 1, 0, none⟩) 0 0) (blanks 0 s) w2 := by
    have h := OwnC.lit .i64 87 w1 (rb + 1) (by omega)
    rw [hs1, hw2] at h
    exact h
  have HB2 := Lib.hid hb2
  have HR2 := Lib.hid hr2
  have HO2 := Lib.hid ho2
  have hlt2 : rb + 1 ≤ w2.heap.size := hr2.lt
  have HW1 := Lib.hid hw1
  have HW2 := Lib.hid hw2
  have HRb := Lib.hid hrb
  have HS1 := Lib.hid hs1
  clear hP hN hw1 hw2 hb1 hr1 hs1 hb2 hr2 ho2 hrb
  go_enter Tryd.func15, Tryd.ntmps15
  go_upto_region 1 with fail
  rw [HW1.out, HRb.out]
  go_upto_region 2 with fail
  rw [HW2.out, HS1.out]
  go_wp2_with fail
  go_loopw [5, 6] (fun o i wr => ∃ j : Nat, i = .int .i64 (j : Int) ∧ j ≤ N ∧ rb + 1 ≤ wr.heap.size ∧ Hid (Below rb w wr ∧ OwnC .i64 87 (rb + 1) o (blanks j s) wr ∧ RoB 30 rb (.slice none 0 0) false wr)) (fun _ i _ => N - (intOf i).toNat)
  case atStart => exact ⟨0, rfl, by omega, hlt2, Lib.hid ⟨HB2.out, HO2.out, HR2.out⟩⟩
  case round =>
    obtain ⟨j, rfl, hj, hlw, HI⟩ := hrel
    by_cases hlt : j < N
    · have hd : decide (j < N) = true := by simp; omega
      have HLen : Hid (((blanks j s).length : Int) ≤ 1000000) := Lib.hid (by rw [blanks_length]; omega)
      go_wp2_with (first | (go_at_call 46; refine (HNear.out _).mono ?_; rintro e w' ⟨rfl, rfl⟩) | (refine wpList_add_cell refT (rb + 1) _ (blanks j s) (blk s) rfl rfl rfl HI.out.2.1 HLen.out hlw ?_))
      intro v' w' hown hbel hlw'
      have HI' : Hid (Below rb w w' ∧ OwnC .i64 87 (rb + 1) v' (blanks (j + 1) s) w' ∧ RoB 30 rb (.slice none 0 0) false w') := Lib.hid ⟨(HI.out.1.trans ((hbel wr (Below.refl _ _)).mono (by omega))), by rw [blanks_succ]; exact hown, HI.out.2.2.below (hbel wr (Below.refl _ _)) (by omega)⟩
      clear hown hbel
      go_wp2
      go_roundw
      case rel => exact ⟨j + 1, by go_num, by omega, hlw', HI'⟩
      case measure => simp [intOf]; omega
    · obtain rfl : j = N := by omega
      have hd : decide (j < j) = false := by simp
      obtain ⟨a5, c5, he, -⟩ := HI.out.2.1.shape
      obtain ⟨n5, hn5⟩ : ∃ n5, (blanks j s).length = n5 := ⟨_, rfl⟩
      rw [hn5] at he
      subst he
      clear hn5
      have c0 := HI.out.2.2.c0
      have c1 := HI.out.2.2.c1
      have f0 := HI.out.2.2.fr 0
      have f1 := HI.out.2.2.fr 1
      go_wp2_with (go_at_call 46; refine (HNear.out _).mono ?_; rintro e w' ⟨rfl, rfl⟩)
      refine bodyPost_ret (v := .agg #[.slice a5 n5 c5, .bool false]) (by rw [results_cell (fn := Tryd.f15) rfl]; go_simp <;> rfl) rfl ?_
      rw [← HP.out]
      exact ⟨_, rfl, (HI.out.2.1.set2 (Nat.lt_succ_self rb) _ _).weaken (by omega), below_set2 HI.out.1 (Nat.le_refl _)⟩
end Go.Proofs.YtmdnnpcofbhceaaDoor.K
