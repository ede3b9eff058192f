/- RowKeeps: no call changes the row that it is asked of: the walk. -/
import Derived.Test.YtmdnnpcofbhceaaDoorVPlays
import Derived.Test.YtmdnnpcofbhceaaDoorRelA
namespace Go.Proofs.YtmdnnpcofbhceaaDoor.K
open Go.RowKit

/-- what came up, what is so then, and where: q's blocks are laid at any time -/
structure KpC (B : Nat) (q : Ro) (wr : World) (L : Nat → Bool) (a : Act) (v : World) : Prop where
  below : Below B wr v
  base : B ≤ v.heap.size
  ten10 : L 10 = true → ∃ g, a.tmps.getD 10 undef = .pointer (some ⟨g, 0, .none⟩) ∧ B ≤ g ∧ (L 12 = false → RoB 26 g (.slice .none 0 0) false v) ∧ (L 12 = true → ∃ x y, RoB 26 g (.slice x q.l.length y) q.wrapped v ∧ RowV .i32 (.agg #[.slice x q.l.length y, .bool q.wrapped]) q v)
  eleven11 : L 11 = true → ∃ g, a.tmps.getD 11 undef = .pointer (some ⟨g, 0, .none⟩) ∧ B ≤ g ∧ (L 13 = false → RoB 30 g (.slice .none 0 0) false v) ∧ (L 13 = true → ∃ x y, RoB 30 g (.slice x q.l.length y) q.wrapped v ∧ RowV .i64 (.agg #[.slice x q.l.length y, .bool q.wrapped]) q v)
  no12 : L 10 = false → L 12 = false
  no13 : L 11 = false → L 13 = false
theorem put_ne {a : Act} {d t : Nat} {x : Value} (hs : d < a.tmps.size) (h : d ≠ t) : (a.put (some d) x).tmps.getD t undef = a.tmps.getD t undef := by rw [R.getD_put hs, if_neg h]
theorem KpC.next {B : Nat} {q : Ro} {wr : World} {L : Nat → Bool} {a : Act} {v v' : World} (h : KpC B q wr L a v) {i d S : Nat} (hi : i < 10) (h10 : d ≠ 10) (h11 : d ≠ 11) (hs : a.tmps.size = S) (hd : d < S) (hb : Below v.heap.size v v') (x : Value) : KpC B q wr (R.upd L i) (a.put (some d) x) v' := by
  have hne : ∀ j, 10 ≤ j → R.upd L i j = L j := fun j hj => upd_ne (by omega)
  refine ⟨h.below.trans (hb.mono h.base), Nat.le_trans h.base hb.size, fun e => ?_, fun e => ?_, fun e => ?_, fun e => ?_⟩
  · rw [hne 10 (by omega)] at e
    obtain ⟨g, e1, e2, e3, e4⟩ := h.ten10 e
    refine ⟨g, by rw [put_ne (by omega) h10]; exact e1, e2, fun e => ?_, fun e => ?_⟩
    · rw [hne 12 (by omega)] at e; exact (e3 e).belowAll hb
    · rw [hne 12 (by omega)] at e
      obtain ⟨x, y, k1, k2⟩ := e4 e
      exact ⟨x, y, k1.belowAll hb, k2.belowAll hb⟩
  · rw [hne 11 (by omega)] at e
    obtain ⟨g, e1, e2, e3, e4⟩ := h.eleven11 e
    refine ⟨g, by rw [put_ne (by omega) h11]; exact e1, e2, fun e => ?_, fun e => ?_⟩
    · rw [hne 13 (by omega)] at e; exact (e3 e).belowAll hb
    · rw [hne 13 (by omega)] at e
      obtain ⟨x, y, k1, k2⟩ := e4 e
      exact ⟨x, y, k1.belowAll hb, k2.belowAll hb⟩
  · rw [hne 12 (by omega)]; exact h.no12 (by rw [hne 10 (by omega)] at e; exact e)
  · rw [hne 13 (by omega)]; exact h.no13 (by rw [hne 11 (by omega)] at e; exact e)
theorem KpC.ten {B : Nat} {q : Ro} {wr : World} {L : Nat → Bool} {a : Act} {v : World} (h : KpC B q wr L a v) (hL : L 10 = false) {S : Nat} (hs : a.tmps.size = S) (hd : 12 < S) : KpC B q wr (R.upd L 10) (a.put (some 10) (.pointer (some ⟨v.heap.size, 0, .none⟩))) (v.alloc (.cells #[.slice .none 0 0, .bool false] 26)) := by
  have hb : Below v.heap.size v (v.alloc (.cells #[.slice .none 0 0, .bool false] 26)) := (Below.refl _ _).alloc (Nat.le_refl _) _
  have h12 := h.no12 hL
  refine ⟨h.below.trans (hb.mono h.base), Nat.le_trans h.base hb.size, fun e => ?_, fun e => ?_, fun e => ?_, fun e => ?_⟩
  · refine ⟨v.heap.size, by rw [R.getD_put (by omega), if_pos rfl], h.base, fun _ => RoB.new _ _ _ _, fun e => ?_⟩
    rw [upd_ne (by omega), h12] at e
    cases e
  · rw [upd_ne (by omega)] at e
    obtain ⟨g, e1, e2, e3, e4⟩ := h.eleven11 e
    refine ⟨g, by rw [put_ne (by omega) (by omega)]; exact e1, e2, fun e => ?_, fun e => ?_⟩
    · rw [upd_ne (by omega)] at e; exact (e3 e).belowAll hb
    · rw [upd_ne (by omega)] at e
      obtain ⟨x, y, k1, k2⟩ := e4 e
      exact ⟨x, y, k1.belowAll hb, k2.belowAll hb⟩
  · rw [upd_eq] at e; cases e
  · rw [upd_ne (by omega)]; exact h.no13 (by rw [upd_ne (by omega)] at e; exact e)
theorem KpC.eleven {B : Nat} {q : Ro} {wr : World} {L : Nat → Bool} {a : Act} {v : World} (h : KpC B q wr L a v) (hL : L 11 = false) {S : Nat} (hs : a.tmps.size = S) (hd : 12 < S) : KpC B q wr (R.upd L 11) (a.put (some 11) (.pointer (some ⟨v.heap.size, 0, .none⟩))) (v.alloc (.cells #[.slice .none 0 0, .bool false] 30)) := by
  have hb : Below v.heap.size v (v.alloc (.cells #[.slice .none 0 0, .bool false] 30)) := (Below.refl _ _).alloc (Nat.le_refl _) _
  have h13 := h.no13 hL
  refine ⟨h.below.trans (hb.mono h.base), Nat.le_trans h.base hb.size, fun e => ?_, fun e => ?_, fun e => ?_, fun e => ?_⟩
  · rw [upd_ne (by omega)] at e
    obtain ⟨g, e1, e2, e3, e4⟩ := h.ten10 e
    refine ⟨g, by rw [put_ne (by omega) (by omega)]; exact e1, e2, fun e => ?_, fun e => ?_⟩
    · rw [upd_ne (by omega)] at e; exact (e3 e).belowAll hb
    · rw [upd_ne (by omega)] at e
      obtain ⟨x, y, k1, k2⟩ := e4 e
      exact ⟨x, y, k1.belowAll hb, k2.belowAll hb⟩
  · refine ⟨v.heap.size, by rw [R.getD_put (by omega), if_pos rfl], h.base, fun _ => RoB.new _ _ _ _, fun e => ?_⟩
    rw [upd_ne (by omega), h13] at e
    cases e
  · rw [upd_ne (by omega)]; exact h.no12 (by rw [upd_ne (by omega)] at e; exact e)
  · rw [upd_eq] at e; cases e
theorem roB_types {t1 t2 : TypeId} {p1 p2 : Nat} {v1 v2 : Value} {b1 b2 : Bool} {w : World} (h1 : RoB t1 p1 v1 b1 w) (h2 : RoB t2 p2 v2 b2 w) (ht : t1 ≠ t2) : p1 ≠ p2 := fun e => by
  subst e
  have := h1.symm.trans h2
  simp at this
  exact ht this.2
theorem KpC.store12 {B g : Nat} {q : Ro} {wr : World} {L : Nat → Bool} {a : Act} {v : World} {x : Option Addr} {y : Nat} (h : KpC B q wr L a v) (hL : L 12 = false) (h10 : L 10 = true) (he : a.tmps.getD 10 undef = .pointer (some ⟨g, 0, .none⟩)) (hz : RoB 26 g (.slice .none 0 0) false v) (hv : RowV .i32 (.agg #[.slice x q.l.length y, .bool q.wrapped]) q v) :
    RowsK v ((v.setCell ⟨g, 0, .none⟩ (.slice x q.l.length y)).setCell ⟨g, 1, .none⟩ (.bool q.wrapped)) ∧ KpC B q wr (R.upd L 12) (a.put .none undef) ((v.setCell ⟨g, 0, .none⟩ (.slice x q.l.length y)).setCell ⟨g, 1, .none⟩ (.bool q.wrapped)) := by
  obtain ⟨g', e1, e2, -, -⟩ := h.ten10 h10
  have hgg : g = g' := by rw [he] at e1; injection e1 with e1; injection e1 with e1; injection e1
  subst hgg
  have p1 := hz.set0 (v' := .slice x q.l.length y)
  have hk : RowsK v ((v.setCell ⟨g, 0, .none⟩ (.slice x q.l.length y)).setCell ⟨g, 1, .none⟩ (.bool q.wrapped)) := fun rk u r0 h0 => (h0.setAt hz _).setAt p1 _
  refine ⟨hk, (h.below.setCell (p := ⟨g, 0, .none⟩) e2 _).setCell (p := ⟨g, 1, .none⟩) e2 _, Nat.le_trans h.base (Nat.le_trans (KeepsWalks.setCell v _ _).size (KeepsWalks.setCell _ _ _).size), fun _ => ⟨g, he, e2, fun e => ?_, fun _ => ⟨x, y, p1.set1, hk _ _ _ hv⟩⟩, fun e => ?_, fun e => ?_, fun e => ?_⟩
  · rw [upd_eq] at e; cases e
  · rw [upd_ne (by omega)] at e
    obtain ⟨g2, k1, k2, k3, k4⟩ := h.eleven11 e
    refine ⟨g2, k1, k2, fun e => ?_, fun e => ?_⟩
    · rw [upd_ne (by omega)] at e
      have hr := k3 e
      have hne := roB_types hr hz (by decide)
      exact (hr.setOther hne).setOther hne
    · rw [upd_ne (by omega)] at e
      obtain ⟨x', y', k5, k6⟩ := k4 e
      have hne := roB_types k5 hz (by decide)
      exact ⟨x', y', (k5.setOther hne).setOther hne, hk _ _ _ k6⟩
  · rw [upd_ne (by omega)] at e; rw [h10] at e; cases e
  · rw [upd_ne (by omega)] at e ⊢; exact h.no13 e
theorem KpC.store13 {B g : Nat} {q : Ro} {wr : World} {L : Nat → Bool} {a : Act} {v : World} {x : Option Addr} {y : Nat} (h : KpC B q wr L a v) (hL : L 13 = false) (h11 : L 11 = true) (he : a.tmps.getD 11 undef = .pointer (some ⟨g, 0, .none⟩)) (hz : RoB 30 g (.slice .none 0 0) false v) (hv : RowV .i64 (.agg #[.slice x q.l.length y, .bool q.wrapped]) q v) :
    RowsK v ((v.setCell ⟨g, 0, .none⟩ (.slice x q.l.length y)).setCell ⟨g, 1, .none⟩ (.bool q.wrapped)) ∧ KpC B q wr (R.upd L 13) (a.put .none undef) ((v.setCell ⟨g, 0, .none⟩ (.slice x q.l.length y)).setCell ⟨g, 1, .none⟩ (.bool q.wrapped)) := by
  obtain ⟨g', e1, e2, -, -⟩ := h.eleven11 h11
  have hgg : g = g' := by rw [he] at e1; injection e1 with e1; injection e1 with e1; injection e1
  subst hgg
  have p1 := hz.set0 (v' := .slice x q.l.length y)
  have hk : RowsK v ((v.setCell ⟨g, 0, .none⟩ (.slice x q.l.length y)).setCell ⟨g, 1, .none⟩ (.bool q.wrapped)) := fun rk u r0 h0 => (h0.setAt hz _).setAt p1 _
  refine ⟨hk, (h.below.setCell (p := ⟨g, 0, .none⟩) e2 _).setCell (p := ⟨g, 1, .none⟩) e2 _, Nat.le_trans h.base (Nat.le_trans (KeepsWalks.setCell v _ _).size (KeepsWalks.setCell _ _ _).size), fun e => ?_, fun _ => ⟨g, he, e2, fun e => ?_, fun _ => ⟨x, y, p1.set1, hk _ _ _ hv⟩⟩, fun e => ?_, fun e => ?_⟩
  · rw [upd_ne (by omega)] at e
    obtain ⟨g2, k1, k2, k3, k4⟩ := h.ten10 e
    refine ⟨g2, k1, k2, fun e => ?_, fun e => ?_⟩
    · rw [upd_ne (by omega)] at e
      have hr := k3 e
      have hne := roB_types hr hz (by decide)
      exact (hr.setOther hne).setOther hne
    · rw [upd_ne (by omega)] at e
      obtain ⟨x', y', k5, k6⟩ := k4 e
      have hne := roB_types k5 hz (by decide)
      exact ⟨x', y', (k5.setOther hne).setOther hne, hk _ _ _ k6⟩
  · rw [upd_eq] at e; cases e
  · rw [upd_ne (by omega)] at e ⊢; exact h.no12 e
  · rw [upd_ne (by omega)] at e; rw [h11] at e; cases e
def KpOk (b b8 ab ao n c j : Nat) (x1 x2 : Option Addr) (m1 y1 y2 : Nat) (g : Bool) (KD AT N S X : Int) (q : Ro) : Nat → Value → World → Prop
  | 0, u, _ => u = .agg #[.slice x1 m1 y1, .bool g]
  | 1, u, _ => u = .agg #[.slice x2 m1 y2, .bool g]
  | 2, u, _ => u = .slice (some ⟨ab, ao, none⟩) n c
  | 3, u, _ => u = .int .i64 (j : Int)
  | 4, u, _ => u = .pointer (some ⟨ab, ao + j * 5, none⟩)
  | 5, u, _ => u = .agg #[.int .i64 KD, .int .i64 AT, .int .i64 N, .int .i64 S, .int .i32 X]
  | 6, u, w => Two u q w
  | 7, u, w => Two u q w
  | 8, u, w => ∃ t, u = t ∧ RowV .i32 t q w
  | 9, u, w => ∃ t, u = t ∧ RowV .i64 t q w
  | 10, _, _ => True
  | 11, _, _ => True
  | 12, _, _ => True
  | 13, _, _ => True
  | _, _, _ => True
def KqOk (g10 g11 ab ao n c k : Nat) (x3 x4 : Option Addr) (m3 y3 y4 : Nat) (g3 : Bool) (KD AT N S X : Int) : Nat → Value → World → Prop
  | 0, u, _ => u = .agg #[.slice x3 m3 y3, .bool g3]
  | 1, u, _ => u = .agg #[.slice x4 m3 y4, .bool g3]
  | 2, u, _ => u = .slice (some ⟨ab, ao, none⟩) n c
  | 3, u, _ => u = .int .i64 (k : Int)
  | 4, u, _ => u = .pointer (some ⟨ab, ao + k * 5, none⟩)
  | 5, u, _ => u = .agg #[.int .i64 KD, .int .i64 AT, .int .i64 N, .int .i64 S, .int .i32 X]
  | 6, u, w => True
  | _, _, _ => True

set_option maxRecDepth 100000 in
set_option maxHeartbeats 16000000 in
theorem keeps_walk (a : Option Addr) (n0 c0 : Nat) (l : List Cel) (wr0 : Bool) (aa : Option Addr) (n c : Nat) (la : List ActR) (w : World) (hT : W.Tab w) (hC : CelsIn .i32 a n0 l w) (hnil : a = none → c0 = 0) (hcap : n0 ≤ c0) (hmx : (c0 : Int) ≤ 9223372036854775807) (hrg : AllC Rng l) (hA : ActsIn aa n c la w) :
    Calls Tryd.prog 4 #[.slice a n0 c0, .bool wr0, .slice aa n c] w fun e w' => e = .returned (.bool true) ∧ Below w.heap.size w w' := by
  obtain ⟨rb, hrb⟩ : ∃ rb, w.heap.size = rb := ⟨_, rfl⟩
  rw [hrb]
  obtain ⟨q0, hq0⟩ : ∃ q0 : Ro, q0 = ⟨l.take 40, wr0⟩ := ⟨_, rfl⟩
  have hl40 : q0.l.length ≤ 1000 := by rw [hq0]; show (l.take 40).length ≤ 1000; rw [List.length_take]; omega
  have hr40 : AllC Rng q0.l := by rw [hq0]; exact all_take hrg _
  have HQ0 := Lib.hid hq0
  have HLq := Lib.hid hl40
  have HRq := Lib.hid hr40
  have HRb := Lib.hid hrb
  have HT0 := Lib.hid hT
  have HA0 := Lib.hid hA
  have HLn := Lib.hid hA.len
  have hfit : (n : Int) ≤ c := by have := hA.fit; omega
  have htop := hA.top
  have HAw := Lib.hid (awake_any w hT)
  have HC := Lib.hid hC
  have HNil := Lib.hid hnil
  have HCap := Lib.hid hcap
  clear hrb hT hA hq0 hl40 hr40 hC hnil hcap hrg
  go_enter Tryd.func4, Tryd.ntmps4
  go_upto_region 3 with (go_at_call 13; refine HAw.out.mono ?_; rintro e w1 ⟨rfl, hb1⟩)
  have HB1 : Hid (Below rb w w1) := Lib.hid (by rw [← HRb.out]; exact hb1)
  have H1 := Lib.hid (any_any a n0 c0 wr0 l w1 (HC.out.belowAll hb1) HNil.out HCap.out hmx)
  clear hb1 HAw
  go_wp2_with fail
  refine H1.out.mono ?_
  intro e w2 hp2
  obtain ⟨x1, y1, rfl, hV2, hb2⟩ := RowPost.row hp2 (r := q0) (by rw [HQ0.out]) (by rw [HQ0.out])
  have hs1 : rb ≤ w1.heap.size := by have := HB1.out.size; have := HRb.out; omega
  have HB2 := Lib.hid (HB1.out.trans (hb2.mono hs1))
  obtain ⟨m1, hm1⟩ : ∃ m1, q0.l.length = m1 := ⟨_, rfl⟩
  obtain ⟨g, hg⟩ : ∃ g, q0.wrapped = g := ⟨_, rfl⟩
  rw [hm1, hg] at hV2 ⊢
  obtain ⟨b, hb⟩ : ∃ b, w2.heap.size = b := ⟨_, rfl⟩
  obtain ⟨w3, hw3⟩ : ∃ w3, w2.alloc (.cells #[.slice x1 m1 y1, .bool g] 26) = w3 := ⟨_, rfl⟩
  have hb23 : Below w2.heap.size w2 w3 := by rw [← hw3]; exact (Below.refl _ _).alloc (Nat.le_refl _) _
  have hR3 : RoB 26 b (.slice x1 m1 y1) g w3 := by rw [← hw3, ← hb]; exact RoB.new _ _ _ _
  have hs3 : w3.heap.size = b + 1 := by rw [← hw3, World.size_alloc, hb]
  have hrbb : rb ≤ b := by rw [← hb]; exact Nat.le_trans hs1 hb2.size
  have HB3 := Lib.hid (HB2.out.trans (hb23.mono (by omega)))
  have hV3 := hV2.belowAll hb23
  have z0 := hR3.c0
  have z1 := hR3.c1
  obtain ⟨e1, i3, -, -, -, e2⟩ := hV3.of
  have HTo := Lib.hid (told_any x1 m1 y1 g q0.l w3 i3 HRq.out (by rw [e2]; have := HLq.out; omega))
  have HV3 := Lib.hid hV3
  have HR3 := Lib.hid hR3
  have HW3 := Lib.hid hw3
  have HBb := Lib.hid hb
  have HS3 := Lib.hid hs3
  have HM1 := Lib.hid hm1
  have HG := Lib.hid hg
  clear hp2 hb2 hs1 hV2 hb23 hR3 hw3 hb hs3 hV3 i3 e1 e2 H1 hm1 hg
  go_upto_region 4 with fail
  rw [HW3.out, HBb.out]
  go_wp2_with fail
  refine HTo.out.mono ?_
  intro e w4 hp4
  obtain ⟨x2, y2, rfl, hV4, hb4⟩ := RowPost.row hp4 (r := q0) rfl HG.out
  rw [HM1.out, HG.out] at hV4 ⊢
  obtain ⟨b8, hb8⟩ : ∃ b8, w4.heap.size = b8 := ⟨_, rfl⟩
  obtain ⟨w5, hw5⟩ : ∃ w5, w4.alloc (.cells #[.slice x2 m1 y2, .bool g] 30) = w5 := ⟨_, rfl⟩
  have hb45 : Below w4.heap.size w4 w5 := by rw [← hw5]; exact (Below.refl _ _).alloc (Nat.le_refl _) _
  have hR5 : RoB 30 b8 (.slice x2 m1 y2) g w5 := by rw [← hw5, ← hb8]; exact RoB.new _ _ _ _
  have hb35 : Below w3.heap.size w3 w5 := hb4.trans (hb45.mono hb4.size)
  have HB5 := Lib.hid (HB3.out.trans (hb35.mono (by have := HS3.out; omega)))
  have HV5 := Lib.hid (HV3.out.belowAll hb35)
  have HX5 := Lib.hid (hV4.belowAll hb45)
  have HRO1 := Lib.hid (HR3.out.belowAll hb35)
  have HRO2 := Lib.hid hR5
  obtain ⟨B, hB⟩ : ∃ B, w5.heap.size = B := ⟨_, rfl⟩
  have hbB : b < B := by rw [← hB]; exact HRO1.out.lt
  have hb8B : b8 < B := by rw [← hB]; exact hR5.lt
  have HW5 := Lib.hid hw5
  have HB8 := Lib.hid hb8
  have HBB := Lib.hid hB
  clear hp4 hV4 hb4 hb8 hw5 hb45 hR5 hb35 HTo z0 z1 hB HR3 HV3 HB2
  go_upto_region 5 with fail
  rw [HW5.out, HB8.out]
  go_wp2_with fail
  go_loopw [9] (fun i wr => ∃ j : Nat, i = .int .i64 (j : Int) ∧ j ≤ n ∧ B ≤ wr.heap.size ∧ Hid (Below B w5 wr)) (fun i _ => n - (intOf i).toNat)
  case atStart => exact ⟨0, rfl, by omega, by rw [HBB.out]; omega, Lib.hid (Below.refl _ _)⟩
  case round =>
    obtain ⟨j, rfl, hj, hlw, HF⟩ := hrel
    by_cases hlt : j < n ∧ j < 10
    · have d1 : decide (j < n) = true := decide_eq_true hlt.1
      have d2 : decide ((j : Int) < 10) = true := decide_eq_true (by omega)
      have hjn : (j : Int) < n := by omega
      have hj10 : j < 10 := hlt.2
      have hjl : j < la.length := by rw [← HLn.out]; exact hlt.1
      obtain ⟨ab, ao, rfl, hab, hAt⟩ := HA0.out.at_.resolve_left (by intro e; rw [e] at hjl; simp at hjl)
      have hBw := HBB.out
      have hbw : Below rb w wr := HB5.out.trans (HF.out.mono (by omega))
      have habB : ab < rb := by have := HRb.out; omega
      have hat := (hAt j la[j] (List.getElem?_eq_getElem hjl)).block (hbw.block ab habB)
      have hrg := HA0.out.ok la[j] (List.getElem_mem hjl)
      have HAt := Lib.hid hAt
      obtain ⟨Aj, hAj⟩ : ∃ A, la[j] = A := ⟨_, rfl⟩
      rw [hAj] at hat hrg
      obtain ⟨KD, AT, N, S, X⟩ := Aj
      have HRg : Hid (RngA ⟨KD, AT, N, S, X⟩) := Lib.hid hrg
      have k1 := HRO1.out.below HF.out hbB
      have k2 := HRO2.out.below HF.out hb8B
      have HR0 := Lib.hid k1.c0
      have HR1 := Lib.hid k1.c1
      have HX0 := Lib.hid k2.c0
      have HX1 := Lib.hid k2.c1
      have HA0' := Lib.hid hat.c0
      have HA1 := Lib.hid hat.c1
      have HA2 := Lib.hid hat.c2
      have HA3 := Lib.hid hat.c3
      have HA4 := Lib.hid hat.c4
      have HAl : Hid (ab < wr.heap.size) := Lib.hid (by omega)
      have HRl : Hid (b < wr.heap.size) := Lib.hid (by omega)
      have HXl : Hid (b8 < wr.heap.size) := Lib.hid (by omega)
      have HT : Hid (W.Tab wr) := Lib.hid (HT0.out.belowAll (by rw [HRb.out]; exact hbw))
      have HV1 : Hid (RowV .i32 (.agg #[.slice x1 m1 y1, .bool g]) q0 wr) := Lib.hid (HV5.out.belowAll (by rw [HBB.out]; exact HF.out))
      have HV2 : Hid (RowV .i64 (.agg #[.slice x2 m1 y2, .bool g]) q0 wr) := Lib.hid (HX5.out.belowAll (by rw [HBB.out]; exact HF.out))
      obtain ⟨q, hq⟩ : ∃ q, doS W.ofS q0 ⟨KD, AT, N, S, X⟩ = q := ⟨_, rfl⟩
      have hql : q.l.length ≤ 1000 := by rw [← hq]; exact do_len HLq.out
      have hqr : AllC Rng q.l := by rw [← hq]; exact do_rng HRq.out HRg.out
      have HQ := Lib.hid hq
      have HQl := Lib.hid hql
      have HQr := Lib.hid hqr
      obtain ⟨Bw, hBwr⟩ : ∃ Bw, wr.heap.size = Bw := ⟨_, rfl⟩
      have hBB : B ≤ Bw := by rw [← hBwr]; exact hlw
      have HBw := Lib.hid hBwr
      clear hlt hAt hat hrg hAj hq hab k1 k2 hql hqr hbw hBwr
      go_upto_region 8 with fail
      refine Go.Proofs.YtmdnnpcofbhceaaDoor.R.wp_region_relA (by kernel_rfl) (KpC wr.heap.size q wr) RowsK (KpOk b b8 ab ao n c j x1 x2 m1 y1 y2 g KD AT N S X q) (by rfl) (by kernel_rfl) (by kernel_rfl) ?hOk ?hop ?hdone ?h0
      case h0 => exact ⟨(Below.refl _ _).drew, Nat.le_refl _, fun e => (by cases e), fun e => (by cases e), fun _ => rfl, fun _ => rfl⟩
      case hOk =>
        intro i x u u' hv huu
        unfold KpOk at hv ⊢
        split at hv
        all_goals first | exact hv | exact huu _ _ _ hv | (obtain ⟨v1, v2, e, g1, g2⟩ := hv; exact ⟨v1, v2, e, huu _ _ _ g1, huu _ _ _ g2⟩) | (obtain ⟨t, e, g1⟩ := hv; exact ⟨t, e, huu _ _ _ g1⟩) | trivial
      case hop =>
        refine ⟨?_, ?_, ?_, ?_, ?_, ?_, ?_, ?_, ?_, ?_, ?_, ?_, ?_, ?_, trivial⟩
        · intro L z v hL hdp hc hag hdep
          have hz := hc.below
          refine .inl ⟨rfl, fun K hK => ?_⟩
          have d7 : z.tmps.getD 7 undef = .pointer (some ⟨b, 0, none⟩) := hag.2.2 7 (by kernel_rfl)
          have e7 := d7
          rw [Array.getD_eq_getD_getElem?] at e7
          have l0 := (hz.cell (p := ⟨b, 0, none⟩) HRl.out).trans HR0.out
          have l1 := (hz.cell (p := ⟨b, 1, none⟩) HRl.out).trans HR1.out
          clear hdep
          go_simp
          exact hK _ _ (RowsK.refl _) rfl (hc.next (i := 0) (d := 31) (S := 71) (by decide) (by decide) (by decide) hag.2.1 (by decide) (Below.refl _ _) _)
        · intro L z v hL hdp hc hag hdep
          have hz := hc.below
          refine .inl ⟨rfl, fun K hK => ?_⟩
          have d8 : z.tmps.getD 8 undef = .pointer (some ⟨b8, 0, none⟩) := hag.2.2 8 (by kernel_rfl)
          have e8 := d8
          rw [Array.getD_eq_getD_getElem?] at e8
          have l0 := (hz.cell (p := ⟨b8, 0, none⟩) HXl.out).trans HX0.out
          have l1 := (hz.cell (p := ⟨b8, 1, none⟩) HXl.out).trans HX1.out
          clear hdep
          go_simp
          exact hK _ _ (RowsK.refl _) rfl (hc.next (i := 1) (d := 32) (S := 71) (by decide) (by decide) (by decide) hag.2.1 (by decide) (Below.refl _ _) _)
        · intro L z v hL hdp hc hag hdep
          have hz := hc.below
          refine .inl ⟨rfl, fun K hK => ?_⟩
          have d2 : z.tmps.getD 2 undef = .slice (some ⟨ab, ao, none⟩) n c := hag.2.2 2 (by kernel_rfl)
          have e2 := d2
          rw [Array.getD_eq_getD_getElem?] at e2
          clear hdep
          go_simp
          exact hK _ _ (RowsK.refl _) rfl (hc.next (i := 2) (d := 33) (S := 71) (by decide) (by decide) (by decide) hag.2.1 (by decide) (Below.refl _ _) _)
        · intro L z v hL hdp hc hag hdep
          have hz := hc.below
          refine .inl ⟨rfl, fun K hK => ?_⟩
          have d9 : z.tmps.getD 9 undef = .int .i64 (j : Int) := hag.2.2 9 (by kernel_rfl)
          have e9 := d9
          rw [Array.getD_eq_getD_getElem?] at e9
          clear hdep
          go_simp
          exact hK _ _ (RowsK.refl _) rfl (hc.next (i := 3) (d := 34) (S := 71) (by decide) (by decide) (by decide) hag.2.1 (by decide) (Below.refl _ _) _)
        · intro L z v hL hdp hc hag hdep
          have hz := hc.below
          refine .inl ⟨rfl, fun K hK => ?_⟩
          have d33 : z.tmps.getD 33 undef = .slice (some ⟨ab, ao, none⟩) n c := hdep { on := 2, ground := .data } (by simp) rfl _ _ rfl rfl
          have e33 := d33
          rw [Array.getD_eq_getD_getElem?] at e33
          have d34 : z.tmps.getD 34 undef = .int .i64 (j : Int) := hdep { on := 3, ground := .data } (by simp) rfl _ _ rfl rfl
          have e34 := d34
          rw [Array.getD_eq_getD_getElem?] at e34
          clear hdep
          go_simp
          exact hK _ _ (RowsK.refl _) rfl (hc.next (i := 4) (d := 35) (S := 71) (by decide) (by decide) (by decide) hag.2.1 (by decide) (Below.refl _ _) _)
        · intro L z v hL hdp hc hag hdep
          have hz := hc.below
          refine .inl ⟨rfl, fun K hK => ?_⟩
          have d35 : z.tmps.getD 35 undef = .pointer (some ⟨ab, ao + j * 5, none⟩) := hdep { on := 4, ground := .data } (by simp) rfl _ _ rfl rfl
          have e35 := d35
          rw [Array.getD_eq_getD_getElem?] at e35
          have l0 : v.cell? ⟨ab, ao + j * 5, none⟩ = _ := (hz.cell (p := ⟨ab, ao + j * 5, none⟩) HAl.out).trans HA0'.out
          have l1 : v.cell? ⟨ab, ao + j * 5 + 1, none⟩ = _ := (hz.cell (p := ⟨ab, ao + j * 5 + 1, none⟩) HAl.out).trans HA1.out
          have l2 : v.cell? ⟨ab, ao + j * 5 + 2, none⟩ = _ := (hz.cell (p := ⟨ab, ao + j * 5 + 2, none⟩) HAl.out).trans HA2.out
          have l3 : v.cell? ⟨ab, ao + j * 5 + 3, none⟩ = _ := (hz.cell (p := ⟨ab, ao + j * 5 + 3, none⟩) HAl.out).trans HA3.out
          have l4 : v.cell? ⟨ab, ao + j * 5 + 4, none⟩ = _ := (hz.cell (p := ⟨ab, ao + j * 5 + 4, none⟩) HAl.out).trans HA4.out
          clear hdep
          go_simp
          exact hK _ _ (RowsK.refl _) rfl (hc.next (i := 5) (d := 36) (S := 71) (by decide) (by decide) (by decide) hag.2.1 (by decide) (Below.refl _ _) _)
        · intro L z v hL hdp hc hag hdep
          have hz := hc.below
          refine .inl ⟨rfl, fun K hK => ?_⟩
          have d31 : z.tmps.getD 31 undef = .agg #[.slice x1 m1 y1, .bool g] := hdep { on := 0, ground := .data } (by simp) rfl _ _ rfl rfl
          have e31 := d31
          rw [Array.getD_eq_getD_getElem?] at e31
          have d32 : z.tmps.getD 32 undef = .agg #[.slice x2 m1 y2, .bool g] := hdep { on := 1, ground := .data } (by simp) rfl _ _ rfl rfl
          have e32 := d32
          rw [Array.getD_eq_getD_getElem?] at e32
          have d36 : z.tmps.getD 36 undef = .agg #[.int .i64 KD, .int .i64 AT, .int .i64 N, .int .i64 S, .int .i32 X] := hdep { on := 5, ground := .data } (by simp) rfl _ _ rfl rfl
          have e36 := d36
          rw [Array.getD_eq_getD_getElem?] at e36
          have HD := Lib.hid (do_any (.agg #[.slice x1 m1 y1, .bool g]) (.agg #[.slice x2 m1 y2, .bool g]) q0 q0 ⟨KD, AT, N, S, X⟩ v (HT.out.belowAll hz) (HV1.out.belowAll hz) (HV2.out.belowAll hz) HLq.out HLq.out HRg.out)
          rw [HQ.out] at HD
          unfold actV at HD
          simp only at HD
          clear hdep
          go_simp
          refine HD.out.mono ?_
          rintro e w' ⟨v1, v2, rfl, k1, k2, k3⟩
          exact hK _ _ (RowsK.below k3) ⟨v1, v2, rfl, k1, k2⟩ (hc.next (i := 6) (d := 37) (S := 71) (by decide) (by decide) (by decide) hag.2.1 (by decide) k3 _)
        · intro L z v hL hdp hc hag hdep
          have hz := hc.below
          refine .inl ⟨rfl, fun K hK => ?_⟩
          have d37' : KpOk b b8 ab ao n c j x1 x2 m1 y1 y2 g KD AT N S X q 6 (z.tmps.getD 37 undef) v := hdep { on := 6, ground := .data } (by simp) rfl _ _ rfl rfl
          simp only [KpOk] at d37'
          obtain ⟨v1, v2, d37, h1, h2⟩ := d37'
          have e37 := d37
          rw [Array.getD_eq_getD_getElem?] at e37
          clear hdep
          go_simp
          exact hK _ _ (RowsK.refl _) ⟨v1, v2, rfl, h1, h2⟩ (hc.next (i := 7) (d := 30) (S := 71) (by decide) (by decide) (by decide) hag.2.1 (by decide) (Below.refl _ _) _)
        · intro L z v hL hdp hc hag hdep
          have hz := hc.below
          refine .inl ⟨rfl, fun K hK => ?_⟩
          have d30' : KpOk b b8 ab ao n c j x1 x2 m1 y1 y2 g KD AT N S X q 7 (z.tmps.getD 30 undef) v := hdep { on := 7, ground := .data } (by simp) rfl _ _ rfl rfl
          simp only [KpOk] at d30'
          obtain ⟨v1, v2, d30, h1, h2⟩ := d30'
          have e30 := d30
          rw [Array.getD_eq_getD_getElem?] at e30
          clear hdep
          go_simp
          exact hK _ _ (RowsK.refl _) ⟨_, rfl, h1⟩ (hc.next (i := 8) (d := 38) (S := 71) (by decide) (by decide) (by decide) hag.2.1 (by decide) (Below.refl _ _) _)
        · intro L z v hL hdp hc hag hdep
          refine .inl ⟨rfl, fun K hK => ?_⟩
          have d30' : KpOk b b8 ab ao n c j x1 x2 m1 y1 y2 g KD AT N S X q 7 (z.tmps.getD 30 undef) v := hdep { on := 7, ground := .data } (by simp) rfl _ _ rfl rfl
          simp only [KpOk] at d30'
          obtain ⟨v1, v2, d30, h1, h2⟩ := d30'
          have e30 := d30
          rw [Array.getD_eq_getD_getElem?] at e30
          clear hdep
          go_simp
          exact hK _ _ (RowsK.refl _) ⟨_, rfl, h2⟩ (hc.next (i := 9) (d := 39) (S := 71) (by decide) (by decide) (by decide) hag.2.1 (by decide) (Below.refl _ _) _)
        · intro L z v hL hdp hc hag hdep
          refine .inl ⟨rfl, fun K hK => ?_⟩
          clear hdep
          go_simp
          exact hK _ _ (RowsK.below ((Below.refl _ _).alloc (Nat.le_refl _) _)) trivial (hc.ten (S := 71) hL hag.2.1 (by decide))
        · intro L z v hL hdp hc hag hdep
          refine .inl ⟨rfl, fun K hK => ?_⟩
          clear hdep
          go_simp
          exact hK _ _ (RowsK.below ((Below.refl _ _).alloc (Nat.le_refl _) _)) trivial (hc.eleven (S := 71) hL hag.2.1 (by decide))
        · intro L z v hL hdp hc hag hdep
          refine .inl ⟨rfl, fun K hK => ?_⟩
          have d38' : KpOk b b8 ab ao n c j x1 x2 m1 y1 y2 g KD AT N S X q 8 (z.tmps.getD 38 undef) v := hdep { on := 8, ground := .data } (by simp) rfl _ _ rfl rfl
          simp only [KpOk] at d38'
          obtain ⟨t8, d38, hv8⟩ := d38'
          have e38 := d38
          rw [Array.getD_eq_getD_getElem?] at e38
          have h10 : L 10 = true := hdp { on := 10, ground := .data } (by simp) rfl
          obtain ⟨g10, e10', hg10, hz10, -⟩ := hc.ten10 h10
          have k2 := hz10 hL
          obtain ⟨x3, y3, rfl⟩ := hv8.shape
          have e10 := e10'
          rw [Array.getD_eq_getD_getElem?] at e10
          have s0 := k2.c0
          have s1 := k2.c1
          have f0 := k2.fr 0
          have f1 := k2.fr 1
          have hst := hc.store12 hL h10 e10' k2 hv8
          clear hdep
          go_simp
          exact hK undef _ hst.1 trivial hst.2
        · intro L z v hL hdp hc hag hdep
          refine .inl ⟨rfl, fun K hK => ?_⟩
          have d39' : KpOk b b8 ab ao n c j x1 x2 m1 y1 y2 g KD AT N S X q 9 (z.tmps.getD 39 undef) v := hdep { on := 9, ground := .data } (by simp) rfl _ _ rfl rfl
          simp only [KpOk] at d39'
          obtain ⟨t9, d39, hv9⟩ := d39'
          have e39 := d39
          rw [Array.getD_eq_getD_getElem?] at e39
          have h11 : L 11 = true := hdp { on := 11, ground := .data } (by simp) rfl
          obtain ⟨g11, e11', hg11, hz11, -⟩ := hc.eleven11 h11
          have k2 := hz11 hL
          obtain ⟨x4, y4, rfl⟩ := hv9.shape
          have e11 := e11'
          rw [Array.getD_eq_getD_getElem?] at e11
          have s0 := k2.c0
          have s1 := k2.c1
          have f0 := k2.fr 0
          have f1 := k2.fr 1
          have hst := hc.store13 hL h11 e11' k2 hv9
          clear hdep
          go_simp
          exact hK undef _ hst.1 trivial hst.2
      case hdone =>
        intro z u hc hag hok
        obtain ⟨g10, e10', hg10, -, h12⟩ := hc.ten10 rfl
        obtain ⟨x3, y3, k3, v3⟩ := h12 rfl
        obtain ⟨g11, e11', hg11, -, h13⟩ := hc.eleven11 rfl
        obtain ⟨x4, y4, k4, v4⟩ := h13 rfl
        obtain ⟨m3, hm3⟩ : ∃ m3, q.l.length = m3 := ⟨_, rfl⟩
        obtain ⟨g3, hg3⟩ : ∃ g3, q.wrapped = g3 := ⟨_, rfl⟩
        rw [hm3, hg3] at k3 v3 k4 v4
        obtain ⟨uu, huu, hzz⟩ := Go.Proofs.YtmdnnpcofbhceaaDoor.R.agree_frame [31, 32, 33, 34, 35, 36, 37, 30, 38, 39, 10, 11] rfl hag
        have e10 := (huu 10).trans e10'
        have e11 := (huu 11).trans e11'
        subst hzz
        have hbu : Below Bw wr u := by rw [← HBw.out]; exact hc.below
        have HU5 : Hid (Below B w5 u) := Lib.hid (HF.out.trans (hbu.mono hBB))
        have hBu : B ≤ u.heap.size := by have := hbu.size; omega
        have HK3 := Lib.hid k3
        have HK4 := Lib.hid k4
        have HV3 := Lib.hid v3
        have HV4 := Lib.hid v4
        have hu10 : g10 < u.heap.size := k3.lt
        have hu11 : g11 < u.heap.size := k4.lt
        have HTu : Hid (W.Tab u) := Lib.hid (HT0.out.belowAll (by rw [HRb.out]; exact HB5.out.trans (HU5.out.mono (by have := HBB.out; omega))))
        clear hc hag hok huu e10' e11' h12 h13 k3 v3 k4 v4 hm3 hg3 hg10 hg11 HR0 HR1 HX0 HX1 HA0' HA1 HA2 HA3 HA4 HV1 HV2 HT HRg HAl HRl HXl hbu
        simp only [List.foldl_cons, List.foldl_nil]
        rw [e10, e11]
        clear e10 e11
        simp only [List.setIfInBounds_toArray, List.set_cons_succ, List.set_cons_zero]
        generalize uu 31 = u31', uu 32 = u32', uu 33 = u33', uu 34 = u34', uu 35 = u35', uu 36 = u36', uu 37 = u37', uu 30 = u30', uu 38 = u38', uu 39 = u39'
        clear uu
        go_upto_region 9 with fail
        go_wp2_with fail
        go_loopw [12] (fun i wv => ∃ k : Nat, i = .int .i64 (k : Int) ∧ k ≤ j + 3 ∧ B ≤ wv.heap.size ∧ Hid (Below u.heap.size u wv)) (fun i _ => j + 3 - (intOf i).toNat)
        case atStart => exact ⟨j + 1, by go_num, by omega, hBu, Lib.hid (Below.refl _ _)⟩
        case round =>
          obtain ⟨wv, hwv⟩ : ∃ wv, wv = wr := ⟨_, rfl⟩
          subst hwv
          obtain ⟨k, rfl, hk, hlv, HFk⟩ := hrel
          have hszv := HFk.out.size
          have t0 := (HK3.out.below HFk.out hu10).c0
          have t1 := (HK3.out.below HFk.out hu10).c1
          have t2 := (HK4.out.below HFk.out hu11).c0
          have t3 := (HK4.out.below HFk.out hu11).c1
          by_cases hlk : k < n ∧ k < j + 3
          · have d3 : decide (k < n) = true := decide_eq_true hlk.1
            have d4 : decide ((k : Int) < (j : Int) + 3) = true := decide_eq_true (by omega)
            have hkn : (k : Int) < n := by omega
            have hkj := hlk.2
            have hkl : k < la.length := by rw [← HLn.out]; exact hlk.1
            obtain ⟨ab', ao', he', hab, hAt⟩ := HA0.out.at_.resolve_left (by intro e; rw [e] at hkl; simp at hkl)
            obtain ⟨rfl, rfl⟩ : ab = ab' ∧ ao = ao' := by injection he' with e1; injection e1 with e1 e2; exact ⟨e1, e2⟩
            have hbw : Below rb w wv := HB5.out.trans ((HU5.out.trans (HFk.out.mono hBu)).mono (by have := HBB.out; omega))
            have hat := (hAt k la[k] (List.getElem?_eq_getElem hkl)).block (hbw.block ab habB)
            have hrg := HA0.out.ok la[k] (List.getElem_mem hkl)
            obtain ⟨Aj, hAj⟩ : ∃ A, la[k] = A := ⟨_, rfl⟩
            rw [hAj] at hat hrg
            obtain ⟨KD, AT, N, S, X⟩ := Aj
            have HRg : Hid (RngA ⟨KD, AT, N, S, X⟩) := Lib.hid hrg
            have HR0 := Lib.hid t0
            have HR1 := Lib.hid t1
            have HX0 := Lib.hid t2
            have HX1 := Lib.hid t3
            have HA0 := Lib.hid hat.c0
            have HA1 := Lib.hid hat.c1
            have HA2 := Lib.hid hat.c2
            have HA3 := Lib.hid hat.c3
            have HA4 := Lib.hid hat.c4
            have HAl : Hid (ab < wv.heap.size) := Lib.hid (by have := HBB.out; omega)
            have HRl : Hid (g10 < wv.heap.size) := Lib.hid (by omega)
            have HXl : Hid (g11 < wv.heap.size) := Lib.hid (by omega)
            have HT : Hid (W.Tab wv) := Lib.hid (HT0.out.belowAll (by rw [HRb.out]; exact hbw))
            have HV3 := Lib.hid (HV3.out.belowAll HFk.out)
            have HV4 := Lib.hid (HV4.out.belowAll HFk.out)
            have HLq := HQl
            clear hlk hAt hat hrg hAj hab he' hbw t0 t1 t2 t3 hszv
            go_upto_region 12 with fail
            refine Go.Proofs.YtmdnnpcofbhceaaDoor.R.wp_region_tailV 7 (by kernel_rfl) (fun u => Below wv.heap.size wv u) (fun u v => Below u.heap.size u v) (KqOk g10 g11 ab ao n c k x3 x4 m3 y3 y4 g3 KD AT N S X) (by rfl) (by kernel_rfl) (by decide) (by kernel_rfl) (by kernel_rfl) (by kernel_rfl) ?hC2 ?hOk2 ?hop2 ?hdone2 ((Below.refl _ _).drew)
            case hC2 => exact fun u v hu huv => hu.trans (huv.mono hu.size)
            case hOk2 =>
              intro i x u u' hv huu
              unfold KqOk at hv ⊢
              split at hv
              all_goals first | exact hv | trivial
            case hop2 =>
              refine ⟨?_, ?_, ?_, ?_, ?_, ?_, ?_, trivial⟩
              · intro z v hz hag hdep
                refine .inl ⟨rfl, fun K hK => ?_⟩
                have d10 : z.tmps.getD 10 undef = .pointer (some ⟨g10, 0, none⟩) := hag.2.2 10 (by kernel_rfl)
                have e10 := d10
                rw [Array.getD_eq_getD_getElem?] at e10
                have l0 := (hz.cell (p := ⟨g10, 0, none⟩) HRl.out).trans HR0.out
                have l1 := (hz.cell (p := ⟨g10, 1, none⟩) HRl.out).trans HR1.out
                clear hz
                clear hdep hag 
                go_simp
                exact hK _ _ (Below.refl _ _) rfl
              · intro z v hz hag hdep
                refine .inl ⟨rfl, fun K hK => ?_⟩
                have d11 : z.tmps.getD 11 undef = .pointer (some ⟨g11, 0, none⟩) := hag.2.2 11 (by kernel_rfl)
                have e11 := d11
                rw [Array.getD_eq_getD_getElem?] at e11
                have l0 := (hz.cell (p := ⟨g11, 0, none⟩) HXl.out).trans HX0.out
                have l1 := (hz.cell (p := ⟨g11, 1, none⟩) HXl.out).trans HX1.out
                clear hz
                clear hdep hag 
                go_simp
                exact hK _ _ (Below.refl _ _) rfl
              · intro z v hz hag hdep
                refine .inl ⟨rfl, fun K hK => ?_⟩
                have d2 : z.tmps.getD 2 undef = .slice (some ⟨ab, ao, none⟩) n c := hag.2.2 2 (by kernel_rfl)
                have e2 := d2
                rw [Array.getD_eq_getD_getElem?] at e2
                clear hdep hag 
                go_simp
                exact hK _ _ (Below.refl _ _) rfl
              · intro z v hz hag hdep
                refine .inl ⟨rfl, fun K hK => ?_⟩
                have d12 : z.tmps.getD 12 undef = .int .i64 (k : Int) := hag.2.2 12 (by kernel_rfl)
                have e12 := d12
                rw [Array.getD_eq_getD_getElem?] at e12
                clear hdep hag 
                go_simp
                exact hK _ _ (Below.refl _ _) rfl
              · intro z v hz hag hdep
                refine .inl ⟨rfl, fun K hK => ?_⟩
                have d56 : z.tmps.getD 56 undef = .slice (some ⟨ab, ao, none⟩) n c := hdep { on := 2, ground := .data } (by simp) rfl _ _ rfl rfl
                have e56 := d56
                rw [Array.getD_eq_getD_getElem?] at e56
                have d57 : z.tmps.getD 57 undef = .int .i64 (k : Int) := hdep { on := 3, ground := .data } (by simp) rfl _ _ rfl rfl
                have e57 := d57
                rw [Array.getD_eq_getD_getElem?] at e57
                clear hdep hag 
                go_simp
                exact hK _ _ (Below.refl _ _) rfl
              · intro z v hz hag hdep
                refine .inl ⟨rfl, fun K hK => ?_⟩
                have d58 : z.tmps.getD 58 undef = .pointer (some ⟨ab, ao + k * 5, none⟩) := hdep { on := 4, ground := .data } (by simp) rfl _ _ rfl rfl
                have e58 := d58
                rw [Array.getD_eq_getD_getElem?] at e58
                have l0 : v.cell? ⟨ab, ao + k * 5, none⟩ = _ := (hz.cell (p := ⟨ab, ao + k * 5, none⟩) HAl.out).trans HA0.out
                have l1 : v.cell? ⟨ab, ao + k * 5 + 1, none⟩ = _ := (hz.cell (p := ⟨ab, ao + k * 5 + 1, none⟩) HAl.out).trans HA1.out
                have l2 : v.cell? ⟨ab, ao + k * 5 + 2, none⟩ = _ := (hz.cell (p := ⟨ab, ao + k * 5 + 2, none⟩) HAl.out).trans HA2.out
                have l3 : v.cell? ⟨ab, ao + k * 5 + 3, none⟩ = _ := (hz.cell (p := ⟨ab, ao + k * 5 + 3, none⟩) HAl.out).trans HA3.out
                have l4 : v.cell? ⟨ab, ao + k * 5 + 4, none⟩ = _ := (hz.cell (p := ⟨ab, ao + k * 5 + 4, none⟩) HAl.out).trans HA4.out
                clear hz
                clear hdep hag 
                go_simp
                exact hK _ _ (Below.refl _ _) rfl
              · intro z v hz hag hdep
                refine .inl ⟨rfl, fun K hK => ?_⟩
                have d54 : z.tmps.getD 54 undef = .agg #[.slice x3 m3 y3, .bool g3] := hdep { on := 0, ground := .data } (by simp) rfl _ _ rfl rfl
                have e54 := d54
                rw [Array.getD_eq_getD_getElem?] at e54
                have d55 : z.tmps.getD 55 undef = .agg #[.slice x4 m3 y4, .bool g3] := hdep { on := 1, ground := .data } (by simp) rfl _ _ rfl rfl
                have e55 := d55
                rw [Array.getD_eq_getD_getElem?] at e55
                have d59 : z.tmps.getD 59 undef = .agg #[.int .i64 KD, .int .i64 AT, .int .i64 N, .int .i64 S, .int .i32 X] := hdep { on := 5, ground := .data } (by simp) rfl _ _ rfl rfl
                have e59 := d59
                rw [Array.getD_eq_getD_getElem?] at e59
                have HD := Lib.hid (do_any (.agg #[.slice x3 m3 y3, .bool g3]) (.agg #[.slice x4 m3 y4, .bool g3]) q q ⟨KD, AT, N, S, X⟩ v (HT.out.belowAll hz) (HV3.out.belowAll hz) (HV4.out.belowAll hz) HLq.out HLq.out HRg.out)
                unfold actV at HD
                simp only at HD
                clear hdep hag hz
                go_simp
                refine HD.out.mono ?_
                rintro e w' ⟨v1, v2, rfl, k1, k2, k3⟩
                exact hK _ _ k3 trivial
            case hdone2 =>
              intro z2 u2 hu2 hag2 hok2 hno2
              clear hno2 hok2
              obtain ⟨uv, huv, hzz⟩ := Go.Proofs.YtmdnnpcofbhceaaDoor.R.agree_frame [54, 55, 56, 57, 58, 59, 60] rfl hag2
              subst hzz
              have HFu : Hid (Below u.heap.size u u2) := Lib.hid (HFk.out.trans (hu2.mono HFk.out.size))
              have hBu2 : B ≤ u2.heap.size := Nat.le_trans hBu HFu.out.size
              clear hag2 huv hu2
              simp only [List.foldl_cons, List.foldl_nil]
              dsimp only [List.drop]
              simp only [wpList]
              try dsimp only [Exit.then]
              simp only [List.setIfInBounds_toArray, List.set_cons_succ, List.set_cons_zero]
              generalize uv 54 = v54', uv 55 = v55', uv 56 = v56', uv 57 = v57', uv 58 = v58', uv 59 = v59', uv 60 = v60'
              clear uv
              rename_i KK aa
              apply aa
              go_wp2
              go_roundw
              case rel => exact ⟨k + 1, by go_num, by omega, hBu2, HFu⟩
              case measure => simp [intOf]; omega
          · have hway : decide (k < n) = false ∨ (decide (k < n) = true ∧ decide ((k : Int) < (j : Int) + 3) = false) := by
              by_cases h1 : k < n
              · right; exact ⟨decide_eq_true h1, decide_eq_false (by omega)⟩
              · left; exact decide_eq_false h1
            have hb5v : Below B w5 wv := HU5.out.trans (HFk.out.mono hBu)
            have k1 := HRO1.out.below hb5v hbB
            have k2 := HRO2.out.below hb5v hb8B
            have s0 := k1.c0
            have s1 := k1.c1
            have s2 := k2.c0
            have s3 := k2.c1
            have HI1 := Lib.hid (isRow_any (HV5.out.belowAll (by rw [HBB.out]; exact hb5v)) (HX5.out.belowAll (by rw [HBB.out]; exact hb5v)) HRq.out HLq.out HLq.out)
            have HI2 := Lib.hid (fun (v : World) (hv : Below wv.heap.size wv v) => isRow_any ((HV3.out.belowAll HFk.out).belowAll hv) ((HV4.out.belowAll HFk.out).belowAll hv) HQr.out HQl.out HQl.out)
            have hd1 : decide (q0 = q0) = true := by simp
            have hd2 : decide (q = q) = true := by simp
            rw [hd1] at HI1
            rw [hd2] at HI2
            have HB5v := Lib.hid hb5v
            have H10 := Lib.hid (HK3.out.below HFk.out hu10)
            have H11 := Lib.hid (HK4.out.below HFk.out hu11)
            clear hlk hd1 hd2 k1 k2 hb5v t0 t1 t2 t3
            rcases hway with d3 | ⟨d3, d4⟩
            all_goals
              go_wp2_with fail
              refine HI1.out.mono ?_
              rintro e w7 ⟨rfl, hb7⟩
              have t4 := (H10.out.belowAll hb7).c0
              have t5 := (H10.out.belowAll hb7).c1
              have t6 := (H11.out.belowAll hb7).c0
              have t7 := (H11.out.belowAll hb7).c1
              have HI3 := Lib.hid (HI2.out _ hb7)
              go_wp2_with fail
              refine HI3.out.mono ?_
              rintro e w8 ⟨rfl, hb8⟩
              have HB8 : Hid (Below B w5 w8) := Lib.hid ((HB5v.out.trans (hb7.mono hlv)).trans (hb8.mono (Nat.le_trans hlv hb7.size)))
              have hB8 : B ≤ w8.heap.size := Nat.le_trans (Nat.le_trans hlv hb7.size) hb8.size
              clear hb7 hb8 t4 t5 t6 t7 s0 s1 s2 s3
              go_wp2
              go_roundw
              case rel => exact ⟨j + 1, by go_num, by omega, hB8, HB8⟩
              case measure => simp [intOf]; omega
    · have hway : decide (j < n) = false ∨ (decide (j < n) = true ∧ decide ((j : Int) < 10) = false) := by
        by_cases h1 : j < n
        · right; exact ⟨decide_eq_true h1, decide_eq_false (by omega)⟩
        · left; exact decide_eq_false h1
      clear hlt
      rcases hway with d1 | ⟨d1, d2⟩
      all_goals
        go_wp2_with fail
        go_ret
        exact ⟨rfl, HB5.out.trans (HF.out.mono (by omega))⟩
end Go.Proofs.YtmdnnpcofbhceaaDoor.K
