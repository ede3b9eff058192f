/- The law's do of a grid: a row that is put: what stands in memory. -/
import Derived.Test.YtkggmcnocpgnbaaDoorJLdA
import Derived.Test.YtkggmcnocpgnbaaDoorMerged15
import Derived.Test.YtkggmcnocpgnbaaDoorJSet
import Derived.Test.YtkggmcnocpgnbaaDoorJDo
import Derived.Test.YtkggmcnocpgnbaaDoorMerged12
namespace Go.Proofs.YtkggmcnocpgnbaaDoor.K
open Go.RowKit

def PuT (g q rb : Nat) (L : List Nat) (x y : Gd) (r : Ro) (p : Rv) (a5 : Option Addr) (n5 c5 : Nat) : Nat → (Nat → Value) → World → Prop
  | 0, _, u => Gr g q x u ∧ RefG ((rb + 2) :: L) (refV y.W a5 n5 c5) y u ∧ RowV .i32 p.val r u
  | 1, _, u => Gr g q y u ∧ RefG ((rb + 2) :: L) (refV y.W a5 n5 c5) y u
  | _, _, u => Gr g q y u ∧ RefG ((rb + 2) :: L) (refV y.W a5 n5 c5) y u ∧ u.heap[rb + 2]? = some (.cells #[.int .i64 (y.W : Int), .slice a5 n5 c5] 82 (0, 0))
def PuS (g q rb p12 p10 : Nat) (L : List Nat) (x y : Gd) (r : Ro) (p : Rv) (a5 : Option Addr) (n5 c5 W : Nat) (sv : Value) (A : ActG) (w : World) (k : Nat) (f : Nat → Value) (u : World) : Prop := (DoB g q rb W sv A w u ∧ GrB p12 y.W (.slice a5 n5 c5) u ∧ RoB 27 p10 (.slice p.a p.n p.c) p.b u) ∧ PuT g q rb L x y r p a5 n5 c5 k f u
section
variable {g q rb p12 p10 : Nat} {L : List Nat} {x y : Gd} {r : Ro} {p : Rv} {a5 : Option Addr} {n5 c5 W : Nat} {sv : Value} {A : ActG} {w : World}
theorem PuS.cong {k : Nat} {f f2 : Nat → Value} {u : World} (h : PuS g q rb p12 p10 L x y r p a5 n5 c5 W sv A w k f u) : PuS g q rb p12 p10 L x y r p a5 n5 c5 W sv A w k f2 u := by
  obtain ⟨h1, h2⟩ := h
  refine ⟨h1, ?_⟩
  match k, h2 with
  | 0, h2 => exact h2
  | 1, h2 => exact h2
  | _ + 2, h2 => exact h2
theorem PuS.drew {f f2 : Nat → Value} {u : World} (h : PuS g q rb p12 p10 L x y r p a5 n5 c5 W sv A w 0 f u) : PuS g q rb p12 p10 L x y r p a5 n5 c5 W sv A w 0 f2 u.drew := by
  obtain ⟨⟨h1, h2, h2'⟩, h3, h4, h5⟩ := h
  have hb : Below u.heap.size u u.drew := (Below.refl _ _).drew
  exact ⟨⟨⟨h1.kb.trans (KeepB.of_below hb), h1.xb.belowAll hb, h1.ab, h1.rs, h1.sz⟩, h2.belowAll hb, h2'.belowAll hb⟩, h3.below hb, h4.below hb, h5.belowAll hb⟩
theorem PuS.one {v' : World} {u : World} {f f2 : Nat → Value} (h : PuS g q rb p12 p10 L x y r p a5 n5 c5 W sv A w 0 f u) (hlt : g < rb ∧ q < rb) (hsub : g ∈ L ∧ q ∈ L) (hp : rb ≤ p12) (hp2 : rb ≤ p10) (k2 : Gr g q y v') (k3 : KeepB [g, q] u v') : PuS g q rb p12 p10 L x y r p a5 n5 c5 W sv A w 1 f2 v' := by
  obtain ⟨⟨h1, h2, h2'⟩, h3, h4, h5⟩ := h
  have hM : ∀ p ∈ [g, q], p ∈ (rb + 2) :: L := fun p hp => by
    have : p = g ∨ p = q := by simpa using hp
    rcases this with rfl | rfl
    · simp [hsub.1]
    · simp [hsub.2]
  have hb : ∀ i, rb ≤ i → i < u.heap.size → v'.heap[i]? = u.heap[i]? := fun i hi hl => k3.block i hl (fun e => by
    have h2 : i = g ∨ i = q := by simpa using e
    omega)
  exact ⟨⟨h1.keptB k3 hlt, h2.kept (hb _ hp h2.lt), (hb _ hp2 h2'.lt).trans h2'⟩, k2, h4.keptB2 k3 hM⟩
theorem PuS.two {u : World} {f f2 : Nat → Value} (h : PuS g q rb p12 p10 L x y r p a5 n5 c5 W sv A w 1 f u) (hlt : g < rb ∧ q < rb) (hp : p12 ≠ rb + 2 ∧ p10 ≠ rb + 2) : PuS g q rb p12 p10 L x y r p a5 n5 c5 W sv A w 2 f2 ((u.setCell ⟨rb + 2, 0, none⟩ (.int .i64 (y.W : Int))).setCell ⟨rb + 2, 1, none⟩ (.slice a5 n5 c5)) := by
  obtain ⟨⟨h1, h2, h2'⟩, h3, h4⟩ := h
  obtain ⟨ra, rbb, hr⟩ := h1.rs
  have hk : KeepB [rb + 2] u ((u.setCell ⟨rb + 2, 0, none⟩ (.int .i64 (y.W : Int))).setCell ⟨rb + 2, 1, none⟩ (.slice a5 n5 c5)) := (KeepB.setCell _).trans (KeepB.setCell _)
  have hne : ∀ i, i ≠ rb + 2 → i < u.heap.size → ((u.setCell ⟨rb + 2, 0, none⟩ (.int .i64 (y.W : Int))).setCell ⟨rb + 2, 1, none⟩ (.slice a5 n5 c5)).heap[i]? = u.heap[i]? := fun i hi hl => hk.block i hl (fun e => hi (List.mem_singleton.1 e))
  have hsz := h1.sz
  have hp2 := put2 hr (.int .i64 (y.W : Int)) (.slice a5 n5 c5)
  exact ⟨⟨⟨h1.kb.strike2 hk (fun p hp => by rw [List.mem_singleton.1 hp]; omega), h1.xb.kept (hne rb (by omega) h1.xb.lt), h1.ab.kept (hne (rb + 1) (by omega) h1.ab.lt), ⟨_, _, hp2⟩, hsz⟩, h2.kept (hne p12 hp.1 h2.lt), (hne p10 hp.2 h2'.lt).trans h2'⟩, h3.keptB hk (fun e => by rw [List.mem_singleton] at e; omega) (fun e => by rw [List.mem_singleton] at e; omega) (fun p hp _ => by obtain rfl := List.mem_singleton.1 hp; exact ⟨_, _, hr, by decide⟩), h4.keptB2 hk (fun p hp => by rw [List.mem_singleton.1 hp]; simp), hp2⟩
end
end Go.Proofs.YtkggmcnocpgnbaaDoor.K

/- The law's do of a grid: a row that is put. -/
namespace Go.Proofs.YtkggmcnocpgnbaaDoor.K
open Go.RowKit

def PutOk10P (g rb : Nat) (y : Gd) (a5 : Option Addr) (n5 c5 : Nat) (y0 : Int) (z1a : Option Addr) (z1n z1c : Nat) (z1b d : Bool) : Nat → Value → World → Prop
  | 0, u, _ => u = .agg #[.int .i64 (y.W : Int), .slice a5 n5 c5]
  | 1, u, _ => u = .pointer (some ⟨g, 0, none⟩)
  | 2, u, _ => u = .pointer (some ⟨rb + 1, 1, none⟩)
  | 3, u, _ => u = .int .i64 y0
  | 4, u, _ => u = .agg #[.slice z1a z1n z1c, .bool z1b]
  | 5, u, _ => u = .bool d
  | 6, u, _ => u = .bool d
  | 7, u, _ => u = .bool true
  | 8, _, _ => True
  | 9, u, _ => u = .bool true
  | _, _, _ => True
set_option maxRecDepth 100000 in
set_option maxHeartbeats 16000000 in
theorem doPutIn_any {g q : Nat} {L : List Nat} {x : Gd} {v : Value} {A : ActG} (w : World) (hT : W.Tab w) (hk0 : A.kind = 0) (k : Nat) (hyk : A.y = (k : Int)) (hkx : k < x.rs.length) (hra : RngA A.row) (h : Gr g q x w) (hv : RefG L v x w) (hg : g ∈ L) (hq : q ∈ L) (hL : ∀ p ∈ L, p < w.heap.size) :
    Calls Tryd.prog 37 #[.pointer (some ⟨g, 0, none⟩), v, .agg (actC A)] w (DoG g q L (setG x A.y (doS W.ofS (rowAt x.rs A.y) A.row)) w) := by
  have hx := h.ok
  obtain ⟨y0, hA1⟩ : ∃ y0, A.y = y0 := ⟨_, rfl⟩
  rw [hA1] at hyk
  have hrow : x.rs[k]? = some (rowAt x.rs y0) := by unfold rowAt; rw [if_pos ⟨by omega, by omega⟩, hyk, Int.toNat_natCast, List.getD_eq_getElem?_getD, List.getElem?_eq_getElem hkx]; rfl
  rw [hA1]
  obtain ⟨r0, hr0⟩ : ∃ r0, rowAt x.rs y0 = r0 := ⟨_, rfl⟩
  obtain ⟨r2, hr2⟩ : ∃ r2, doS W.ofS r0 A.row = r2 := ⟨_, rfl⟩
  obtain ⟨y, hy9⟩ : ∃ y, setG x y0 r2 = y := ⟨_, rfl⟩
  obtain ⟨d, hd9⟩ : ∃ d, decide (0 ≤ y0 ∧ y0 < (x.rs.length : Int)) = d := ⟨_, rfl⟩
  have hrr : r0.l.length ≤ 1000 ∧ AllC Rng r0.l := by
    rw [← hr0]
    exact ⟨by rw [hx.len _ (List.mem_of_getElem? hrow)]; exact hx.w2, hx.rng _ (List.mem_of_getElem? hrow)⟩
  have HXo := Lib.hid hx
  obtain ⟨rb, hrb⟩ : ∃ rb, w.heap.size = rb := ⟨_, rfl⟩
  obtain ⟨a, n, c, rfl, hrl⟩ := hv
  unfold refV
  obtain ⟨w1, hw1⟩ : ∃ w1, w.alloc (.cells #[.int .i64 (x.W : Int), .slice a n c] 82) = w1 := ⟨_, rfl⟩
  have hs1 : w1.heap.size = rb + 1 := by rw [← hw1, World.size_alloc, hrb]
  obtain ⟨w2, hw2⟩ : ∃ w2, w1.alloc (.cells (actC A) 77) = w2 := ⟨_, rfl⟩
  have hs2 : w2.heap.size = rb + 2 := by rw [← hw2, World.size_alloc, hs1]
  obtain ⟨w3, hw3⟩ : ∃ w3, w2.alloc (.cells #[.int .i64 0, .slice none 0 0] 82) = w3 := ⟨_, rfl⟩
  have hs3 : w3.heap.size = rb + 3 := by rw [← hw3, World.size_alloc, hs2]
  have b01 : Below w.heap.size w w1 := by rw [← hw1]; exact (Below.refl _ _).alloc (Nat.le_refl _) _
  have b12 : Below w1.heap.size w1 w2 := by rw [← hw2]; exact (Below.refl _ _).alloc (Nat.le_refl _) _
  have b23 : Below w2.heap.size w2 w3 := by rw [← hw3]; exact (Below.refl _ _).alloc (Nat.le_refl _) _
  have b03 : Below w.heap.size w w3 := (b01.trans (b12.mono (by omega))).trans (b23.mono (by omega))
  have hx1 : GrB rb x.W (.slice a n c) w1 := by rw [← hw1, ← hrb]; exact GrB.new w x.W _
  have ha2 : ActB (rb + 1) A w2 := by rw [← hw2, ← hs1]; exact World.alloc_heap_new w1 _
  have hr3 : w3.heap[rb + 2]? = some (.cells #[.int .i64 0, .slice none 0 0] 82 (0, 0)) := by rw [← hw3, ← hs2]; exact World.alloc_heap_new w2 _
  have hdo : DoB g q rb x.W (.slice a n c) A w w3 := ⟨KeepB.of_below b03, (hx1.belowAll b12).belowAll b23, ha2.kept (b23.block _ ha2.lt), ⟨_, _, hr3⟩, hrb.symm⟩
  have hlt := h.lt
  rw [hrb] at hlt
  have hx3 := hdo.xb
  have hc0 := hx3.c0
  have hc1 := hx3.c1
  have hab := hdo.ab
  have a0 := hab.c0
  rw [hk0] at a0
  have a1 := hab.c1
  rw [hA1] at a1
  have hrl3 : RowsL .i64 ((rb + 2) :: L) a n c x.rs w3 := (hrl.cons (by omega)).below b03
  have hg3 := h.below b03
  have hrowc : Calls Tryd.prog 60 #[.pointer (some ⟨g, 0, none⟩), .int .i64 y0] w3 (RowA r0 w3) := by
    obtain ⟨us, cap, hgg⟩ := hg3
    rw [← hr0]
    exact row_any y0 w3 hgg
  obtain ⟨P, hP⟩ : ∃ P, DoG g q L (setG x y0 (doS W.ofS (rowAt x.rs y0) A.row)) w = P := ⟨_, rfl⟩
  rw [hr0, hr2, hy9] at hP
  rw [hr0, hr2, hy9, hP]
  have HRw := Lib.hid hrowc
  have HP := Lib.hid hP
  have HY := Lib.hid hy9
  have HDd := Lib.hid hd9
  have HDo := Lib.hid hdo
  have HW1 := Lib.hid hw1
  have HW2 := Lib.hid hw2
  have HW3 := Lib.hid hw3
  have HRb := Lib.hid hrb
  have HS3 := Lib.hid hs3
  have HLt := Lib.hid hlt
  have HL := Lib.hid hL
  have HSub : Hid (g ∈ L ∧ q ∈ L) := Lib.hid ⟨hg, hq⟩
  have HGr0 := Lib.hid hg3
  have HRl3 := Lib.hid hrl3
  have HRl0 := Lib.hid hrl
  have HB03 := Lib.hid b03
  have HRl : Hid (r0.l.length ≤ 1000) := Lib.hid hrr.1
  have HRg : Hid (AllC Rng r0.l) := Lib.hid hrr.2
  have HRa := Lib.hid hra
  have HRd := Lib.hid hr2
  have HR0 := Lib.hid hr0
  have HRow := Lib.hid hrow
  have HT := Lib.hid hT
  have HZl : Hid (r2.l.length ≤ 1000) := Lib.hid (by rw [← hr2]; exact do_len hrr.1)
  have HZg : Hid (AllC Rng r2.l) := Lib.hid (by rw [← hr2]; exact do_rng hrr.2 hra)
  have HA1 := Lib.hid hA1
  have HYk := Lib.hid hyk; have HKx := Lib.hid hkx
  rw [hyk] at a1 HRw
  clear hP hy9 hd9 hdo hw1 hw2 hw3 hrb hs1 hs2 hs3 b01 b12 b23 b03 hx1 ha2 hr3 hlt hx3 hab hrl3 hrl hL h hg hq hx hrowc hg3 hrr hra hr2 hr0 hrow hT hA1 hk0 hyk hkx
  -- the document's row
  obtain ⟨us, hin, hrv, hoff⟩ := HRl0.out.ex
  have hul : n = us.length := hin.len
  have hkx := HKx.out
  have hku : k < us.length := by rw [hrv.1]; exact hkx
  obtain ⟨bq, off, rfl, hbq, hat⟩ := hin.at_.resolve_left (by intro e; rw [e] at hku; simp at hku)
  have hq := hat k us[k] (List.getElem?_eq_getElem hku)
  have hu9 := hrv.2 k us[k] _ (List.getElem?_eq_getElem hku) HRow.out
  have hof9 := hoff us[k] (List.getElem_mem hku)
  obtain ⟨⟨x9, m9, c9, b9⟩, hx9⟩ : ∃ k9, us[k] = k9 := ⟨_, rfl⟩
  rw [hx9] at hq hu9 hof9
  rw [HR0.out] at hu9
  have hbq3 : bq < w3.heap.size := by have := HS3.out; have := HRb.out; omega
  have t0 : w3.cell? ⟨bq, off + k * 2, none⟩ = some (.slice x9 m9 c9) := (World.cell?_of_block (a := ⟨bq, off + k * 2, none⟩) (HB03.out.block bq hbq)).trans hq.1
  have t1 : w3.cell? ⟨bq, off + k * 2 + 1, none⟩ = some (.bool b9) := (World.cell?_of_block (a := ⟨bq, off + k * 2 + 1, none⟩) (HB03.out.block bq hbq)).trans hq.2
  have HT0 := Lib.hid t0
  have HT1 := Lib.hid t1
  have HBq3 := Lib.hid hbq3
  have HU9 := Lib.hid (hu9.belowAll HB03.out)
  have HOf9 := Lib.hid hof9
  have HUl9 : Hid (m9 ≠ 0 → ∀ b off, x9 = some ⟨b, off, none⟩ → b < w.heap.size) := Lib.hid (fun hn b off e => hu9.lt hn b off e)
  have hkn : k < n := by omega
  have hkn1 : n ≤ 1000 := by have := HXo.out.h2; have := HRl0.out.len; omega
  have d1 : decide ((0 : Int) ≤ (k : Int)) = true := decide_eq_true (by omega)
  have d2 : decide (k < n) = true := decide_eq_true hkn
  clear hin hrv hoff hul hku hbq hat hq hu9 hof9 hx9 hbq3 t0 t1 hkx
  go_enter Tryd.func37, Tryd.ntmps37
  go_upto_region 1 with fail
  try rw [HW1.out, HRb.out, HW2.out, HW3.out]
  go_wp2_with fail
  refine HRw.out.mono ?_
  rintro e w4 ⟨⟨p1a, p1n, p1c, p1b⟩, rfl, hp1, hb34⟩
  unfold Rv.val
  simp only
  have hlt := HLt.out
  have hdo4 := HDo.out.below hb34 hlt
  obtain ⟨p8, hp8⟩ : ∃ p, w4.heap.size = p := ⟨_, rfl⟩
  obtain ⟨w5, hw5⟩ : ∃ w5, w4.alloc (.cells #[.slice p1a p1n p1c, .bool p1b] 27) = w5 := ⟨_, rfl⟩
  have hs5 : w5.heap.size = p8 + 1 := by rw [← hw5, World.size_alloc, hp8]
  obtain ⟨w6, hw6⟩ : ∃ w6, w5.alloc (.cells #[.slice none 0 0, .bool false] 38) = w6 := ⟨_, rfl⟩
  have hs6 : w6.heap.size = p8 + 2 := by rw [← hw6, World.size_alloc, hs5]
  have b45 : Below w4.heap.size w4 w5 := by rw [← hw5]; exact (Below.refl _ _).alloc (Nat.le_refl _) _
  have b56 : Below w5.heap.size w5 w6 := by rw [← hw6]; exact (Below.refl _ _).alloc (Nat.le_refl _) _
  have b46 : Below w4.heap.size w4 w6 := b45.trans (b56.mono b45.size)
  have h85 : RoB 27 p8 (.slice p1a p1n p1c) p1b w5 := by rw [← hw5, ← hp8]; exact RoB.new _ _ _ _
  have h86 := h85.belowAll b56
  have h96 : RoB 38 (p8 + 1) (.slice none 0 0) false w6 := by rw [← hw6, ← hs5]; exact RoB.new _ _ _ _
  have hdo6 := hdo4.below b46 hlt
  have a1 := hdo6.ab.c1
  rw [HA1.out, HYk.out] at a1
  have gc1 := hdo6.xb.c1
  have HB46 := Lib.hid b46
  have HB34 := Lib.hid hb34
  have HP1 := Lib.hid hp1
  have HDo4 := Lib.hid hdo4
  have HP8 := Lib.hid hp8
  have HW5 := Lib.hid hw5
  have HW6 := Lib.hid hw6
  have HS6 := Lib.hid hs6
  have H86 := Lib.hid h86
  have H96 := Lib.hid h96
  have k0 := h96.c0
  have k1 := h96.c1
  have kf0 := h96.fr 0
  have kf1 := h96.fr 1
  have b36 : Below w3.heap.size w3 w6 := hb34.trans (b46.mono hb34.size)
  have t0 : w6.cell? ⟨bq, off + k * 2, none⟩ = some (.slice x9 m9 c9) := (b36.cell (p := ⟨bq, off + k * 2, none⟩) HBq3.out).trans HT0.out
  have t1 : w6.cell? ⟨bq, off + k * 2 + 1, none⟩ = some (.bool b9) := (b36.cell (p := ⟨bq, off + k * 2 + 1, none⟩) HBq3.out).trans HT1.out
  clear b36
  clear hp1 hb34 hdo4 hdo6 hp8 hw5 hw6 hs5 hs6 b45 b56 b46 h85 h86 h96 hlt HRw a0
  go_upto_region 4 with fail
  rw [HW5.out, HP8.out, HW6.out]
  go_upto_region 6 with fail
  obtain ⟨w7, hw7⟩ : ∃ w7, (w6.setCell ⟨p8 + 1, 0, none⟩ (.slice x9 m9 c9)).setCell ⟨p8 + 1, 1, none⟩ (.bool b9) = w7 := ⟨_, rfl⟩
  rw [hw7]
  have hk67 : KeepB [p8 + 1] w6 w7 := by rw [← hw7]; exact (KeepB.setCell _).trans (KeepB.setCell _)
  have h97 : RoB 38 (p8 + 1) (.slice x9 m9 c9) b9 w7 := by rw [← hw7]; exact (H96.out.set0 (v' := .slice x9 m9 c9)).set1
  have h87 : RoB 27 p8 (.slice p1a p1n p1c) p1b w7 := hk67.block1 H86.out (by simp)
  have b47 : Below w4.heap.size w4 w7 := hk67.below (fun i hi => by rw [List.mem_singleton.1 hi]; have := HP8.out; omega) HB46.out HB46.out.size
  clear k0 k1 kf0 kf1 t0 t1 hw7 hk67 gc1 a1
  have hp17 := (HP1.out.belowAll b47)
  have hp27 := ((HU9.out.belowAll HB34.out).belowAll b47)
  unfold Rv.val at hp17 hp27
  simp only at hp17 hp27
  have HIs := Lib.hid (isRow_any hp17 hp27 HRg.out HRl.out HRl.out)
  have hdd : decide (r0 = r0) = true := by simp
  rw [hdd] at HIs
  have k0 := h87.c0
  have k1 := h87.c1
  have j0 := h97.c0
  have j1 := h97.c1
  have H87 := Lib.hid h87
  have H97 := Lib.hid h97
  have HB47 := Lib.hid b47
  have HP17 := Lib.hid hp17
  have HP27 := Lib.hid hp27
  clear h87 h97 b47 hp17 hp27 hdd
  go_wp2_with fail
  refine HIs.out.mono ?_
  rintro e w8 ⟨rfl, hb78⟩
  have hlt := HLt.out
  have hdo8 := (HDo4.out.below HB47.out hlt).below hb78 hlt
  have k0 := (H87.out.belowAll hb78).c0
  have k1 := (H87.out.belowAll hb78).c1
  have j0 := (H97.out.belowAll hb78).c0
  have j1 := (H97.out.belowAll hb78).c1
  have m8 := hdo8.ab.c8
  have m9' := hdo8.ab.c9
  have m10 := hdo8.ab.c10
  have m11 := hdo8.ab.c11
  have m12 := hdo8.ab.c12
  have b38 : Below w3.heap.size w3 w8 := HB34.out.trans ((HB47.out.trans (hb78.mono HB47.out.size)).mono HB34.out.size)
  have b08 : Below w.heap.size w w8 := HB03.out.trans (b38.mono HB03.out.size)
  have hT8 := HT.out.belowAll b08
  have HDd0 := Lib.hid (J.do_any ⟨p1a, p1n, p1c, p1b⟩ ⟨x9, m9, c9, b9⟩ r0 r0 A.row w8 hT8 (HP17.out.belowAll hb78) (HP27.out.belowAll hb78) HRl.out HRl.out HRa.out)
  unfold actV Rv.val at HDd0
  simp only at HDd0
  have HDo8 := Lib.hid hdo8
  have HB08 := Lib.hid b08
  have HB38 := Lib.hid b38
  clear hb78 hdo8 b38 b08 hT8 hlt HIs
  go_wp2_with fail
  refine HDd0.out.mono ?_
  rintro e w9 ⟨v1, v2, rfl, ⟨⟨z1a, z1n, z1c, z1b⟩, rfl, hz1, -⟩, ⟨⟨z2a, z2n, z2c, z2b⟩, rfl, hz2, hf2⟩, hb89⟩
  rw [HRd.out] at hz1 hz2
  unfold Rv.val
  simp only at hf2 ⊢
  obtain ⟨p10, hp10⟩ : ∃ p, w9.heap.size = p := ⟨_, rfl⟩
  obtain ⟨w10, hw10⟩ : ∃ w10, w9.alloc (.cells #[.slice z1a z1n z1c, .bool z1b] 27) = w10 := ⟨_, rfl⟩
  have hs10 : w10.heap.size = p10 + 1 := by rw [← hw10, World.size_alloc, hp10]
  obtain ⟨w11, hw11⟩ : ∃ w11, w10.alloc (.cells #[.slice z2a z2n z2c, .bool z2b] 38) = w11 := ⟨_, rfl⟩
  have hs11 : w11.heap.size = p10 + 2 := by rw [← hw11, World.size_alloc, hs10]
  have b9a : Below w9.heap.size w9 w10 := by rw [← hw10]; exact (Below.refl _ _).alloc (Nat.le_refl _) _
  have bab : Below w10.heap.size w10 w11 := by rw [← hw11]; exact (Below.refl _ _).alloc (Nat.le_refl _) _
  have b9b : Below w9.heap.size w9 w11 := b9a.trans (bab.mono b9a.size)
  have b8b : Below w8.heap.size w8 w11 := hb89.trans (b9b.mono hb89.size)
  have hta : RoB 27 p10 (.slice z1a z1n z1c) z1b w11 := by
    have h : RoB 27 p10 (.slice z1a z1n z1c) z1b w10 := by rw [← hw10, ← hp10]; exact RoB.new _ _ _ _
    exact h.belowAll bab
  have htb : RoB 38 (p10 + 1) (.slice z2a z2n z2c) z2b w11 := by rw [← hw11, ← hs10]; exact RoB.new _ _ _ _
  have hlt := HLt.out
  have hdob := HDo8.out.below b8b hlt
  have hbig := hdob.big HL.out HRb.out
  have hxv : RefG ((rb + 2) :: L) (.agg #[.int .i64 (x.W : Int), .slice (some ⟨bq, off, none⟩) n c]) x w11 := ⟨_, n, c, rfl, (HRl3.out.below HB38.out).below b8b⟩
  have hoff2 : Off ((rb + 2) :: L) ⟨z2a, z2n, z2c, z2b⟩ := fun hn b off e hb => by
    have hl8 := HDo8.out.lt
    have hrb := HRb.out
    rcases hf2 with ⟨h4, h5⟩ | h4
    · have hn' : z2n ≠ 0 := hn
      rw [h5] at hn'
      have h6 := HUl9.out hn' b off (by rw [← h4]; exact e)
      have h7 := HOf9.out hn' b off (by show (x9 : Option Addr) = _; rw [← h4]; exact e)
      rcases List.mem_cons.1 hb with rfl | hb
      · omega
      · exact h7 hb
    · have h6 := h4 b off e
      rcases List.mem_cons.1 hb with rfl | hb
      · omega
      · have := HL.out b hb; omega
  have hset := refSet_any y0 (p := ⟨z2a, z2n, z2c, z2b⟩) w11 hxv HXo.out (hz2.belowAll b9b) hoff2 HZl.out hbig
  unfold Rv.val at hset
  simp only at hset
  have gc0 := hdob.xb.c0
  have gc1 := hdob.xb.c1
  have a1 := hdob.ab.c1
  rw [HA1.out] at a1
  have k0 := htb.c0
  have k1 := htb.c1
  have HSet := Lib.hid hset
  have HZ1 := Lib.hid (hz1.belowAll b9b)
  have HDob := Lib.hid hdob
  have HTa := Lib.hid hta
  have HP10 := Lib.hid hp10
  have HW10 := Lib.hid hw10
  have HW11 := Lib.hid hw11
  have HS11 := Lib.hid hs11
  have HGrb := Lib.hid (((HGr0.out.below HB38.out).below b8b))
  have HP10r : Hid (rb + 3 ≤ p10) := Lib.hid (by have := HDo8.out.lt; have := hb89.size; omega)
  clear hz1 hz2 hf2 hb89 hp10 hw10 hw11 hs10 hs11 b9a bab b9b b8b hta htb hlt hdob hbig hxv hoff2 hset HDd0
  go_upto_region 9 with fail
  rw [HW10.out, HP10.out, HW11.out]
  go_wp2_with fail
  refine HSet.out.mono ?_
  rintro e w12 ⟨v5, rfl, hRG, hbc⟩
  rw [HY.out] at hRG
  rw [HDd.out]
  obtain ⟨a5, n5, c5, rfl, hrl5⟩ := hRG
  unfold refV
  obtain ⟨p12, hp12⟩ : ∃ p, w12.heap.size = p := ⟨_, rfl⟩
  obtain ⟨w13, hw13⟩ : ∃ w13, w12.alloc (.cells #[.int .i64 (y.W : Int), .slice a5 n5 c5] 82) = w13 := ⟨_, rfl⟩
  have bcd : Below w12.heap.size w12 w13 := by rw [← hw13]; exact (Below.refl _ _).alloc (Nat.le_refl _) _
  have hg13 : GrB p12 y.W (.slice a5 n5 c5) w13 := by rw [← hw13, ← hp12]; exact GrB.new w12 y.W _
  have hlt := HLt.out
  have hs0 : PuS g q rb p12 p10 L x y r2 ⟨z1a, z1n, z1c, z1b⟩ a5 n5 c5 x.W (.slice (some ⟨bq, off, none⟩) n c) A w 0 (fun _ => undef) w13 := ⟨⟨(HDob.out.below hbc hlt).below bcd hlt, hg13, (HTa.out.belowAll hbc).belowAll bcd⟩, (HGrb.out.below hbc).below bcd, ⟨a5, n5, c5, rfl, hrl5.below bcd⟩, (HZ1.out.belowAll hbc).belowAll bcd⟩
  have HS0 := Lib.hid hs0
  have HPg : Hid (rb ≤ p12) := Lib.hid (by have := hbc.size; have := HS11.out; have := HP10r.out; omega)
  have HPg2 : Hid (rb ≤ p10) := Lib.hid (by have := HP10r.out; omega)
  have HPr : Hid (p12 ≠ rb + 2 ∧ p10 ≠ rb + 2) := Lib.hid (by have := hbc.size; have := HS11.out; have := HP10r.out; omega)
  have HW13 := Lib.hid hw13
  have HP12 := Lib.hid hp12
  clear hbc hrl5 hp12 hw13 bcd hg13 hlt hs0 HSet
  go_upto_region 10 with fail
  rw [HW13.out, HP12.out]
  refine Go.Proofs.YtkggmcnocpgnbaaDoor.R.wp_region_prog [5, 8] (by kernel_rfl) (PuS g q rb p12 p10 L x y r2 ⟨z1a, z1n, z1c, z1b⟩ a5 n5 c5 x.W (.slice (some ⟨bq, off, none⟩) n c) A w) (fun _ _ => True) (PutOk10P g rb y a5 n5 c5 y0 z1a z1n z1c z1b d) (by rfl) (by kernel_rfl) (by kernel_rfl) (by kernel_rfl) ?hcong ?hOk ?hop ?hdone ?h0
  case hcong => exact fun k f f2 u hs hst => PuS.cong hst
  case hOk => intro i u w1 w2 h hr; unfold PutOk10P at h ⊢; split <;> first | exact True.intro | exact h
  case h0 => exact HS0.out.drew
  case hop =>
    refine ⟨?_, ?_, ?_, ?_, ?_, ?_, ?_, ?_, ?_, ?_, trivial⟩
    · intro k z v hst hag hdep
      refine .inl ⟨rfl, fun K hK => ?_⟩
      have d12 : z.tmps.getD 12 undef = .pointer (some ⟨p12, 0, none⟩) := hag.2.2 12 (by kernel_rfl)
      have e12 := d12
      rw [Array.getD_eq_getD_getElem?] at e12
      have l0 := hst.1.2.1.c0
      have l1 := hst.1.2.1.c1
      have HSt := Lib.hid hst
      clear hdep hag hst
      go_simp
      exact hK _ _ trivial rfl HSt.out
    · intro k z v hst hag hdep
      refine .inl ⟨rfl, fun K hK => ?_⟩
      have d0 : z.tmps.getD 0 undef = .pointer (some ⟨g, 0, none⟩) := hag.2.2 0 (by kernel_rfl)
      have e0 := d0
      rw [Array.getD_eq_getD_getElem?] at e0
      have HSt := Lib.hid hst
      clear hdep hag hst
      go_simp
      exact hK _ _ trivial rfl HSt.out
    · intro k z v hst hag hdep
      refine .inl ⟨rfl, fun K hK => ?_⟩
      have d5 : z.tmps.getD 5 undef = .pointer (some ⟨rb + 1, 0, none⟩) := hag.2.2 5 (by kernel_rfl)
      have e5 := d5
      rw [Array.getD_eq_getD_getElem?] at e5
      have HSt := Lib.hid hst
      clear hdep hag hst
      go_simp
      exact hK _ _ trivial rfl HSt.out
    · intro k z v hst hag hdep
      refine .inl ⟨rfl, fun K hK => ?_⟩
      have d67 : z.tmps.getD 67 undef = .pointer (some ⟨rb + 1, 1, none⟩) := hdep { on := 2, ground := .data } (by simp) rfl _ _ rfl rfl
      have e67 := d67
      rw [Array.getD_eq_getD_getElem?] at e67
      have l0 := hst.1.1.ab.c1
      rw [HA1.out] at l0
      have HSt := Lib.hid hst
      clear hdep hag hst
      go_simp
      exact hK _ _ trivial rfl HSt.out
    · intro k z v hst hag hdep
      refine .inl ⟨rfl, fun K hK => ?_⟩
      have d10 : z.tmps.getD 10 undef = .pointer (some ⟨p10, 0, none⟩) := hag.2.2 10 (by kernel_rfl)
      have e10 := d10
      rw [Array.getD_eq_getD_getElem?] at e10
      have l0 := hst.1.2.2.c0
      have l1 := hst.1.2.2.c1
      have HSt := Lib.hid hst
      clear hdep hag hst
      go_simp
      exact hK _ _ trivial rfl HSt.out
    · intro z v hst hag hdep
      refine ⟨rfl, fun K hK => ?_⟩
      have d66 : z.tmps.getD 66 undef = .pointer (some ⟨g, 0, none⟩) := hdep { on := 1, ground := .data } (by simp) rfl _ _ rfl rfl
      have e66 := d66
      rw [Array.getD_eq_getD_getElem?] at e66
      have d68 : z.tmps.getD 68 undef = .int .i64 y0 := hdep { on := 3, ground := .data } (by simp) rfl _ _ rfl rfl
      have e68 := d68
      rw [Array.getD_eq_getD_getElem?] at e68
      have d69 : z.tmps.getD 69 undef = .agg #[.slice z1a z1n z1c, .bool z1b] := hdep { on := 4, ground := .data } (by simp) rfl _ _ rfl rfl
      have e69 := d69
      rw [Array.getD_eq_getD_getElem?] at e69
      have HU := Lib.hid (gset_any y0 v hst.2.1 hst.2.2.2 HZg.out HZl.out)
      have HSt := Lib.hid hst
      clear hdep hag hst
      unfold Rv.val at HU
      simp only at HU
      rw [HDd.out, HY.out] at HU
      go_simp
      refine HU.out.mono ?_
      rintro e w' ⟨rfl, k1, k2⟩
      exact hK _ _ trivial rfl (HSt.out.one HLt.out HSub.out HPg.out HPg2.out k1 k2)
    · intro k z v hst hag hdep
      refine .inl ⟨rfl, fun K hK => ?_⟩
      have d13 : z.tmps.getD 13 undef = .bool d := hag.2.2 13 (by kernel_rfl)
      have e13 := d13
      rw [Array.getD_eq_getD_getElem?] at e13
      have HSt := Lib.hid hst
      clear hdep hag hst
      go_simp
      exact hK _ _ trivial rfl HSt.out
    · intro k z v hst hag hdep
      refine .inl ⟨rfl, fun K hK => ?_⟩
      have d70 : z.tmps.getD 70 undef = .bool d := hdep { on := 5, ground := .data } (by simp) rfl _ _ rfl rfl
      have e70 := d70
      rw [Array.getD_eq_getD_getElem?] at e70
      have d71 : z.tmps.getD 71 undef = .bool d := hdep { on := 6, ground := .data } (by simp) rfl _ _ rfl rfl
      have e71 := d71
      rw [Array.getD_eq_getD_getElem?] at e71
      have HSt := Lib.hid hst
      clear hdep hag hst
      go_simp
      exact hK _ _ trivial (by simp [PutOk10P]) HSt.out
    · intro z v hst hag hdep
      refine ⟨rfl, fun K hK => ?_⟩
      have d6 : z.tmps.getD 6 undef = .pointer (some ⟨rb + 2, 0, none⟩) := hag.2.2 6 (by kernel_rfl)
      have e6 := d6
      rw [Array.getD_eq_getD_getElem?] at e6
      have d65 : z.tmps.getD 65 undef = .agg #[.int .i64 (y.W : Int), .slice a5 n5 c5] := hdep { on := 0, ground := .data } (by simp) rfl _ _ rfl rfl
      have e65 := d65
      rw [Array.getD_eq_getD_getElem?] at e65
      obtain ⟨rv0, rv1, hrs⟩ := hst.1.1.rs
      obtain ⟨k0, k1, k2, k3⟩ := two_cells hrs
      have HSt := Lib.hid hst
      clear hdep hag hst hrs
      go_simp
      exact hK undef _ trivial trivial (HSt.out.two HLt.out HPr.out)
    · intro k z v hst hag hdep
      refine .inl ⟨rfl, fun K hK => ?_⟩
      have d72 : z.tmps.getD 72 undef = .bool true := hdep { on := 7, ground := .data } (by simp) rfl _ _ rfl rfl
      have e72 := d72
      rw [Array.getD_eq_getD_getElem?] at e72
      have HSt := Lib.hid hst
      clear hdep hag hst
      go_simp
      exact hK _ _ trivial rfl HSt.out
  case hdone =>
    intro z v hst hag hok
    have d7 : z.tmps.getD 7 undef = .bool true := hok 9 _ 7 rfl rfl
    have hd := hst.1.1
    obtain ⟨h3, h4, h5⟩ := hst.2
    have HD := Lib.hid hd
    have H3 := Lib.hid h3
    have H4 := Lib.hid h4
    obtain ⟨k0, k1, k2, k3⟩ := two_cells h5
    clear hst hd h3 h4 h5
    obtain ⟨uu, hu, hzz⟩ := Go.Proofs.YtkggmcnocpgnbaaDoor.R.agree_frame [65, 66, 67, 68, 69, 70, 71, 72, 7] rfl hag
    have e7 := (hu 7).trans d7
    subst hzz
    simp only [List.foldl_cons, List.foldl_nil]
    rw [e7]
    clear e7 d7 hu hag hok
    try dsimp only [Exit.then]
    simp only [List.setIfInBounds_toArray, List.set_cons_succ, List.set_cons_zero]
    generalize uu 65 = u65', uu 66 = u66', uu 67 = u67', uu 68 = u68', uu 69 = u69', uu 70 = u70', uu 71 = u71', uu 72 = u72'
    clear uu
    rename_i K hK
    refine hK _ _ ?_
    go_wp2
    refine bodyPost_ret (v := .tuple #[.agg #[.int .i64 (y.W : Int), .slice a5 n5 c5], .bool true]) (by rw [results_cell_tmp (fn := Tryd.f37) rfl]; go_simp <;> rfl) rfl ?_
    rw [← HP.out]
    exact ⟨_, q, rfl, H3.out, (H4.out.sub (fun p hp => List.mem_cons_of_mem _ hp)).consMem HSub.out.2, .inl rfl, HD.out.kb⟩
end Go.Proofs.YtkggmcnocpgnbaaDoor.K
