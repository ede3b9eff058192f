/- The contract of the statements' Is: is a snap the document's? -/
import Derived.Test.YtjlljkdlgkociaaMerged20
import Derived.Test.YtjlljkdlgkociaaMerged21
import Derived.Test.YtjlljkdlgkociaaMerged27
import GoSem.Claim
import Derived.Test.YtjlljkdlgkociaaMerged9
import Derived.Test.YtjlljkdlgkociaaMerged18
import Derived.Test.YtjlljkdlgkociaaJThree
import Derived.Test.YtjlljkdlgkociaaMerged12
import Derived.Laws.ResultCell
import Derived.Deep.Cut
import Derived.Deep.CutBlock
namespace Go.Proofs.Ytjlljkdlgkociaa.K
open Go.RowKit Go.Proofs.Ytjlljkdlgkociaa.I

set_option maxRecDepth 100000 in
set_option maxHeartbeats 16000000 in
theorem nis_any (s s2 : Sn) (ra : Option Addr) (rn rc : Nat) (rga : Option Addr) (rgn rgc : Nat) (qa : Option Addr) (qn qc : Nat) (qga : Option Addr) (qgn qgc : Nat) (w : World) (h1 : SnIn .i32 ra rn rc rga rgn rgc s w) (h2 : SnIn .i64 qa qn qc qga qgn qgc s2 w) (m1 : SnB s) (m2 : SnB s2) :
    Calls Try.prog 10 #[.agg (snA s ra rn rc rga rgn rgc), .agg (snA s2 qa qn qc qga qgn qgc)] w fun e w' => e = .returned (.bool (decide (s = s2))) ∧ Below w.heap.size w w' := by
  obtain ⟨rb, hrb⟩ : ∃ rb, w.heap.size = rb := ⟨_, rfl⟩
  obtain ⟨D, hD⟩ : ∃ D, decide (s = s2) = D := ⟨_, rfl⟩
  rw [hD]
  obtain ⟨P, hP⟩ : ∃ P : Ending → World → Prop, (fun e w' => e = .returned (.bool D) ∧ Below w.heap.size w w') = P := ⟨_, rfl⟩
  rw [hP]
  obtain ⟨w1, hw1⟩ : ∃ w1, w.alloc (.cells (snA s ra rn rc rga rgn rgc) 27) = w1 := ⟨_, rfl⟩
  obtain ⟨w2, hw2⟩ : ∃ w2, w1.alloc (.cells (snA s2 qa qn qc qga qgn qgc) 35) = w2 := ⟨_, rfl⟩
  have hs1 : w1.heap.size = rb + 1 := by rw [← hw1, World.size_alloc, hrb]
  have hb1 : Below rb w w1 := by rw [← hw1, ← hrb]; exact (Below.refl _ _).alloc (Nat.le_refl _) _
  have hb2 : Below rb w w2 := by rw [← hw2]; exact hb1.alloc (by omega) _
  have hA1 : w1.heap[rb]? = some (.cells (snA s ra rn rc rga rgn rgc) 27 (0, 0)) := by rw [← hw1, ← hrb]; exact heap_alloc_new w _
  have hA : w2.heap[rb]? = some (.cells (snA s ra rn rc rga rgn rgc) 27 (0, 0)) := by rw [← hw2, Below.heap_alloc _ _ _ (by omega)]; exact hA1
  have hB : w2.heap[rb + 1]? = some (.cells (snA s2 qa qn qc qga qgn qgc) 35 (0, 0)) := by rw [← hw2, ← hs1]; exact heap_alloc_new w1 _
  have g1 := h1.belowAll (by rw [hrb]; exact hb2)
  have g2 := h2.belowAll (by rw [hrb]; exact hb2)
  have KG : Hid (∀ w3, Below w2.heap.size w2 w3 → Calls Try.prog 33 #[.slice rga rgn rgc, .slice qga qgn qgc] w3 fun e w' => e = .returned (.bool (decide (s.B = s2.B))) ∧ Below w3.heap.size w3 w') := Lib.hid (fun w3 hb => lawGlyphs_any rga rgn rgc s.B qga qgn qgc s2.B w3 (g1.beg.belowAll hb) (g2.beg.belowAll hb) m1.brng (by rw [g1.beg.len]; exact m1.beg) (by rw [g2.beg.len]; exact m2.beg))
  have KR := Lib.hid (lawRows_any w2 g1.rows g2.rows m1.rng m1.cells m2.cells (by have := g1.rows.len; have := m1.rows; omega) (by have := g2.rows.len; have := m2.rows; omega))
  have HEnd : Hid (∀ b, (s = s2 ↔ b = true) → ∀ w3, Below w2.heap.size w2 w3 → P (.returned (.bool b)) w3) := Lib.hid (fun b hb w3 h3 => by
    rw [← hP]
    have : D = b := by rw [← hD]; cases b <;> simp_all
    rw [this]
    exact ⟨rfl, by rw [hrb]; exact hb2.trans (h3.mono hb2.size |>.mono (by have := hb2.size; omega))⟩)
  clear hP hD h1 h2 m1 m2 g1 g2 hb1 hb2 hA1
  obtain ⟨ak, aw, ah, ax, ay, at_, aR, an, ac, aB⟩ := s
  obtain ⟨bk, bw, bh, bx, bY, bt, bR, bn, bc, bB⟩ := s2
  have HBad : Hid ((⟨ak, aw, ah, ax, ay, at_, aR, an, ac, aB⟩ : Sn) ≠ ⟨bk, bw, bh, bx, bY, bt, bR, bn, bc, bB⟩ → ∀ w3, Below w2.heap.size w2 w3 → P (.returned (.bool false)) w3) := Lib.hid (fun h w3 h3 => HEnd.out false ⟨fun e => absurd e h, fun e => by cases e⟩ w3 h3)
  unfold snA at hw1 hw2 hA hB ⊢
  simp only at hw1 hw2 hA hB ⊢ KG KR
  have ca0 : w2.cell? ⟨rb, 0, none⟩ = some (.int .i64 ak) := by rw [cell_block hA]; rfl
  have ca1 : w2.cell? ⟨rb, 1, none⟩ = some (.int .i64 aw) := by rw [cell_block hA]; rfl
  have ca2 : w2.cell? ⟨rb, 2, none⟩ = some (.int .i64 ah) := by rw [cell_block hA]; rfl
  have ca3 : w2.cell? ⟨rb, 3, none⟩ = some (.int .i64 ax) := by rw [cell_block hA]; rfl
  have ca4 : w2.cell? ⟨rb, 4, none⟩ = some (.int .i64 ay) := by rw [cell_block hA]; rfl
  have ca5 : w2.cell? ⟨rb, 5, none⟩ = some (.string at_) := by rw [cell_block hA]; rfl
  have ca6 : w2.cell? ⟨rb, 6, none⟩ = some (.slice ra rn rc) := by rw [cell_block hA]; rfl
  have ca7 : w2.cell? ⟨rb, 7, none⟩ = some (.int .i64 an) := by rw [cell_block hA]; rfl
  have ca8 : w2.cell? ⟨rb, 8, none⟩ = some (.int .i64 ac) := by rw [cell_block hA]; rfl
  have ca9 : w2.cell? ⟨rb, 9, none⟩ = some (.slice rga rgn rgc) := by rw [cell_block hA]; rfl
  have cb0 : w2.cell? ⟨rb + 1, 0, none⟩ = some (.int .i64 bk) := by rw [cell_block hB]; rfl
  have cb1 : w2.cell? ⟨rb + 1, 1, none⟩ = some (.int .i64 bw) := by rw [cell_block hB]; rfl
  have cb2 : w2.cell? ⟨rb + 1, 2, none⟩ = some (.int .i64 bh) := by rw [cell_block hB]; rfl
  have cb3 : w2.cell? ⟨rb + 1, 3, none⟩ = some (.int .i64 bx) := by rw [cell_block hB]; rfl
  have cb4 : w2.cell? ⟨rb + 1, 4, none⟩ = some (.int .i64 bY) := by rw [cell_block hB]; rfl
  have cb5 : w2.cell? ⟨rb + 1, 5, none⟩ = some (.string bt) := by rw [cell_block hB]; rfl
  have cb6 : w2.cell? ⟨rb + 1, 6, none⟩ = some (.slice qa qn qc) := by rw [cell_block hB]; rfl
  have cb7 : w2.cell? ⟨rb + 1, 7, none⟩ = some (.int .i64 bn) := by rw [cell_block hB]; rfl
  have cb8 : w2.cell? ⟨rb + 1, 8, none⟩ = some (.int .i64 bc) := by rw [cell_block hB]; rfl
  have cb9 : w2.cell? ⟨rb + 1, 9, none⟩ = some (.slice qga qgn qgc) := by rw [cell_block hB]; rfl
  have HLt : Hid (rb < w2.heap.size ∧ rb + 1 < w2.heap.size) := Lib.hid ⟨(Array.getElem?_eq_some_iff.1 hA).1, (Array.getElem?_eq_some_iff.1 hB).1⟩
  have HW1 := Lib.hid hw1
  have HW2 := Lib.hid hw2
  have HRb := Lib.hid hrb
  have HS1 := Lib.hid hs1
  clear hw1 hw2 hA hB hrb hs1
  go_enter Try.func10, Try.ntmps10
  go_upto_region 1 with fail
  rw [HW1.out, HW2.out, HRb.out]
  by_cases h_k : ak = bk
  rotate_left
  · have q : (ak == bk) = false := by rw [beq_eq_false_iff_ne]; exact h_k
    have hend : Hid (P (.returned (.bool false)) w2) := Lib.hid (HBad.out (fun e => h_k (congrArg Sn.k e)) w2 (Below.refl _ _))
    clear h_k
    go_wp2_with fail
    exact hend.out
  subst h_k
  by_cases h_w : aw = bw
  rotate_left
  · have q : (aw == bw) = false := by rw [beq_eq_false_iff_ne]; exact h_w
    have hend : Hid (P (.returned (.bool false)) w2) := Lib.hid (HBad.out (fun e => h_w (congrArg Sn.w e)) w2 (Below.refl _ _))
    clear h_w
    go_wp2_with fail
    exact hend.out
  subst h_w
  by_cases h_h : ah = bh
  rotate_left
  · have q : (ah == bh) = false := by rw [beq_eq_false_iff_ne]; exact h_h
    have hend : Hid (P (.returned (.bool false)) w2) := Lib.hid (HBad.out (fun e => h_h (congrArg Sn.h e)) w2 (Below.refl _ _))
    clear h_h
    go_wp2_with fail
    exact hend.out
  subst h_h
  by_cases h_x : ax = bx
  rotate_left
  · have q : (ax == bx) = false := by rw [beq_eq_false_iff_ne]; exact h_x
    have hend : Hid (P (.returned (.bool false)) w2) := Lib.hid (HBad.out (fun e => h_x (congrArg Sn.x e)) w2 (Below.refl _ _))
    clear h_x
    go_wp2_with fail
    exact hend.out
  subst h_x
  by_cases h_y : ay = bY
  rotate_left
  · have q : (ay == bY) = false := by rw [beq_eq_false_iff_ne]; exact h_y
    have hend : Hid (P (.returned (.bool false)) w2) := Lib.hid (HBad.out (fun e => h_y (congrArg Sn.y e)) w2 (Below.refl _ _))
    clear h_y
    go_wp2_with fail
    exact hend.out
  subst h_y
  by_cases h_t : at_ = bt
  rotate_left
  · have q : (at_.toList == bt.toList) = false := by
      rw [beq_eq_false_iff_ne, ByteArray.toList_eq, ByteArray.toList_eq]
      exact fun e => h_t (bytes_eqN e)
    have hend : Hid (P (.returned (.bool false)) w2) := Lib.hid (HBad.out (fun e => h_t (congrArg Sn.t e)) w2 (Below.refl _ _))
    clear h_t
    go_wp2_with fail
    exact hend.out
  subst h_t
  by_cases h_n : an = bn
  rotate_left
  · have q : (an == bn) = false := by rw [beq_eq_false_iff_ne]; exact h_n
    have hend : Hid (P (.returned (.bool false)) w2) := Lib.hid (HBad.out (fun e => h_n (congrArg Sn.n e)) w2 (Below.refl _ _))
    clear h_n
    go_wp2_with fail
    exact hend.out
  subst h_n
  by_cases h_c : ac = bc
  rotate_left
  · have q : (ac == bc) = false := by rw [beq_eq_false_iff_ne]; exact h_c
    have hend : Hid (P (.returned (.bool false)) w2) := Lib.hid (HBad.out (fun e => h_c (congrArg Sn.c e)) w2 (Below.refl _ _))
    clear h_c
    go_wp2_with fail
    exact hend.out
  subst h_c
  have KB := KR.out
  by_cases h_R : aR = bR
  rotate_left
  · rw [decide_eq_false h_R] at KB
    have hend : Hid (∀ w3, Below w2.heap.size w2 w3 → P (.returned (.bool false)) w3) := Lib.hid (fun w3 h3 => HBad.out (fun e => h_R (congrArg Sn.R e)) w3 h3)
    have K2 := Lib.hid KB
    clear h_R KB
    go_wp2_with fail
    refine K2.out.mono ?_
    rintro e w3 ⟨rfl, h3⟩
    have h4 := hend.out w3 h3
    clear h3
    go_wp2_with fail
    exact h4
  rw [decide_eq_true h_R] at KB
  subst h_R
  have K2 := Lib.hid KB
  have HE2 : Hid (∀ w3, Below w2.heap.size w2 w3 → P (.returned (.bool (decide (aB = bB)))) w3) := Lib.hid (fun w3 h3 => HEnd.out _ (by rw [decide_eq_true_iff]; exact ⟨fun e => congrArg Sn.B e, fun e => by rw [e]⟩) w3 h3)
  clear KB
  go_wp2_with fail
  refine K2.out.mono ?_
  rintro e w3 ⟨rfl, h3⟩
  have l6 : w3.cell? ⟨rb, 9, none⟩ = some (.slice rga rgn rgc) := (h3.cell (p := ⟨rb, 9, none⟩) HLt.out.1).trans ca9
  have l7 : w3.cell? ⟨rb + 1, 9, none⟩ = some (.slice qga qgn qgc) := (h3.cell (p := ⟨rb + 1, 9, none⟩) HLt.out.2).trans cb9
  have K3 := Lib.hid (KG.out w3 h3)
  have H3 := Lib.hid h3
  clear h3 ca0 ca1 ca2 ca3 ca4 ca5 ca6 ca7 ca8 ca9 cb0 cb1 cb2 cb3 cb4 cb5 cb6 cb7 cb8 cb9
  go_wp2_with fail
  refine K3.out.mono ?_
  rintro e w4 ⟨rfl, h4⟩
  have hend := HE2.out w4 (H3.out.trans (h4.mono H3.out.size))
  generalize decide (aB = bB) = D2 at hend
  clear h4 l6 l7
  cases D2
  · go_wp2_with fail
    exact hend
  · go_wp2_with fail
    exact hend
end Go.Proofs.Ytjlljkdlgkociaa.K

/- How a cell looks: what numbers set, its number, and numbers that make it. -/
namespace Go.Proofs.Ytjlljkdlgkociaa.Z

/-- A style. -/
structure Sty where
  fore : Int
  back : Int
  bold : Bool
  under : Bool
  inv : Bool
deriving DecidableEq
def Sty.zero : Sty := ⟨0, 0, false, false, false⟩
def Sty.may (s : Sty) : Prop := 0 ≤ s.fore ∧ s.fore ≤ 8 ∧ 0 ≤ s.back ∧ s.back ≤ 8
instance (s : Sty) : Decidable s.may := by unfold Sty.may; infer_instance
def taker (x : Int) : Prop := x = 38 ∨ x = 48
instance (x : Int) : Decidable (taker x) := by unfold taker; infer_instance
/-- a style's number -/
def b2 (b : Bool) (k : Int) : Int := if b then k else 0
def numS (s : Sty) : Int := if s.may then s.fore + 9 * s.back + b2 s.bold 81 + b2 s.under 162 + b2 s.inv 324 else 0
def ofN (n : Int) : Sty := ⟨n % 9, n % 81 / 9, decide (81 ≤ n % 162), decide (162 ≤ n % 324), decide (324 ≤ n)⟩
theorem numS_bound (s : Sty) : 0 ≤ numS s ∧ numS s ≤ 647 := by
  unfold numS
  split
  · rename_i h
    obtain ⟨h1, h2, h3, h4⟩ := h
    obtain ⟨f, b, u, v, w⟩ := s
    simp only at *
    cases u <;> cases v <;> cases w <;> simp [b2] <;> omega
  · omega
end Go.Proofs.Ytjlljkdlgkociaa.Z

/- A screen: what each action makes of it. -/
namespace Go.Proofs.Ytjlljkdlgkociaa.K
open Go.Proofs.Ytjlljkdlgkociaa.Z (Sty numS numS_bound)

structure Sc where
  g : Gd
  x : Int
  y : Int
  st : Sty
  sx : Int
  sy : Int
  ss : Sty
  wait : Bool
  wraps : Bool
  top : Int
  bot : Int
  title : ByteArray
def newS (w h : Int) : Sc := ⟨newG w h, 0, 0, .zero, 0, 0, .zero, false, true, 0, (szN h : Int) - 1, ⟨#[]⟩⟩
end Go.Proofs.Ytjlljkdlgkociaa.K

/- A screen in memory. -/
namespace Go.Proofs.Ytjlljkdlgkociaa.K
open Go.RowKit

def scArr (g : Nat) (x : Sc) : Array Value := #[.pointer (some ⟨g, 0, none⟩), .int .i64 x.x, .int .i64 x.y, .int .i64 x.st.fore, .int .i64 x.st.back, .bool x.st.bold, .bool x.st.under, .bool x.st.inv, .int .i64 x.sx, .int .i64 x.sy, .int .i64 x.ss.fore, .int .i64 x.ss.back, .bool x.ss.bold, .bool x.ss.under, .bool x.ss.inv, .bool x.wait, .bool x.wraps, .int .i64 x.top, .int .i64 x.bot, .string x.title]
/-- the screen of block s, its grid's blocks g and q -/
structure ScAt (s g q : Nat) (x : Sc) (w : World) : Prop where
  sb : w.heap[s]? = some (.cells (scArr g x) 109 (0, 0))
  gr : Gr g q x.g w
  ne : s ≠ g ∧ s ≠ q
theorem ScAt.lt {s g q : Nat} {x : Sc} {w : World} (h : ScAt s g q x w) : s < w.heap.size := (Array.getElem?_eq_some_iff.1 h.sb).1
theorem ScAt.below {s g q : Nat} {x : Sc} {w w' : World} (h : ScAt s g q x w) (hb : Below w.heap.size w w') : ScAt s g q x w' := ⟨(hb.block s h.lt).trans h.sb, h.gr.below hb, h.ne⟩
theorem ScAt.cell {s g q : Nat} {x : Sc} {w : World} (h : ScAt s g q x w) (k : Nat) : w.cell? ⟨s, k, none⟩ = (scArr g x)[k]? := cell_block h.sb k
theorem ScAt.fr {s g q : Nat} {x : Sc} {w : World} (h : ScAt s g q x w) (k : Nat) : w.frozen? ⟨s, k, none⟩ = false := frozen_block h.sb k
/-- a field is stored -/
theorem ScAt.put {s g q : Nat} {x y : Sc} {w : World} (h : ScAt s g q x w) (k : Nat) (v : Value) (hg : y.g = x.g) (ha : (scArr g x).setIfInBounds k v = scArr g y) : ScAt s g q y (w.setCell ⟨s, k, none⟩ v) := by
  refine ⟨by simp [World.setCell, Array.getElem?_modify, h.sb, ha], ?_, h.ne⟩
  rw [hg]
  obtain ⟨us, cap, hgr⟩ := h.gr
  exact ⟨us, cap, hgr.kept (L := [s]) (KeepB.setCell v) (by simpa using Ne.symm h.ne.1) (by simpa using Ne.symm h.ne.2) (fun p hp _ => by
    rw [List.mem_singleton.1 hp]
    exact ⟨_, _, h.sb, by decide⟩)⟩
theorem ScAt.putTop {s g q : Nat} {x : Sc} {w : World} (h : ScAt s g q x w) (v : Int) : ScAt s g q { x with top := v } (w.setCell ⟨s, 17, none⟩ (.int .i64 v)) := h.put 17 _ rfl rfl
theorem ScAt.putBot {s g q : Nat} {x : Sc} {w : World} (h : ScAt s g q x w) (v : Int) : ScAt s g q { x with bot := v } (w.setCell ⟨s, 18, none⟩ (.int .i64 v)) := h.put 18 _ rfl rfl
/-- another grid in the same blocks -/
theorem ScAt.grid {s g q : Nat} {x : Sc} {y : Gd} {w w' : World} (h : ScAt s g q x w) (hg : Gr g q y w') (hk : KeepB [g, q] w w') : ScAt s g q { x with g := y } w' :=
  ⟨(hk.block s h.lt (fun hm => by
    simp only [List.mem_cons, List.not_mem_nil, or_false] at hm
    exact hm.elim h.ne.1 h.ne.2)).trans h.sb, hg, h.ne⟩
end Go.Proofs.Ytjlljkdlgkociaa.K

/- The contracts of style's small functions: colour, with, mayBe, and the document's May. -/
namespace Go.Proofs.Ytjlljkdlgkociaa.Z
open Go.RowKit

theorem results_cell {fn : Func} {p : Tmp} {ty : TypeId} (h : fn.results = #[.cell p ty]) (tmps : Array Value) (P : Program) (w : World) :
    (results fn tmps).run P w = ((asAddr (tmps.getD p undef)).run P w).andThen fun a w₁ => (loadVar ty a).run P w₁ := by
  simp only [results, h]
  simp [Sem.run_bind, Result.andThen]
/-- A style in a block. -/
def SBlk (t : TypeId) (p : Nat) (s : Sty) (w : World) : Prop := w.heap[p]? = some (.cells #[.int .i64 s.fore, .int .i64 s.back, .bool s.bold, .bool s.under, .bool s.inv] t (0, 0))
theorem SBlk.new (t : TypeId) (w : World) (s : Sty) : SBlk t w.heap.size s (w.alloc (.cells #[.int .i64 s.fore, .int .i64 s.back, .bool s.bold, .bool s.under, .bool s.inv] t)) := World.alloc_heap_new w _
theorem SBlk.lt {t : TypeId} {p : Nat} {s : Sty} {w : World} (h : SBlk t p s w) : p < w.heap.size := (Array.getElem?_eq_some_iff.1 h).1
theorem SBlk.c0 {t : TypeId} {p : Nat} {s : Sty} {w : World} (h : SBlk t p s w) : w.cell? ⟨p, 0, none⟩ = some (.int .i64 s.fore) := by simp [World.cell?, show w.heap[p]? = _ from h]
theorem SBlk.c1 {t : TypeId} {p : Nat} {s : Sty} {w : World} (h : SBlk t p s w) : w.cell? ⟨p, 1, none⟩ = some (.int .i64 s.back) := by simp [World.cell?, show w.heap[p]? = _ from h]
theorem SBlk.c2 {t : TypeId} {p : Nat} {s : Sty} {w : World} (h : SBlk t p s w) : w.cell? ⟨p, 2, none⟩ = some (.bool s.bold) := by simp [World.cell?, show w.heap[p]? = _ from h]
theorem SBlk.c3 {t : TypeId} {p : Nat} {s : Sty} {w : World} (h : SBlk t p s w) : w.cell? ⟨p, 3, none⟩ = some (.bool s.under) := by simp [World.cell?, show w.heap[p]? = _ from h]
theorem SBlk.c4 {t : TypeId} {p : Nat} {s : Sty} {w : World} (h : SBlk t p s w) : w.cell? ⟨p, 4, none⟩ = some (.bool s.inv) := by simp [World.cell?, show w.heap[p]? = _ from h]
theorem SBlk.fr {t : TypeId} {p : Nat} {s : Sty} {w : World} (h : SBlk t p s w) (o : Nat) : w.frozen? ⟨p, o, none⟩ = false := by simp [World.frozen?, show w.heap[p]? = _ from h]
theorem SBlk.below {t : TypeId} {p : Nat} {s : Sty} {w w' : World} {B : Nat} (h : SBlk t p s w) (hb : Below B w w') (hp : p < B) : SBlk t p s w' := (hb.block p hp).trans h
theorem SBlk.alloc {t : TypeId} {p : Nat} {s : Sty} {w : World} (h : SBlk t p s w) (o : Obj) : SBlk t p s (w.alloc o) := (World.grownBy_alloc w o none).block p h.lt (by simp) |>.trans h
theorem SBlk.other {t : TypeId} {p k o : Nat} {s : Sty} {w : World} (h : SBlk t p s w) (hne : p ≠ k) (v : Value) : SBlk t p s (w.setCell ⟨k, o, none⟩ v) :=
  (Below.heap_setCell w ⟨k, o, none⟩ v p hne).trans h
end Go.Proofs.Ytjlljkdlgkociaa.Z

/- The contracts of style's Num and Of, and of the document's number. -/
namespace Go.Proofs.Ytjlljkdlgkociaa.Z
open Go.RowKit

end Go.Proofs.Ytjlljkdlgkociaa.Z

/- A screen's smallest calls. -/
namespace Go.Proofs.Ytjlljkdlgkociaa.K
open Go.RowKit
open Go.Proofs.Ytjlljkdlgkociaa.Z (Sty numS)

set_option maxRecDepth 100000 in
theorem elast_any {s g q : Nat} {x : Sc} (w : World) (h : ScAt s g q x w) : Calls Try.prog 78 #[.pointer (some ⟨s, 0, none⟩)] w fun e w' => e = .returned (.int .i64 ((x.g.rs.length : Int) - 1)) ∧ Below w.heap.size w w' := by
  obtain ⟨us, cap, hg⟩ := h.gr
  have HS := Lib.hid (size_any w hg)
  have k0 : w.cell? ⟨s, 0, none⟩ = some (.pointer (some ⟨g, 0, none⟩)) := h.cell 0
  have hn := hg.ok.h2
  obtain ⟨n, hnn⟩ : ∃ n, x.g.rs.length = n := ⟨_, rfl⟩
  rw [hnn] at HS hn ⊢
  have hnI : (n : Int) ≤ 1000 := by omega
  clear h hg
  go_enter Try.func78, Try.ntmps78
  go_wp2_with fail
  refine HS.out.mono ?_
  rintro e w' ⟨rfl, hb⟩
  go_wp2_with fail
  go_ret
  exact ⟨rfl, hb⟩
end Go.Proofs.Ytjlljkdlgkociaa.K
