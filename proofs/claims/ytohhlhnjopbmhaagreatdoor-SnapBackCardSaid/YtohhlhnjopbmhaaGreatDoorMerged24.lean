/- How a cell looks: what numbers set, its number, and numbers that make it. -/
import GoSem.Claim
import Derived.Test.YtohhlhnjopbmhaaGreatDoorMerged12
import Derived.Test.YtohhlhnjopbmhaaGreatDoorMerged14
import Derived.Test.YtohhlhnjopbmhaaGreatDoorJThree
import Derived.Test.YtohhlhnjopbmhaaGreatDoorBQ
import Derived.Test.YtohhlhnjopbmhaaGreatDoorMerged17
import Derived.Laws.ResultCell
import Derived.Deep.Cut
import Derived.Deep.CutBlock
import Derived.Test.YtohhlhnjopbmhaaGreatDoorNPrs
namespace Go.Proofs.YtohhlhnjopbmhaaGreatDoor.Z

/-- A style. -/
structure Sty where
  fore : Int
  back : Int
  bold : Bool
  under : Bool
  inv : Bool
deriving DecidableEq
def Sty.zero : Sty := ⟨0, 0, false, false, false⟩
def Sty.may (s : Sty) : Prop := 0 ≤ s.fore ∧ s.fore ≤ 8 ∧ 0 ≤ s.back ∧ s.back ≤ 8
instance (s : Sty) : Decidable s.may := by unfold Sty.may; infer_instance
def taker (x : Int) : Prop := x = 38 ∨ x = 48
instance (x : Int) : Decidable (taker x) := by unfold taker; infer_instance
/-- a style's number -/
def b2 (b : Bool) (k : Int) : Int := if b then k else 0
def numS (s : Sty) : Int := if s.may then s.fore + 9 * s.back + b2 s.bold 81 + b2 s.under 162 + b2 s.inv 324 else 0
def ofN (n : Int) : Sty := ⟨n % 9, n % 81 / 9, decide (81 ≤ n % 162), decide (162 ≤ n % 324), decide (324 ≤ n)⟩
theorem numS_bound (s : Sty) : 0 ≤ numS s ∧ numS s ≤ 647 := by
  unfold numS
  split
  · rename_i h
    obtain ⟨h1, h2, h3, h4⟩ := h
    obtain ⟨f, b, u, v, w⟩ := s
    simp only at *
    cases u <;> cases v <;> cases w <;> simp [b2] <;> omega
  · omega
end Go.Proofs.YtohhlhnjopbmhaaGreatDoor.Z

/- A screen: what each action makes of it. -/
namespace Go.Proofs.YtohhlhnjopbmhaaGreatDoor.K
open Go.Proofs.YtohhlhnjopbmhaaGreatDoor.Z (Sty numS numS_bound)

structure Sc where
  g : Gd
  x : Int
  y : Int
  st : Sty
  sx : Int
  sy : Int
  ss : Sty
  wait : Bool
  wraps : Bool
  top : Int
  bot : Int
  title : ByteArray
def newS (w h : Int) : Sc := ⟨newG w h, 0, 0, .zero, 0, 0, .zero, false, true, 0, (szN h : Int) - 1, ⟨#[]⟩⟩
end Go.Proofs.YtohhlhnjopbmhaaGreatDoor.K

/- A screen in memory. -/
namespace Go.Proofs.YtohhlhnjopbmhaaGreatDoor.K
open Go.RowKit

def scArr (g : Nat) (x : Sc) : Array Value := #[.pointer (some ⟨g, 0, none⟩), .int .i64 x.x, .int .i64 x.y, .int .i64 x.st.fore, .int .i64 x.st.back, .bool x.st.bold, .bool x.st.under, .bool x.st.inv, .int .i64 x.sx, .int .i64 x.sy, .int .i64 x.ss.fore, .int .i64 x.ss.back, .bool x.ss.bold, .bool x.ss.under, .bool x.ss.inv, .bool x.wait, .bool x.wraps, .int .i64 x.top, .int .i64 x.bot, .string x.title]
/-- the screen of block s, its grid's blocks g and q -/
structure ScAt (s g q : Nat) (x : Sc) (w : World) : Prop where
  sb : w.heap[s]? = some (.cells (scArr g x) 101 (0, 0))
  gr : Gr g q x.g w
  ne : s ≠ g ∧ s ≠ q
theorem ScAt.lt {s g q : Nat} {x : Sc} {w : World} (h : ScAt s g q x w) : s < w.heap.size := (Array.getElem?_eq_some_iff.1 h.sb).1
theorem ScAt.below {s g q : Nat} {x : Sc} {w w' : World} (h : ScAt s g q x w) (hb : Below w.heap.size w w') : ScAt s g q x w' := ⟨(hb.block s h.lt).trans h.sb, h.gr.below hb, h.ne⟩
theorem ScAt.cell {s g q : Nat} {x : Sc} {w : World} (h : ScAt s g q x w) (k : Nat) : w.cell? ⟨s, k, none⟩ = (scArr g x)[k]? := cell_block h.sb k
theorem ScAt.fr {s g q : Nat} {x : Sc} {w : World} (h : ScAt s g q x w) (k : Nat) : w.frozen? ⟨s, k, none⟩ = false := frozen_block h.sb k
/-- a field is stored -/
theorem ScAt.put {s g q : Nat} {x y : Sc} {w : World} (h : ScAt s g q x w) (k : Nat) (v : Value) (hg : y.g = x.g) (ha : (scArr g x).setIfInBounds k v = scArr g y) : ScAt s g q y (w.setCell ⟨s, k, none⟩ v) := by
  refine ⟨by simp [World.setCell, Array.getElem?_modify, h.sb, ha], ?_, h.ne⟩
  rw [hg]
  obtain ⟨us, cap, hgr⟩ := h.gr
  exact ⟨us, cap, hgr.kept (L := [s]) (KeepB.setCell v) (by simpa using Ne.symm h.ne.1) (by simpa using Ne.symm h.ne.2) (fun p hp _ => by
    rw [List.mem_singleton.1 hp]
    exact ⟨_, _, h.sb, by decide⟩)⟩
theorem ScAt.putTop {s g q : Nat} {x : Sc} {w : World} (h : ScAt s g q x w) (v : Int) : ScAt s g q { x with top := v } (w.setCell ⟨s, 17, none⟩ (.int .i64 v)) := h.put 17 _ rfl rfl
theorem ScAt.putBot {s g q : Nat} {x : Sc} {w : World} (h : ScAt s g q x w) (v : Int) : ScAt s g q { x with bot := v } (w.setCell ⟨s, 18, none⟩ (.int .i64 v)) := h.put 18 _ rfl rfl
/-- another grid in the same blocks -/
theorem ScAt.grid {s g q : Nat} {x : Sc} {y : Gd} {w w' : World} (h : ScAt s g q x w) (hg : Gr g q y w') (hk : KeepB [g, q] w w') : ScAt s g q { x with g := y } w' :=
  ⟨(hk.block s h.lt (fun hm => by
    simp only [List.mem_cons, List.not_mem_nil, or_false] at hm
    exact hm.elim h.ne.1 h.ne.2)).trans h.sb, hg, h.ne⟩
end Go.Proofs.YtohhlhnjopbmhaaGreatDoor.K

/- The contracts of style's small functions: colour, with, mayBe, and the document's May. -/
namespace Go.Proofs.YtohhlhnjopbmhaaGreatDoor.Z
open Go.RowKit

theorem results_cell {fn : Func} {p : Tmp} {ty : TypeId} (h : fn.results = #[.cell p ty]) (tmps : Array Value) (P : Program) (w : World) :
    (results fn tmps).run P w = ((asAddr (tmps.getD p undef)).run P w).andThen fun a w₁ => (loadVar ty a).run P w₁ := by
  simp only [results, h]
  simp [Sem.run_bind, Result.andThen]
/-- A style in a block. -/
def SBlk (t : TypeId) (p : Nat) (s : Sty) (w : World) : Prop := w.heap[p]? = some (.cells #[.int .i64 s.fore, .int .i64 s.back, .bool s.bold, .bool s.under, .bool s.inv] t (0, 0))
theorem SBlk.new (t : TypeId) (w : World) (s : Sty) : SBlk t w.heap.size s (w.alloc (.cells #[.int .i64 s.fore, .int .i64 s.back, .bool s.bold, .bool s.under, .bool s.inv] t)) := World.alloc_heap_new w _
theorem SBlk.lt {t : TypeId} {p : Nat} {s : Sty} {w : World} (h : SBlk t p s w) : p < w.heap.size := (Array.getElem?_eq_some_iff.1 h).1
theorem SBlk.c0 {t : TypeId} {p : Nat} {s : Sty} {w : World} (h : SBlk t p s w) : w.cell? ⟨p, 0, none⟩ = some (.int .i64 s.fore) := by simp [World.cell?, show w.heap[p]? = _ from h]
theorem SBlk.c1 {t : TypeId} {p : Nat} {s : Sty} {w : World} (h : SBlk t p s w) : w.cell? ⟨p, 1, none⟩ = some (.int .i64 s.back) := by simp [World.cell?, show w.heap[p]? = _ from h]
theorem SBlk.c2 {t : TypeId} {p : Nat} {s : Sty} {w : World} (h : SBlk t p s w) : w.cell? ⟨p, 2, none⟩ = some (.bool s.bold) := by simp [World.cell?, show w.heap[p]? = _ from h]
theorem SBlk.c3 {t : TypeId} {p : Nat} {s : Sty} {w : World} (h : SBlk t p s w) : w.cell? ⟨p, 3, none⟩ = some (.bool s.under) := by simp [World.cell?, show w.heap[p]? = _ from h]
theorem SBlk.c4 {t : TypeId} {p : Nat} {s : Sty} {w : World} (h : SBlk t p s w) : w.cell? ⟨p, 4, none⟩ = some (.bool s.inv) := by simp [World.cell?, show w.heap[p]? = _ from h]
theorem SBlk.fr {t : TypeId} {p : Nat} {s : Sty} {w : World} (h : SBlk t p s w) (o : Nat) : w.frozen? ⟨p, o, none⟩ = false := by simp [World.frozen?, show w.heap[p]? = _ from h]
theorem SBlk.below {t : TypeId} {p : Nat} {s : Sty} {w w' : World} {B : Nat} (h : SBlk t p s w) (hb : Below B w w') (hp : p < B) : SBlk t p s w' := (hb.block p hp).trans h
theorem SBlk.alloc {t : TypeId} {p : Nat} {s : Sty} {w : World} (h : SBlk t p s w) (o : Obj) : SBlk t p s (w.alloc o) := (World.grownBy_alloc w o none).block p h.lt (by simp) |>.trans h
theorem SBlk.other {t : TypeId} {p k o : Nat} {s : Sty} {w : World} (h : SBlk t p s w) (hne : p ≠ k) (v : Value) : SBlk t p s (w.setCell ⟨k, o, none⟩ v) :=
  (Below.heap_setCell w ⟨k, o, none⟩ v p hne).trans h
end Go.Proofs.YtohhlhnjopbmhaaGreatDoor.Z

/- The contracts of style's Num and Of, and of the document's number. -/
namespace Go.Proofs.YtohhlhnjopbmhaaGreatDoor.Z
open Go.RowKit

end Go.Proofs.YtohhlhnjopbmhaaGreatDoor.Z

/- A screen's smallest calls. -/
namespace Go.Proofs.YtohhlhnjopbmhaaGreatDoor.K
open Go.RowKit
open Go.Proofs.YtohhlhnjopbmhaaGreatDoor.Z (Sty numS)

set_option maxRecDepth 100000 in
theorem elast_any {s g q : Nat} {x : Sc} (w : World) (h : ScAt s g q x w) : Calls Tryz.prog 77 #[.pointer (some ⟨s, 0, none⟩)] w fun e w' => e = .returned (.int .i64 ((x.g.rs.length : Int) - 1)) ∧ Below w.heap.size w w' := by
  obtain ⟨us, cap, hg⟩ := h.gr
  have HS := Lib.hid (size_any w hg)
  have k0 : w.cell? ⟨s, 0, none⟩ = some (.pointer (some ⟨g, 0, none⟩)) := h.cell 0
  have hn := hg.ok.h2
  obtain ⟨n, hnn⟩ : ∃ n, x.g.rs.length = n := ⟨_, rfl⟩
  rw [hnn] at HS hn ⊢
  have hnI : (n : Int) ≤ 1000 := by omega
  clear h hg
  go_enter Tryz.func77, Tryz.ntmps77
  go_wp2_with fail
  refine HS.out.mono ?_
  rintro e w' ⟨rfl, hb⟩
  go_wp2_with fail
  go_ret
  exact ⟨rfl, hb⟩
end Go.Proofs.YtohhlhnjopbmhaaGreatDoor.K

/- The contracts of a new screen, of what tells of it, and of snap.Of. -/
namespace Go.Proofs.YtohhlhnjopbmhaaGreatDoor.K
open Go.RowKit Go.Proofs.YtohhlhnjopbmhaaGreatDoor.I

set_option maxRecDepth 100000 in
set_option maxHeartbeats 4000000 in
theorem ewhole_any {s g q : Nat} {x : Sc} (w : World) (h : ScAt s g q x w) : Calls Tryz.prog 53 #[.pointer (some ⟨s, 0, none⟩)] w fun e w' => (∃ v, e = .returned v) ∧ ScAt s g q { x with top := 0, bot := (x.g.rs.length : Int) - 1 } w' ∧ KeepB [s] w w' := by
  obtain ⟨P, hP⟩ : ∃ P : Ending → World → Prop, (fun e w' => (∃ v, e = .returned v) ∧ ScAt s g q { x with top := 0, bot := (x.g.rs.length : Int) - 1 } w' ∧ KeepB [s] w w') = P := ⟨_, rfl⟩
  rw [hP]
  have HP := Lib.hid hP
  have HL := Lib.hid (elast_any w h)
  obtain ⟨n, hn⟩ : ∃ n : Int, (x.g.rs.length : Int) - 1 = n := ⟨_, rfl⟩
  rw [hn] at HL
  have HN := Lib.hid hn
  have HS := Lib.hid h
  clear hP h hn
  go_enter Tryz.func53, Tryz.ntmps53
  go_wp2_with fail
  refine HL.out.mono ?_
  rintro e w2 ⟨rfl, hb⟩
  have h2 := HS.out.below hb
  have c17 : w2.cell? ⟨s, 17, none⟩ = some (.int .i64 x.top) := h2.cell 17
  have c18 : w2.cell? ⟨s, 18, none⟩ = some (.int .i64 x.bot) := h2.cell 18
  have f17 := h2.fr 17
  have f18 := h2.fr 18
  have hend : Hid (∀ v, P (.returned v) ((w2.setCell ⟨s, 17, none⟩ (.int .i64 0)).setCell ⟨s, 18, none⟩ (.int .i64 n))) := Lib.hid (fun v => by
    rw [← HP.out, HN.out]
    exact ⟨⟨v, rfl⟩, (h2.putTop 0).putBot n, ((KeepB.of_below hb).trans (KeepB.setCell _)).trans (KeepB.setCell _)⟩)
  clear hb h2
  go_wp2_with fail
  first | exact hend.out _ | exact bodyPost_ret (results_none rfl _ _ _) rfl (hend.out _) | (go_end0; exact hend.out _)
set_option maxRecDepth 100000 in
set_option maxHeartbeats 4000000 in
theorem scnew_any (W H : Int) (w : World) : Calls Tryz.prog 17 #[.int .i64 W, .int .i64 H] w fun e w' => ∃ s g q, e = .returned (.pointer (some ⟨s, 0, none⟩)) ∧ ScAt s g q (newS W H) w' ∧ Below w.heap.size w w' ∧ w.heap.size ≤ s := by
  obtain ⟨P, hP⟩ : ∃ P : Ending → World → Prop, (fun e w' => ∃ s g q, e = .returned (.pointer (some ⟨s, 0, none⟩)) ∧ ScAt s g q (newS W H) w' ∧ Below w.heap.size w w' ∧ w.heap.size ≤ s) = P := ⟨_, rfl⟩
  rw [hP]
  have HP := Lib.hid hP
  have HG := Lib.hid (gnew_any W H w)
  clear hP
  go_enter Tryz.func17, Tryz.ntmps17
  go_wp2_with fail
  refine HG.out.mono ?_
  rintro e w2 ⟨g, q, rfl, hgl, hql, hgr, hb2⟩
  obtain ⟨y, hy⟩ : ∃ y : Sc, (⟨newG W H, 0, 0, .zero, 0, 0, .zero, false, true, 0, 0, ⟨#[]⟩⟩ : Sc) = y := ⟨_, rfl⟩
  obtain ⟨sb, hsb⟩ : ∃ sb, w2.heap.size = sb := ⟨_, rfl⟩
  obtain ⟨w3, hw3⟩ : ∃ w3, w2.alloc (.cells (scArr g y) 101) = w3 := ⟨_, rfl⟩
  have hlt := hgr
  obtain ⟨us, cap, hga⟩ := hlt
  have hl := hga.lt
  have ha : Below w2.heap.size w2 w3 := by rw [← hw3]; exact (Below.refl _ _).alloc (Nat.le_refl _) _
  have hsc : ScAt sb g q y w3 := ⟨by rw [← hw3, ← hsb]; exact heap_alloc_new w2 _, by rw [← hy]; exact hgr.below ha, by omega, by omega⟩
  have HW := Lib.hid (ewhole_any w3 hsc)
  have HB3 : Hid (Below w.heap.size w w3) := Lib.hid (hb2.trans (ha.mono hb2.size))
  have HSl : Hid (w.heap.size ≤ sb) := Lib.hid (by have := hb2.size; omega)
  have HW3 := Lib.hid hw3
  have HSb := Lib.hid hsb
  have HY := Lib.hid hy
  clear hgl hql hgr hb2 hga hl ha hsc hsb hw3 hy
  rw [← HY.out] at HW3
  simp only [scArr, Z.Sty.zero] at HW3
  go_upto_region 2 with fail
  rw [HW3.out, HSb.out]
  go_wp2_with fail
  refine HW.out.mono ?_
  rintro e w4 ⟨⟨v, rfl⟩, hs4, hk4⟩
  have hend : Hid (P (.returned (.pointer (some ⟨sb, 0, none⟩))) w4) := Lib.hid (by
    rw [← HP.out]
    refine ⟨sb, g, q, rfl, ?_, hk4.below (by intro i hi; rw [List.mem_singleton.1 hi]; exact HSl.out) HB3.out HB3.out.size, HSl.out⟩
    have e : newS W H = { y with top := 0, bot := (y.g.rs.length : Int) - 1 } := by
      rw [← HY.out]
      unfold newS
      have : (newG W H).rs.length = szN H := by unfold newG; simp
      simp only [this]
    rw [e]
    exact hs4)
  clear hs4 hk4
  go_wp2_with fail
  exact hend.out
set_option maxRecDepth 100000 in
theorem scgrid_any {s g q : Nat} {x : Sc} (w : World) (h : ScAt s g q x w) : Calls Tryz.prog 54 #[.pointer (some ⟨s, 0, none⟩)] w fun e w' => ∃ g2 q2, e = .returned (.pointer (some ⟨g2, 0, none⟩)) ∧ Gr g2 q2 x.g w' ∧ Below w.heap.size w w' := by
  obtain ⟨us, cap, hg⟩ := h.gr
  have HC := Lib.hid (gclone_any w hg)
  have k0 : w.cell? ⟨s, 0, none⟩ = some (.pointer (some ⟨g, 0, none⟩)) := h.cell 0
  clear h hg
  go_enter Tryz.func54, Tryz.ntmps54
  go_wp2_with fail
  refine HC.out.mono ?_
  rintro e w' ⟨g2, q2, rfl, -, -, hr, hb⟩
  have HR := Lib.hid hr
  have HB := Lib.hid hb
  clear hr hb
  go_wp2_with fail
  go_ret
  exact ⟨g2, q2, rfl, HR.out, HB.out⟩
set_option maxRecDepth 100000 in
set_option maxHeartbeats 2000000 in
theorem sccursor_any {s g q : Nat} {x : Sc} (w : World) (h : ScAt s g q x w) : Calls Tryz.prog 56 #[.pointer (some ⟨s, 0, none⟩)] w fun e w' => e = .returned (.tuple #[.int .i64 x.x, .int .i64 x.y]) ∧ Below w.heap.size w w' := by
  have k1 : w.cell? ⟨s, 1, none⟩ = some (.int .i64 x.x) := h.cell 1
  have k2 : w.cell? ⟨s, 2, none⟩ = some (.int .i64 x.y) := h.cell 2
  have z1 := fun d os => cell_regrown k1 d os
  have z2 := fun d os => cell_regrown k2 d os
  clear h k1 k2
  go_enter Tryz.func56, Tryz.ntmps56
  go_upto_region 1 with fail
  refine wp_region_quiet_below (by kernel_rfl) (by kernel_rfl) ?_
  repeat (go_big_quiet_step (fail))
  refine wpQuiet_nil ?_
  intro _ hw'
  obtain ⟨⟨dq, osq⟩, hw''⟩ := hw'
  have hb9 := below_regrown w dq osq
  obtain ⟨w9, hw9⟩ : ∃ w9, Go.Sort.grow (redrawn w dq) osq = w9 := ⟨_, rfl⟩
  rw [hw'']
  simp only
  rw [hw9] at hb9 ⊢
  clear hw'' hw9 z1 z2
  go_wp2_with fail
  go_ret2
  exact ⟨rfl, hb9⟩
theorem sctitle_any {s g q : Nat} {x : Sc} (w : World) (h : ScAt s g q x w) : Calls Tryz.prog 58 #[.pointer (some ⟨s, 0, none⟩)] w fun e w' => e = .returned (.string x.title) ∧ w = w' := by
  have k1 : w.cell? ⟨s, 19, none⟩ = some (.string x.title) := h.cell 19
  clear h
  go_enter Tryz.func58, Tryz.ntmps58
  go_wp2
  go_ret
  exact ⟨rfl, rfl⟩
/-- what a screen and a book come to -/
def ofN (k : Int) (x : Sc) (y : Bk) : Sn := ⟨k, (x.g.W : Int), (x.g.rs.length : Int), x.x, x.y, x.title, x.g.rs, (y.L.length : Int), ((chainB y.L : Nat) : Int), y.G⟩
def SnQPost (s : Sn) (w : World) (e : Ending) (w' : World) : Prop := ∃ xa xn xc ya yn yc, e = .returned (.agg (snA s xa xn xc ya yn yc)) ∧ SnIn .i32 xa xn xc ya yn yc s w' ∧ Below w.heap.size w w'
theorem rowsL_nil {rk : IntKind} {L : List Nat} {a : Option Addr} {n c : Nat} {rs : List Ro} {w : World} (h : RowsL rk L a n c rs w) : RowsL rk [] a n c rs w := by
  obtain ⟨vs, h1, h2, -⟩ := h.ex
  exact ⟨⟨vs, h1, h2, fun u _ _ b o _ hm => by cases hm⟩, h.nil, fun _ b o _ hm => by cases hm⟩
set_option maxRecDepth 100000 in
set_option maxHeartbeats 16000000 in
theorem nof_any (k : Int) {s g q : Nat} {x : Sc} {b : Nat} {M N : List Nat} {y : Bk} (w : World) (h : ScAt s g q x w) (hy : Bo b M N y w) (hl : y.L.length ≤ 1000000) (hG : y.G.length ≤ 1000000) : Calls Tryz.prog 19 #[.int .i64 k, .pointer (some ⟨s, 0, none⟩), .pointer (some ⟨b, 0, none⟩)] w (SnQPost (ofN k x y) w) := by
  obtain ⟨rb, hrb⟩ : ∃ rb, w.heap.size = rb := ⟨_, rfl⟩
  obtain ⟨P, hP⟩ : ∃ P, SnQPost (ofN k x y) w = P := ⟨_, rfl⟩
  rw [hP]
  have HP := Lib.hid hP
  obtain ⟨w1, hw1⟩ : ∃ w1, w.alloc (.cells #[.int .i64 0, .int .i64 0, .int .i64 0, .int .i64 0, .int .i64 0, .string ⟨#[]⟩, .slice none 0 0, .int .i64 0, .int .i64 0, .slice none 0 0] 25) = w1 := ⟨_, rfl⟩
  have hz1 : w1.heap[rb]? = some (.cells #[.int .i64 0, .int .i64 0, .int .i64 0, .int .i64 0, .int .i64 0, .string ⟨#[]⟩, .slice none 0 0, .int .i64 0, .int .i64 0, .slice none 0 0] 25 (0, 0)) := by rw [← hw1, ← hrb]; exact heap_alloc_new w _
  have hb1 : Below rb w w1 := by rw [← hw1, ← hrb]; exact (Below.refl _ _).alloc (Nat.le_refl _) _
  have hb1' : Below w.heap.size w w1 := by rw [hrb]; exact hb1
  have HZ1 := Lib.hid hz1
  have HB1 := Lib.hid hb1
  have HX1 := Lib.hid (h.below hb1')
  have HY1 := Lib.hid (hy.below hb1')
  have HSc := Lib.hid (scgrid_any w1 (h.below hb1'))
  have HW1 := Lib.hid hw1
  have HRb := Lib.hid hrb
  have HL := Lib.hid hl
  have HG := Lib.hid hG
  clear hP hrb hw1 hz1 hb1 hb1' h hy hl hG
  go_enter Tryz.func19, Tryz.ntmps19
  go_upto_region 1 with fail
  rw [HW1.out, HRb.out]
  go_wp2_with fail
  refine HSc.out.mono ?_
  rintro e w2 ⟨g2, q2, rfl, hgr2, hb2⟩
  obtain ⟨us2, cap2, hga2⟩ := hgr2
  have HSz := Lib.hid (size_any w2 hga2)
  have hz2 := (hb2.block rb (Array.getElem?_eq_some_iff.1 HZ1.out).1).trans HZ1.out
  have HZ2 := Lib.hid hz2
  have HB2 : Hid (Below rb w w2) := Lib.hid (HB1.out.trans (hb2.mono (by have := (Array.getElem?_eq_some_iff.1 HZ1.out).1; omega)))
  have HX2 := Lib.hid (HX1.out.below hb2)
  have HY2 := Lib.hid (HY1.out.below hb2)
  have HGr2 : Hid (Gr g2 q2 x.g w2) := Lib.hid ⟨us2, cap2, hga2⟩
  clear hb2 hga2 hz2 HSc
  go_wp2_with fail
  refine HSz.out.mono ?_
  rintro e w3 ⟨rfl, hb3⟩
  have hz3 := (hb3.block rb (Array.getElem?_eq_some_iff.1 HZ2.out).1).trans HZ2.out
  have HZ3 := Lib.hid hz3
  have HB3 : Hid (Below rb w w3) := Lib.hid (HB2.out.trans (hb3.mono (by have := (Array.getElem?_eq_some_iff.1 HZ2.out).1; omega)))
  have HX3 := Lib.hid (HX2.out.below hb3)
  have HY3 := Lib.hid (HY2.out.below hb3)
  have HGr3 := Lib.hid (HGr2.out.below hb3)
  have HCu := Lib.hid (sccursor_any w3 HX3.out)
  clear hb3 hz3 HSz
  go_wp2_with fail
  refine HCu.out.mono ?_
  rintro e w4 ⟨rfl, hb4⟩
  have hz4 := (hb4.block rb (Array.getElem?_eq_some_iff.1 HZ3.out).1).trans HZ3.out
  have HZ4 := Lib.hid hz4
  have HB4 : Hid (Below rb w w4) := Lib.hid (HB3.out.trans (hb4.mono (by have := (Array.getElem?_eq_some_iff.1 HZ3.out).1; omega)))
  have HX4 := Lib.hid (HX3.out.below hb4)
  have HY4 := Lib.hid (HY3.out.below hb4)
  have HGr4 := Lib.hid (HGr3.out.below hb4)
  have HLn := Lib.hid (blen_any w4 HY4.out)
  have HTi := Lib.hid (sctitle_any w4 HX4.out)
  have hRw : Calls Tryz.prog 59 #[.pointer (some ⟨g2, 0, none⟩)] w4 (RowsA [rb] x.g.rs w4) := by
    obtain ⟨us, cap, hga⟩ := HGr4.out
    exact rows_any w4 hga (fun p hp => by rw [List.mem_singleton.1 hp]; exact (Array.getElem?_eq_some_iff.1 hz4).1)
  have HRw := Lib.hid hRw
  clear hb4 hz4 HCu hRw
  go_wp2_with fail
  refine HLn.out.mono ?_
  rintro e w5 ⟨rfl, rfl⟩
  go_wp2_with fail
  refine HTi.out.mono ?_
  rintro e w5 ⟨rfl, rfl⟩
  go_wp2_with fail
  refine HRw.out.mono ?_
  rintro e w5 ⟨xa, xn, xc, us5, rfl, hR5, -, -, hb5⟩
  have hz5 := (hb5.block rb (Array.getElem?_eq_some_iff.1 HZ4.out).1).trans HZ4.out
  have HZ5 := Lib.hid hz5
  have HB5 : Hid (Below rb w w5) := Lib.hid (HB4.out.trans (hb5.mono (by have := (Array.getElem?_eq_some_iff.1 HZ4.out).1; omega)))
  have HY5 := Lib.hid (HY4.out.below hb5)
  have HR5 := Lib.hid hR5
  have hCh := bchain_any y.L.length w5 HY5.out (Nat.le_refl _) HL.out
  rw [List.take_length] at hCh
  obtain ⟨ch, hch⟩ : ∃ ch, chainB y.L = ch := ⟨_, rfl⟩
  rw [hch] at hCh
  obtain ⟨nl, hnl⟩ : ∃ nl, y.L.length = nl := ⟨_, rfl⟩
  rw [hnl] at hCh ⊢
  have HCh := Lib.hid hCh
  have HCv := Lib.hid hch
  have HNl := Lib.hid hnl
  have HBg := Lib.hid (bbegun_any w5 HY5.out HG.out)
  clear hb5 hz5 hR5 hCh hch hnl HRw HTi HLn
  go_wp2_with fail
  refine HCh.out.mono ?_
  rintro e w6 ⟨rfl, rfl⟩
  go_wp2_with fail
  refine HBg.out.mono ?_
  rintro e w6 ⟨vb, rfl, hO6, hb6⟩
  obtain ⟨ya, yc, hvb, hO6p, hO6n, -⟩ := hO6.shape
  obtain ⟨yn, hyn⟩ : ∃ n, y.G.length = n := ⟨_, rfl⟩
  rw [hyn] at hvb hO6p
  subst hvb
  have hz6 := (hb6.block rb (Array.getElem?_eq_some_iff.1 HZ5.out).1).trans HZ5.out
  have HB6 : Hid (Below rb w w6) := Lib.hid (HB5.out.trans (hb6.mono (by have := (Array.getElem?_eq_some_iff.1 HZ5.out).1; omega)))
  have hR6 := HR5.out.below hb6
  obtain ⟨d0, d1, d2, d3, d4, d5, d6, d7, d8, d9⟩ : w6.cell? ⟨rb, 0, none⟩ = some (.int .i64 0) ∧ w6.cell? ⟨rb, 1, none⟩ = some (.int .i64 0) ∧ w6.cell? ⟨rb, 2, none⟩ = some (.int .i64 0) ∧ w6.cell? ⟨rb, 3, none⟩ = some (.int .i64 0) ∧ w6.cell? ⟨rb, 4, none⟩ = some (.int .i64 0) ∧ w6.cell? ⟨rb, 5, none⟩ = some (.string ⟨#[]⟩) ∧ w6.cell? ⟨rb, 6, none⟩ = some (.slice none 0 0) ∧ w6.cell? ⟨rb, 7, none⟩ = some (.int .i64 0) ∧ w6.cell? ⟨rb, 8, none⟩ = some (.int .i64 0) ∧ w6.cell? ⟨rb, 9, none⟩ = some (.slice none 0 0) := ten_cells (s := emptyN) hz6
  have f0 := frozen_block hz6 0
  have f1 := frozen_block hz6 1
  have f2 := frozen_block hz6 2
  have f3 := frozen_block hz6 3
  have f4 := frozen_block hz6 4
  have f5 := frozen_block hz6 5
  have f6 := frozen_block hz6 6
  have f7 := frozen_block hz6 7
  have f8 := frozen_block hz6 8
  have f9 := frozen_block hz6 9
  have hend : Hid (P (.returned (.agg #[.int .i64 k, .int .i64 (x.g.W : Int), .int .i64 (x.g.rs.length : Int), .int .i64 x.x, .int .i64 x.y, .string x.title, .slice xa xn xc, .int .i64 (nl : Int), .int .i64 (ch : Int), .slice ya yn yc])) ((((((((((w6.setCell ⟨rb, 0, none⟩ (.int .i64 k)).setCell ⟨rb, 1, none⟩ (.int .i64 (x.g.W : Int))).setCell ⟨rb, 2, none⟩ (.int .i64 (x.g.rs.length : Int))).setCell ⟨rb, 3, none⟩ (.int .i64 x.x)).setCell ⟨rb, 4, none⟩ (.int .i64 x.y)).setCell ⟨rb, 5, none⟩ (.string x.title)).setCell ⟨rb, 6, none⟩ (.slice xa xn xc)).setCell ⟨rb, 7, none⟩ (.int .i64 (nl : Int))).setCell ⟨rb, 8, none⟩ (.int .i64 (ch : Int))).setCell ⟨rb, 9, none⟩ (.slice ya yn yc))) := Lib.hid (by
    rw [← HP.out]
    have hg : ∀ (u : World) (o : Nat) (x : Value), u.grownBy (u.setCell ⟨rb, o, none⟩ x) (some rb) := fun u o x => grown_set u rb o x
    have gg : w6.grownBy ((((((((((w6.setCell ⟨rb, 0, none⟩ (.int .i64 k)).setCell ⟨rb, 1, none⟩ (.int .i64 (x.g.W : Int))).setCell ⟨rb, 2, none⟩ (.int .i64 (x.g.rs.length : Int))).setCell ⟨rb, 3, none⟩ (.int .i64 x.x)).setCell ⟨rb, 4, none⟩ (.int .i64 x.y)).setCell ⟨rb, 5, none⟩ (.string x.title)).setCell ⟨rb, 6, none⟩ (.slice xa xn xc)).setCell ⟨rb, 7, none⟩ (.int .i64 (nl : Int))).setCell ⟨rb, 8, none⟩ (.int .i64 (ch : Int))).setCell ⟨rb, 9, none⟩ (.slice ya yn yc)) (some rb) := grown_trans (grown_trans (grown_trans (grown_trans (grown_trans (grown_trans (grown_trans (grown_trans (grown_trans (hg w6 0 _) (hg _ 1 _)) (hg _ 2 _)) (hg _ 3 _)) (hg _ 4 _)) (hg _ 5 _)) (hg _ 6 _)) (hg _ 7 _)) (hg _ 8 _)) (hg _ 9 _)
    have hb : Below rb w6 _ := (Below.refl rb w6).grown gg (by have := (Array.getElem?_eq_some_iff.1 hz6).1; omega) (fun q e => by have := Option.some.inj e; omega)
    have hr5 : rb < w5.heap.size := (Array.getElem?_eq_some_iff.1 HZ5.out).1
    have hR7 := hR6.keptB (⟨gg.os, gg.tape, gg.output, gg.size, fun i hi hn => gg.block i hi (fun e => hn (by rw [Option.some.inj e]; simp))⟩ : KeepB [rb] w6 _)
    have hO7 := ownQ_grown hO6 gg hr5
    obtain ⟨a', c', e', hp7, hn7, -⟩ := hO7.shape
    rw [hyn] at e' hp7
    injection e' with e1 e2 e3
    subst e1 e3
    refine ⟨xa, xn, xc, ya, yn, yc, ?_, ⟨rowsL_nil hR7, hp7, hn7⟩, by rw [HRb.out]; exact HB6.out.trans hb⟩
    unfold ofN snA
    simp only
    rw [HNl.out, HCv.out])
  clear hz6 hR6 hO6 hO6p hb6
  go_wp2_with fail
  refine bodyPost_ret (v := .agg #[.int .i64 k, .int .i64 (x.g.W : Int), .int .i64 (x.g.rs.length : Int), .int .i64 x.x, .int .i64 x.y, .string x.title, .slice xa xn xc, .int .i64 (nl : Int), .int .i64 (ch : Int), .slice ya yn yc]) (by rw [results_cell rfl]; go_simp) rfl ?_
  exact hend.out
end Go.Proofs.YtohhlhnjopbmhaaGreatDoor.K
