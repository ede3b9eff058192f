/- SnapClones' walk. -/
import Derived.Test.YtjlljkdlgkociaaNAwk
import Derived.Test.YtjlljkdlgkociaaMerged26
import Derived.Test.YtjlljkdlgkociaaNPack
import Derived.Test.YtjlljkdlgkociaaMerged27
import Derived.Test.YtjlljkdlgkociaaMerged3
import Derived.Test.YtjlljkdlgkociaaNCopC
namespace Go.Proofs.Ytjlljkdlgkociaa.K
open Go.RowKit Go.Proofs.Ytjlljkdlgkociaa.I

theorem set10N {v : World} {p : Nat} {T : TypeId} {o0 o1 o2 o3 o4 o5 o6 o7 o8 o9 : Value} (h : v.heap[p]? = some (.cells #[o0, o1, o2, o3, o4, o5, o6, o7, o8, o9] T (0, 0))) (x0 x1 x2 x3 x4 x5 x6 x7 x8 x9 : Value) : v.grownBy ((((((((((v.setCell ⟨p, 0, none⟩ (x0)).setCell ⟨p, 1, none⟩ (x1)).setCell ⟨p, 2, none⟩ (x2)).setCell ⟨p, 3, none⟩ (x3)).setCell ⟨p, 4, none⟩ (x4)).setCell ⟨p, 5, none⟩ (x5)).setCell ⟨p, 6, none⟩ (x6)).setCell ⟨p, 7, none⟩ (x7)).setCell ⟨p, 8, none⟩ (x8)).setCell ⟨p, 9, none⟩ (x9)) (some p) ∧ ((((((((((v.setCell ⟨p, 0, none⟩ (x0)).setCell ⟨p, 1, none⟩ (x1)).setCell ⟨p, 2, none⟩ (x2)).setCell ⟨p, 3, none⟩ (x3)).setCell ⟨p, 4, none⟩ (x4)).setCell ⟨p, 5, none⟩ (x5)).setCell ⟨p, 6, none⟩ (x6)).setCell ⟨p, 7, none⟩ (x7)).setCell ⟨p, 8, none⟩ (x8)).setCell ⟨p, 9, none⟩ (x9)).heap[p]? = some (.cells #[x0, x1, x2, x3, x4, x5, x6, x7, x8, x9] T (0, 0)) := by
  have hg : ∀ (u : World) (o : Nat) (x : Value), u.grownBy (u.setCell ⟨p, o, none⟩ x) (some p) := fun u o x => grown_set u p o x
  refine ⟨grown_trans (grown_trans (grown_trans (grown_trans (grown_trans (grown_trans (grown_trans (grown_trans (grown_trans (hg v 0 _) (hg _ 1 _)) (hg _ 2 _)) (hg _ 3 _)) (hg _ 4 _)) (hg _ 5 _)) (hg _ 6 _)) (hg _ 7 _)) (hg _ 8 _)) (hg _ 9 _), ?_⟩
  simp [World.setCell, Array.getElem?_modify, h]
theorem cutN_bN {s : Sn} (hr : ∀ r ∈ s.R, AllC Rng r.l) (hg : ∀ g ∈ s.B, -2147483648 ≤ g.1 ∧ g.1 ≤ 2147483647) : SnB (cutN s) := by
  unfold cutN
  refine ⟨?_, fun r hm => ?_, fun r hm => ?_, ?_, fun g hm => hg g (List.mem_of_mem_take hm)⟩
  · show ((s.R.take 8).map cutR).length ≤ 1000
    rw [List.length_map, List.length_take]
    omega
  all_goals first
    | (obtain ⟨q, hq, rfl⟩ := List.mem_map.1 hm
       first
       | (have := cutR_len40 q; omega)
       | exact fun c hc => hr q (List.mem_of_mem_take hq) c (List.mem_of_mem_take hc))
    | (show (s.B.take 30).length ≤ _
       rw [List.length_take]
       omega)
/-- a block of cells, one of which is written: what each cell is -/
theorem set_cell_same {u : World} {b o : Nat} {cs : Array Value} {T : TypeId} {x y : Value} (hb : u.heap[b]? = some (.cells cs T (0, 0))) (hx : u.cell? ⟨b, o, none⟩ = some x) : (u.setCell ⟨b, o, none⟩ y).cell? ⟨b, o, none⟩ = some y ∧ (u.setCell ⟨b, o, none⟩ y).heap[b]? = some (.cells (cs.setIfInBounds o y) T (0, 0)) := by
  have h2 : (u.setCell ⟨b, o, none⟩ y).heap[b]? = some (.cells (cs.setIfInBounds o y) T (0, 0)) := by
    simp [World.setCell, Array.getElem?_modify, hb]
  have ho : o < cs.size := by
    rw [cell_block hb] at hx
    exact (Array.getElem?_eq_some_iff.1 hx).1
  refine ⟨?_, h2⟩
  rw [cell_block h2, Array.getElem?_setIfInBounds_self_of_lt ho]
theorem set_cell_other {u : World} {b o o' : Nat} {cs : Array Value} {T : TypeId} {y : Value} (hb : u.heap[b]? = some (.cells cs T (0, 0))) (hne : o' ≠ o) : (u.setCell ⟨b, o, none⟩ y).cell? ⟨b, o', none⟩ = u.cell? ⟨b, o', none⟩ := by
  have h2 : (u.setCell ⟨b, o, none⟩ y).heap[b]? = some (.cells (cs.setIfInBounds o y) T (0, 0)) := by
    simp [World.setCell, Array.getElem?_modify, hb]
  rw [cell_block h2, cell_block hb, Array.getElem?_setIfInBounds_ne (fun e => hne e.symm)]
theorem block_cell {u u' : World} {b o : Nat} (h : u'.heap[b]? = u.heap[b]?) : u'.cell? ⟨b, o, none⟩ = u.cell? ⟨b, o, none⟩ := World.cell?_of_block (a := ⟨b, o, none⟩) h
/-- the clone, while it is changed -/
structure ClJ (bc cb : Nat) (us : List Rv) (cc : Array Value) (xv : Value) (ya : Option Addr) (yn : Nat) (w4 u : World) : Prop where
  b : Below bc w4 u
  c : u.heap[cb]? = some (.cells cc 27 (0, 0))
  o : OwnV 50 bc xv us u
  t : ∀ (y : Nat) (r : Rv), us[y]? = some r → ∀ i : Nat, i < r.n → ∃ b off, r.a = some ⟨b, off, none⟩ ∧ bc ≤ b ∧ (∃ cs, u.heap[b]? = some (.cells cs 52 (0, 0))) ∧ ∃ z, u.cell? ⟨b, off + i * 3 + 1, none⟩ = some (.int .i64 z)
  g : ∀ i, i < yn → ∃ b off, ya = some ⟨b, off, none⟩ ∧ bc ≤ b ∧ (∃ cs, u.heap[b]? = some (.cells cs 54 (0, 0))) ∧ ∃ z, u.cell? ⟨b, off + i * 2, none⟩ = some (.int .i32 z)
section
variable {bc cb : Nat} {us : List Rv} {cc : Array Value} {xv : Value} {ya : Option Addr} {yn : Nat} {w4 u : World}
theorem ne_of_types {b b' : Nat} {cs cs' : Array Value} {T T' : TypeId} (h : u.heap[b]? = some (.cells cs T (0, 0))) (h' : u.heap[b']? = some (.cells cs' T' (0, 0))) (hT : T ≠ T') : b ≠ b' := fun e => by
  rw [e, h'] at h
  injection h with h
  injection h with h1 h2
  exact hT h2.symm
theorem ClJ.cell (h : ClJ bc cb us cc xv ya yn w4 u) {b o : Nat} {cs : Array Value} {z0 : Int} (hb : u.heap[b]? = some (.cells cs 52 (0, 0))) (hbc : bc ≤ b) (hz : u.cell? ⟨b, o, none⟩ = some (.int .i64 z0)) (z : Int) : ClJ bc cb us cc xv ya yn w4 (u.setCell ⟨b, o, none⟩ (.int .i64 z)) := by
  obtain ⟨k1, k2⟩ := set_cell_same (y := .int .i64 z) hb hz
  have ho : ∀ q, q ≠ b → (u.setCell ⟨b, o, none⟩ (.int .i64 z)).heap[q]? = u.heap[q]? := fun q hq => Below.heap_setCell _ _ _ _ hq
  refine ⟨h.b.setCell (p := ⟨b, o, none⟩) hbc _, (ho cb (ne_of_types h.c hb (by decide))).trans h.c, h.o.kept (grown_set u b o _) (fun q hq e => ?_), fun y r hr i hi => ?_, fun i hi => ?_⟩
  · obtain ⟨cs2, h2, -⟩ := U.own_type h.o hq
    cases e
    exact ne_of_types h2 hb (by decide) rfl
  · obtain ⟨b', off, e1, e2, ⟨cs', e3⟩, z', e4⟩ := h.t y r hr i hi
    by_cases hbb : b' = b
    · subst hbb
      refine ⟨b', off, e1, e2, ⟨_, k2⟩, ?_⟩
      by_cases hoo : off + i * 3 + 1 = o
      · rw [hoo]; exact ⟨z, k1⟩
      · exact ⟨z', (set_cell_other hb hoo).trans e4⟩
    · exact ⟨b', off, e1, e2, ⟨cs', (ho b' hbb).trans e3⟩, z', (block_cell (ho b' hbb)).trans e4⟩
  · obtain ⟨b', off, e1, e2, ⟨cs', e3⟩, z', e4⟩ := h.g i hi
    have hbb : b' ≠ b := ne_of_types e3 hb (by decide)
    exact ⟨b', off, e1, e2, ⟨cs', (ho b' hbb).trans e3⟩, z', (block_cell (ho b' hbb)).trans e4⟩
theorem ClJ.glyph (h : ClJ bc cb us cc xv ya yn w4 u) {b o : Nat} {cs : Array Value} {off0 k0 : Nat} {z0 : Int} (hb : u.heap[b]? = some (.cells cs 54 (0, 0))) (hbc : bc ≤ b) (hz : u.cell? ⟨b, o, none⟩ = some (.int .i32 z0)) (z : Int) : ClJ bc cb us cc xv ya yn w4 (u.setCell ⟨b, o, none⟩ (.int .i32 z)) := by
  obtain ⟨k1, k2⟩ := set_cell_same (y := .int .i32 z) hb hz
  have ho : ∀ q, q ≠ b → (u.setCell ⟨b, o, none⟩ (.int .i32 z)).heap[q]? = u.heap[q]? := fun q hq => Below.heap_setCell _ _ _ _ hq
  refine ⟨h.b.setCell (p := ⟨b, o, none⟩) hbc _, (ho cb (ne_of_types h.c hb (by decide))).trans h.c, h.o.kept (grown_set u b o _) (fun q hq e => ?_), fun y r hr i hi => ?_, fun i hi => ?_⟩
  · obtain ⟨cs2, h2, -⟩ := U.own_type h.o hq
    cases e
    exact ne_of_types h2 hb (by decide) rfl
  · obtain ⟨b', off, e1, e2, ⟨cs', e3⟩, z', e4⟩ := h.t y r hr i hi
    have hbb : b' ≠ b := ne_of_types e3 hb (by decide)
    exact ⟨b', off, e1, e2, ⟨cs', (ho b' hbb).trans e3⟩, z', (block_cell (ho b' hbb)).trans e4⟩
  · obtain ⟨b', off, e1, e2, ⟨cs', e3⟩, z', e4⟩ := h.g i hi
    by_cases hbb : b' = b
    · subst hbb
      refine ⟨b', off, e1, e2, ⟨_, k2⟩, ?_⟩
      by_cases hoo : off + i * 2 = o
      · rw [hoo]; exact ⟨z, k1⟩
      · exact ⟨z', (set_cell_other hb hoo).trans e4⟩
    · exact ⟨b', off, e1, e2, ⟨cs', (ho b' hbb).trans e3⟩, z', (block_cell (ho b' hbb)).trans e4⟩
end
set_option maxRecDepth 100000 in
set_option maxHeartbeats 16000000 in
theorem snapClones_walk (s : Sn) (ra : Option Addr) (rn rc : Nat) (ga : Option Addr) (gn gc : Nat) (A : Int) (hA1 : -9223372036854775808 ≤ A) (hA2 : A ≤ 9223372036854775807) (w : World)
    (hI : SnIn .i32 ra rn rc ga gn gc s w) (hr : ∀ r ∈ s.R, AllC Rng r.l) (hg : ∀ g ∈ s.B, -2147483648 ≤ g.1 ∧ g.1 ≤ 2147483647) (ht : (s.t.size : Int) ≤ 9223372036854775807) :
    Calls Try.prog 5 #[.agg (snA s ra rn rc ga gn gc), .int .i64 A] w fun e w' => e = .returned (.bool true) ∧ Below w.heap.size w w' := by
  obtain ⟨rb, hrb⟩ : ∃ rb, w.heap.size = rb := ⟨_, rfl⟩
  obtain ⟨P, hP⟩ : ∃ P : Ending → World → Prop, (fun e w' => e = .returned (.bool true) ∧ Below w.heap.size w w') = P := ⟨_, rfl⟩
  rw [hP]
  have HEnd : Hid (∀ v, Below rb w v → P (.returned (.bool true)) v) := Lib.hid (fun v hb => by rw [← hP, hrb]; exact ⟨rfl, hb⟩)
  obtain ⟨w1, hw1⟩ : ∃ w1, w.alloc (.cells (snA s ra rn rc ga gn gc) 27) = w1 := ⟨_, rfl⟩
  have hb1 : Below rb w w1 := by rw [← hw1, ← hrb]; exact (Below.refl _ _).alloc (Nat.le_refl _) _
  have hz1 : w1.heap[rb]? = some (.cells (snA s ra rn rc ga gn gc) 27 (0, 0)) := by rw [← hw1, ← hrb]; exact heap_alloc_new w _
  obtain ⟨S, hS⟩ : ∃ S, cutN s = S := ⟨_, rfl⟩
  have HSb : Hid (SnB S) := Lib.hid (by rw [← hS]; exact cutN_bN hr hg)
  have HA := Lib.hid (nawake_any w1)
  have HCut : Hid (∀ v, Below rb w v → Calls Try.prog 12 #[.agg (snA s ra rn rc ga gn gc)] v fun e w' => ∃ xa xn xc ya yn yc, e = .returned (.agg (snA S xa xn xc ya yn yc)) ∧ SnO v.heap.size xa xn xc ya yn yc S w' ∧ Below v.heap.size v w') := Lib.hid (fun v hb => by
    have h := ncut_any s ra rn rc ga gn gc v (hI.belowAll (by rw [hrb]; exact hb)) ht
    unfold CutPost at h
    rw [hS] at h
    exact h)
  have HW1 := Lib.hid hw1
  have HRb := Lib.hid hrb
  have HB1 := Lib.hid hb1
  have HZ1 := Lib.hid hz1
  clear hP hrb hw1 hb1 hz1 hS hr hg ht hI
  unfold snA at HW1 HCut
  unfold snA
  go_enter Try.func5, Try.ntmps5
  go_upto_region 1 with fail
  rw [HW1.out, HRb.out]
  go_wp2_with fail
  refine HA.out.mono ?_
  rintro e w2 ⟨rfl, hb2⟩
  have hz2 := (hb2.block rb (Array.getElem?_eq_some_iff.1 HZ1.out).1).trans HZ1.out
  have hrs2 : rb < w2.heap.size := (Array.getElem?_eq_some_iff.1 hz2).1
  have HB2 : Hid (Below rb w w2) := Lib.hid (HB1.out.trans (hb2.mono (by have := (Array.getElem?_eq_some_iff.1 HZ1.out).1; omega)))
  have HC2 := Lib.hid (HCut.out w2 HB2.out)
  have HZ2 := Lib.hid hz2
  have HRs2 := Lib.hid hrs2
  obtain ⟨c0, c1, c2, c3, c4, c5, c6, c7, c8, c9⟩ := ten_cells hz2
  clear hb2 hz2 hrs2 HA HCut
  go_wp2_with fail
  refine HC2.out.mono ?_
  rintro e w3 ⟨xa, xn, xc, ya, yn, yc, rfl, hO3, hb3⟩
  have hz3 := (hb3.block rb HRs2.out).trans HZ2.out
  clear c0 c1 c2 c3 c4 c5 c6 c7 c8 c9
  obtain ⟨c0, c1, c2, c3, c4, c5, c6, c7, c8, c9⟩ := ten_cells hz3
  have f0 := frozen_block hz3 0
  have f1 := frozen_block hz3 1
  have f2 := frozen_block hz3 2
  have f3 := frozen_block hz3 3
  have f4 := frozen_block hz3 4
  have f5 := frozen_block hz3 5
  have f6 := frozen_block hz3 6
  have f7 := frozen_block hz3 7
  have f8 := frozen_block hz3 8
  have f9 := frozen_block hz3 9
  unfold snA at hz3
  obtain ⟨gg, hx⟩ := set10N hz3 (.int .i64 S.k) (.int .i64 S.w) (.int .i64 S.h) (.int .i64 S.x) (.int .i64 S.y) (.string S.t) (.slice xa xn xc) (.int .i64 S.n) (.int .i64 S.c) (.slice ya yn yc)
  obtain ⟨w4, hw4⟩ : ∃ w4, ((((((((((w3.setCell ⟨rb, 0, none⟩ (.int .i64 S.k)).setCell ⟨rb, 1, none⟩ (.int .i64 S.w)).setCell ⟨rb, 2, none⟩ (.int .i64 S.h)).setCell ⟨rb, 3, none⟩ (.int .i64 S.x)).setCell ⟨rb, 4, none⟩ (.int .i64 S.y)).setCell ⟨rb, 5, none⟩ (.string S.t)).setCell ⟨rb, 6, none⟩ (.slice xa xn xc)).setCell ⟨rb, 7, none⟩ (.int .i64 S.n)).setCell ⟨rb, 8, none⟩ (.int .i64 S.c)).setCell ⟨rb, 9, none⟩ (.slice ya yn yc)) = w4 := ⟨_, rfl⟩
  rw [hw4] at gg hx
  have hO4 := hO3.grown gg HRs2.out
  have hb4 : Below rb w w4 := (HB2.out.trans (hb3.mono (by have := HRs2.out; omega))).trans ((Below.refl rb w3).grown gg (by have := HRs2.out; have := hb3.size; omega) (fun q e => by have := Option.some.inj e; omega))
  have HW4 := Lib.hid hw4
  have HX4 := Lib.hid hx
  have HI4 := Lib.hid hO4.snIn
  have HB4 := Lib.hid hb4
  have HTo := Lib.hid (ntold_any S xa xn xc ya yn yc w4 hO4.snIn HSb.out)
  clear hO3 hb3 hz3 gg hx hw4 hO4 hb4 HC2
  unfold snA at HTo
  go_upto_region 4 with fail
  rw [HW4.out]
  clear c0 c1 c2 c3 c4 c5 c6 c7 c8 c9 f0 f1 f2 f3 f4 f5 f6 f7 f8 f9
  obtain ⟨c0, c1, c2, c3, c4, c5, c6, c7, c8, c9⟩ := ten_cells (s := S) HX4.out
  go_wp2_with fail
  refine HTo.out.mono ?_
  rintro e w5 ⟨va, vn, vc, ua, un, uc, rfl, hT5, hb5⟩
  obtain ⟨xb, hxb⟩ : ∃ b, w5.heap.size = b := ⟨_, rfl⟩
  obtain ⟨w6, hw6⟩ : ∃ w6, w5.alloc (.cells (snA S va vn vc ua un uc) 35) = w6 := ⟨_, rfl⟩
  have hb6 : Below w5.heap.size w5 w6 := by rw [← hw6]; exact (Below.refl _ _).alloc (Nat.le_refl _) _
  have hy6 : w6.heap[xb]? = some (.cells (snA S va vn vc ua un uc) 35 (0, 0)) := by rw [← hw6, ← hxb]; exact heap_alloc_new w5 _
  have hb46 := hb5.trans (hb6.mono hb5.size)
  have hx6 := (hb46.block rb (Array.getElem?_eq_some_iff.1 HX4.out).1).trans HX4.out
  have hi6 := HI4.out.belowAll hb46
  have HW6 := Lib.hid hw6
  have HXb := Lib.hid hxb
  have HY6 := Lib.hid hy6
  have HX6 := Lib.hid hx6
  have HT6 := Lib.hid (hT5.below hb6).snIn
  have HI6 := Lib.hid hi6
  have HB6 : Hid (Below rb w w6) := Lib.hid (HB4.out.trans (hb46.mono (by have := (Array.getElem?_eq_some_iff.1 HX4.out).1; omega)))
  have HCl := Lib.hid (ncloneC_any S xa xn xc ya yn yc w6 hi6 HSb.out)
  clear c0 c1 c2 c3 c4 c5 c6 c7 c8 c9 hb5 hxb hw6 hb6 hy6 hb46 hx6 hi6 hT5 HTo
  unfold snA at HW6 HCl
  unfold snA
  go_upto_region 5 with fail
  rw [HW6.out, HXb.out]
  obtain ⟨c0, c1, c2, c3, c4, c5, c6, c7, c8, c9⟩ := ten_cells (s := S) HX6.out
  go_wp2_with fail
  refine HCl.out.mono ?_
  rintro e w7 ⟨ka, kn, kc, la, ln, lc, rfl, hG7, hQ7, hb7⟩
  obtain ⟨cb, hcb⟩ : ∃ b, w7.heap.size = b := ⟨_, rfl⟩
  obtain ⟨w8, hw8⟩ : ∃ w8, w7.alloc (.cells (snA S ka kn kc la ln lc) 27) = w8 := ⟨_, rfl⟩
  have hb8 : Below w7.heap.size w7 w8 := by rw [← hw8]; exact (Below.refl _ _).alloc (Nat.le_refl _) _
  have hc8 : w8.heap[cb]? = some (.cells (snA S ka kn kc la ln lc) 27 (0, 0)) := by rw [← hw8, ← hcb]; exact heap_alloc_new w7 _
  obtain ⟨bc, hbc⟩ : ∃ b, w6.heap.size = b := ⟨_, rfl⟩
  rw [hbc] at hG7 hQ7 hb7
  have hG8 := hG7.below hb8
  have hQ8 := hQ7.below hb8
  obtain ⟨us, hU, hV, hTy⟩ := hG8.ex
  have hulen : us.length = S.R.length := hV.1
  obtain ⟨ka', kc', hke, hkin, -, hkn⟩ := hU.shape
  injection hke with hk1 hk2 hk3
  subst hk1 hk3
  obtain ⟨la', lc', hle, hlin, -, hlo⟩ := hQ8.shape
  injection hle with hl1 hl2 hl3
  subst hl1 hl3
  have hJ : ClJ bc cb us (snA S ka kn kc la ln lc) (.slice ka kn kc) la ln w6 w8 := by
    refine ⟨hb7.trans (hb8.mono (by have := hb7.size; omega)), hc8, hU, fun y r hr i hi => ?_, fun i hi => ?_⟩
    · have hyl : y < S.R.length := by rw [← hulen]; exact (List.getElem?_eq_some_iff.1 hr).1
      have hrv := hV.2 y r _ hr (List.getElem?_eq_getElem hyl)
      obtain ⟨-, hcl, -, -, -, hxl⟩ := hrv.of
      have hil : i < (S.R[y]).l.length := by rw [← hxl]; exact hi
      obtain ⟨b, off, e1, hbl, hAt⟩ := hcl.at_.resolve_left (by intro e; rw [e] at hil; simp at hil)
      obtain ⟨h5, cs, h6⟩ := hTy r (List.mem_of_getElem? hr) b off e1
      exact ⟨b, off, e1, h5, ⟨cs, h6⟩, _, (hAt i _ (List.getElem?_eq_getElem hil)).c1⟩
    · have hil : i < S.B.length := by omega
      obtain ⟨b, off, e1, hbl, hAt⟩ := hlin.at_.resolve_left (by intro e; rw [e] at hil; simp at hil)
      have hown := hlo b off e1
      obtain ⟨h5, -, cs, h6⟩ := hQ8.own b hown
      exact ⟨b, off, e1, h5, ⟨cs, h6⟩, _, (hAt i _ (List.getElem?_eq_getElem hil)).1⟩
  have hUn : ∀ (y : Nat) (r : Rv), us[y]? = some r → (r.n : Int) ≤ 1000000 := fun y r hr => by
    have hyl : y < S.R.length := by rw [← hulen]; exact (List.getElem?_eq_some_iff.1 hr).1
    have hrv := hV.2 y r _ hr (List.getElem?_eq_getElem hyl)
    obtain ⟨-, -, -, -, -, hxl⟩ := hrv.of
    have := HSb.out.cells S.R[y] (List.getElem_mem hyl)
    omega
  have HUn := Lib.hid hUn
  have hR8 : us.length ≤ 1000 := by rw [hulen]; exact HSb.out.rows
  have hK8 : kn = us.length := hk2
  have hknI : (kn : Int) ≤ 1000 := by omega
  have hL8 : (ln : Int) ≤ 1000000 := by have := HSb.out.beg; omega
  have hcbs : bc ≤ cb := by rw [← hcb]; exact hb7.size |> fun h => by omega
  have HJ8 := Lib.hid hJ
  have HR8 := Lib.hid hR8
  have HK8 := Lib.hid hK8
  have HL8 := Lib.hid hL8
  have HW8 := Lib.hid hw8
  have HCb := Lib.hid hcb
  have HBc := Lib.hid hbc
  have HKn := Lib.hid hkn
  have HCbs := Lib.hid hcbs
  clear c0 c1 c2 c3 c4 c5 c6 c7 c8 c9 hw8 hb8 hc8 hbc hG7 hQ7 hb7 hG8 hQ8 hU hV hTy hulen hkin hkn hlin hlo hJ hcb hUn hR8 hk2 hl2 HCl hK8 hL8 hcbs
  unfold snA at HW8 HJ8
  unfold snA
  obtain ⟨CC, hCC⟩ : ∃ C, #[Value.int .i64 S.k, .int .i64 S.w, .int .i64 S.h, .int .i64 S.x, .int .i64 S.y, .string S.t, .slice ka kn kc, .int .i64 S.n, .int .i64 S.c, .slice la ln lc] = C := ⟨_, rfl⟩
  rw [hCC] at HJ8
  have HC6 : Hid (∀ u : World, u.heap[cb]? = some (.cells CC 27 (0, 0)) → u.cell? ⟨cb, 6, none⟩ = some (.slice ka kn kc) ∧ u.cell? ⟨cb, 9, none⟩ = some (.slice la ln lc)) := Lib.hid (fun u h => by rw [← hCC] at h; exact ⟨by rw [cell_block h]; rfl, by rw [cell_block h]; rfl⟩)
  clear hCC
  go_upto_region 6 with fail
  rw [HW8.out, HCb.out]
  have c6 := (HC6.out _ HJ8.out.c).1
  go_wp2_with fail
  clear c6
  go_loopw [21] (fun i wr => ∃ j : Nat, i = .int .i64 (j : Int) ∧ j ≤ kn ∧ Hid (ClJ bc cb us CC (.slice ka kn kc) la ln w6 wr)) (fun i _ => kn - (intOf i).toNat)
  case atStart => exact ⟨0, rfl, Nat.zero_le _, HJ8⟩
  case round =>
    obtain ⟨j, rfl, hj, HJ⟩ := hrel
    by_cases hlt : j < kn
    · have hd : decide (j < kn) = true := decide_eq_true hlt
      have hjI : (j : Int) < kn := by omega
      have hjl : j < us.length := by rw [← HK8.out]; exact hlt
      obtain ⟨r, hre⟩ : ∃ r, us[j] = r := ⟨_, rfl⟩
      have hrj : us[j]? = some r := by rw [List.getElem?_eq_getElem hjl, hre]
      obtain ⟨ka', kc', hke, hkin, hkb, -⟩ := HJ.out.o.shape
      injection hke with hk1 hk2 hk3
      subst hk1 hk3
      obtain ⟨qb, qo, rfl, hql, hqA⟩ := hkin.at_.resolve_left (by intro e; rw [e] at hjl; simp at hjl)
      have hrow : Hid (∀ u : World, ClJ bc cb us CC (.slice (some ⟨qb, qo, none⟩) kn kc) la ln w6 u → u.cell? ⟨qb, qo + j * 2, none⟩ = some (.slice r.a r.n r.c)) := Lib.hid (fun u hu => by
        obtain ⟨a2, c2, e2, hin2, -, -⟩ := hu.o.shape
        injection e2 with e3 e4 e5
        subst e3 e5
        obtain ⟨q2, o2, e6, -, hA2⟩ := hin2.at_.resolve_left (by intro e; rw [e] at hjl; simp at hjl)
        cases e6
        exact (hA2 j r hrj).1)
      have ht := HJ.out.t j r hrj
      have HTj : Hid (∀ u : World, ClJ bc cb us CC (.slice (some ⟨qb, qo, none⟩) kn kc) la ln w6 u → ∀ i : Nat, i < r.n → ∃ b off, r.a = some ⟨b, off, none⟩ ∧ bc ≤ b ∧ (∃ cs, u.heap[b]? = some (.cells cs 52 (0, 0))) ∧ ∃ z, u.cell? ⟨b, off + i * 3 + 1, none⟩ = some (.int .i64 z)) := Lib.hid (fun u hu => hu.t j r hrj)
      have c6 := (HC6.out _ HJ.out.c).1
      have k0 := hrow.out _ HJ.out
      obtain ⟨⟨xa0, xn0, xc0, xb0⟩, hr0⟩ : ∃ q, r = q := ⟨_, rfl⟩
      subst hr0
      simp only at k0 hrow HTj ht
      have hxnI : (xn0 : Int) ≤ 1000000 := HUn.out j _ hrj
      clear hjl hre hrj hk2 hkin hkb hql hqA ht hlt
      go_upto_region 9 with fail
      go_wp2_with fail
      clear c6 k0
      go_loopw [31] (fun i wr => ∃ k : Nat, i = .int .i64 (k : Int) ∧ k ≤ xn0 ∧ Hid (ClJ bc cb us CC (.slice (some ⟨qb, qo, none⟩) kn kc) la ln w6 wr)) (fun i _ => xn0 - (intOf i).toNat)
      case atStart => exact ⟨0, rfl, Nat.zero_le _, HJ⟩
      case round =>
        obtain ⟨k, rfl, hk, HG⟩ := hrel
        by_cases hlt2 : k < xn0
        · have hd2 : decide (k < xn0) = true := decide_eq_true hlt2
          have hkI : (k : Int) < xn0 := by omega
          obtain ⟨b, off, hab, hbb, ⟨cs, hcs⟩, z, hz⟩ := HTj.out _ HG.out k hlt2
          have c6 := (HC6.out _ HG.out.c).1
          have k0 := hrow.out _ HG.out
          obtain rfl : xa0 = some ⟨b, off, none⟩ := hab
          have fz := frozen_block hcs (off + k * 3 + 1)
          have HN := fun z2 => Lib.hid (HG.out.cell hcs hbb hz z2)
          clear hbb hcs HG
          go_wp2_with fail
          go_roundw
          case rel => exact ⟨k + 1, by go_num, by omega, HN _⟩
          case measure => simp [intOf]; omega
        · obtain rfl : k = xn0 := by omega
          have hd2 : decide (k < k) = false := by simp
          clear hlt2
          go_wp2_with fail
          go_roundw
          case rel => exact ⟨j + 1, by go_num, by omega, HG⟩
          case measure => simp [intOf]; omega
    · obtain rfl : j = kn := by omega
      have hd : decide (j < j) = false := by simp
      have c9 := (HC6.out _ HJ.out.c).2
      clear hlt
      go_upto_region 15 with fail
      go_wp2_with fail
      clear c9
      have hlnI := HL8.out
      go_loopw [55] (fun i wr => ∃ k : Nat, i = .int .i64 (k : Int) ∧ k ≤ ln ∧ Hid (ClJ bc cb us CC (.slice ka j kc) la ln w6 wr)) (fun i _ => ln - (intOf i).toNat)
      case atStart => exact ⟨0, rfl, Nat.zero_le _, HJ⟩
      case round =>
        obtain ⟨k, rfl, hk, HG⟩ := hrel
        by_cases hlt2 : k < ln
        · have hd2 : decide (k < ln) = true := decide_eq_true hlt2
          have hkI : (k : Int) < ln := by omega
          obtain ⟨b, off, hab, hbb, ⟨cs, hcs⟩, z, hz⟩ := HG.out.g k hlt2
          have c9 := (HC6.out _ HG.out.c).2
          obtain rfl : la = some ⟨b, off, none⟩ := hab
          have fz := frozen_block hcs (off + k * 2)
          have HN := fun z2 => Lib.hid (HG.out.glyph (off0 := 0) (k0 := 0) hcs hbb hz z2)
          clear hbb hcs HG
          go_wp2_with fail
          go_roundw
          case rel => exact ⟨k + 1, by go_num, by omega, HN _⟩
          case measure => simp [intOf]; omega
        · obtain rfl : k = ln := by omega
          have hd2 : decide (k < k) = false := by simp
          have c6 := (HC6.out _ HG.out.c).1
          clear hlt2
          have hal : Below wr.heap.size wr (wr.alloc (.cells #[.slice none 0 0, .bool false] 50)) := (Below.refl _ _).alloc (Nat.le_refl _) _
          have HOw := Lib.hid (HG.out.o.belowAll hal)
          have HIn : Hid (RvsIn (some ⟨wr.heap.size, 0, none⟩) 1 1 [⟨none, 0, 0, false⟩] (wr.alloc (.cells #[.slice none 0 0, .bool false] 50))) := Lib.hid (by
            have hn := heap_alloc_new wr (.cells #[.slice none 0 0, .bool false] 50)
            refine ⟨rfl, Nat.le_refl _, by decide, .inr ⟨wr.heap.size, 0, rfl, (Array.getElem?_eq_some_iff.1 hn).1, fun i u hu => ?_⟩⟩
            match i, hu with
            | 0, hu => cases hu; exact ⟨by rw [cell_block hn]; rfl, by rw [cell_block hn]; rfl⟩
            | i + 1, hu => simp at hu)
          have HAl := Lib.hid hal
          have hbs9 : bc ≤ wr.heap.size := by have := HG.out.b.size; have := HBc.out; omega
          have HBs9 : Hid (bc ≤ (wr.alloc (.cells #[.slice none 0 0, .bool false] 50)).heap.size) := Lib.hid (Nat.le_trans hbs9 hal.size)
          have HUl : Hid ((us.length : Int) ≤ 1000000) := Lib.hid (by have := HR8.out; omega)
          clear hal hbs9
          go_upto_region 20 with fail
          clear hd2
          go_wp2_with (at_builtin; refine wpList_append_rows rowsT rfl _ _ rfl rfl bc (.slice ka j kc) us (some ⟨wr.heap.size, 0, none⟩) 1 1 [⟨none, 0, 0, false⟩] rfl rfl HOw.out HIn.out (fun e => by cases e) HUl.out (by simp) HBs9.out ?_)
          intro v' w9 hO9 hg9
          obtain ⟨a9, e9, hv9, -⟩ := hO9.shape
          obtain ⟨n9, hn9⟩ : ∃ n, (us ++ [(⟨none, 0, 0, false⟩ : Rv)]).length = n := ⟨_, rfl⟩
          rw [hn9] at hv9
          subst hv9
          have hc9 : w9.heap[cb]? = some (.cells CC 27 (0, 0)) := by
            have h1 := (HAl.out.block cb (Array.getElem?_eq_some_iff.1 HG.out.c).1).trans HG.out.c
            refine (hg9.block cb (Array.getElem?_eq_some_iff.1 h1).1 (fun e => ?_)).trans h1
            obtain ⟨cs2, h2, -⟩ := U.own_type HOw.out e.symm
            exact ne_of_types h1 h2 (by decide) rfl
          have hb9 : Below bc w6 w9 := (HG.out.b.trans (HAl.out.mono (by have := HG.out.b.size; have := HBc.out; omega))).grown hg9 HBs9.out (fun q hq => (HOw.out.ownBlock q hq).1)
          have d6 := (HC6.out _ hc9).1
          have f6 := frozen_block hc9 6
          obtain ⟨w10, hw10⟩ : ∃ w10, w9.setCell ⟨cb, 6, none⟩ (.slice a9 n9 e9) = w10 := ⟨_, rfl⟩
          have hb10 : Below bc w6 w10 := by rw [← hw10]; exact hb9.setCell (p := ⟨cb, 6, none⟩) HCbs.out _
          rw [← HBc.out] at hb10
          have hx10 := (hb10.block rb (Array.getElem?_eq_some_iff.1 HX6.out).1).trans HX6.out
          have hy10 := (hb10.block xb (Array.getElem?_eq_some_iff.1 HY6.out).1).trans HY6.out
          have HIs : Hid (Calls Try.prog 10 #[.agg (snA S xa xn xc ya yn yc), .agg (snA S va vn vc ua un uc)] w10 fun e w' => e = .returned (.bool true) ∧ Below w10.heap.size w10 w') := Lib.hid (by
            have h := nis_any S S xa xn xc ya yn yc va vn vc ua un uc w10 (HI6.out.belowAll hb10) (HT6.out.belowAll hb10) HSb.out HSb.out
            rw [decide_eq_true rfl] at h
            exact h)
          have HB10 : Hid (Below rb w w10) := Lib.hid (HB6.out.trans (hb10.mono (by have := (Array.getElem?_eq_some_iff.1 HX6.out).1; omega)))
          have HW10 := Lib.hid hw10
          have HX10 := Lib.hid hx10
          have HY10 := Lib.hid hy10
          unfold snA at HIs
          clear hn9 hO9 hg9 hc9 hb9 hw10 hb10 hx10 hy10 c6 HG
          go_upto_region 21 with fail
          rw [HW10.out]
          clear d6 f6
          obtain ⟨c0, c1, c2, c3, c4, c5, c6, c7, c8, c9⟩ := ten_cells (s := S) HX10.out
          obtain ⟨d0, d1, d2, d3, d4, d5, d6, d7, d8, d9⟩ := ten_cells (s := S) HY10.out
          go_wp2_with fail
          refine HIs.out.mono ?_
          rintro e w11 ⟨rfl, hb11⟩
          have hend := Lib.hid (HEnd.out w11 (HB10.out.trans (hb11.mono (by have := HB10.out.size; have := HRb.out; omega))))
          clear hb11 c0 c1 c2 c3 c4 c5 c6 c7 c8 c9 d0 d1 d2 d3 d4 d5 d6 d7 d8 d9
          go_wp2_with fail
          exact hend.out
end Go.Proofs.Ytjlljkdlgkociaa.K
