/- SnapBack's walk. -/
import Derived.Test.YtohhlhnjopbmhaaGreatDoorNAwk
import Derived.Test.YtohhlhnjopbmhaaGreatDoorNPack
import Derived.Test.YtohhlhnjopbmhaaGreatDoorMerged26
import Derived.Test.YtohhlhnjopbmhaaGreatDoorMerged3
import Derived.Test.YtohhlhnjopbmhaaGreatDoorNPrs
import Derived.Test.YtohhlhnjopbmhaaGreatDoorMerged28
import Derived.Test.YtohhlhnjopbmhaaGreatDoorNTolS
import Derived.Test.YtohhlhnjopbmhaaGreatDoorMerged23
import Derived.Test.YtohhlhnjopbmhaaGreatDoorMerged19
namespace Go.Proofs.YtohhlhnjopbmhaaGreatDoor.K
open Go.Proofs.YtohhlhnjopbmhaaGreatDoor.R (agree_frame unwanted_of wanted_of wp_region_due)
open Go.RowKit Go.Proofs.YtohhlhnjopbmhaaGreatDoor.I

theorem set10N {v : World} {p : Nat} {T : TypeId} {o0 o1 o2 o3 o4 o5 o6 o7 o8 o9 : Value} (h : v.heap[p]? = some (.cells #[o0, o1, o2, o3, o4, o5, o6, o7, o8, o9] T (0, 0))) (x0 x1 x2 x3 x4 x5 x6 x7 x8 x9 : Value) : v.grownBy ((((((((((v.setCell ⟨p, 0, none⟩ (x0)).setCell ⟨p, 1, none⟩ (x1)).setCell ⟨p, 2, none⟩ (x2)).setCell ⟨p, 3, none⟩ (x3)).setCell ⟨p, 4, none⟩ (x4)).setCell ⟨p, 5, none⟩ (x5)).setCell ⟨p, 6, none⟩ (x6)).setCell ⟨p, 7, none⟩ (x7)).setCell ⟨p, 8, none⟩ (x8)).setCell ⟨p, 9, none⟩ (x9)) (some p) ∧ ((((((((((v.setCell ⟨p, 0, none⟩ (x0)).setCell ⟨p, 1, none⟩ (x1)).setCell ⟨p, 2, none⟩ (x2)).setCell ⟨p, 3, none⟩ (x3)).setCell ⟨p, 4, none⟩ (x4)).setCell ⟨p, 5, none⟩ (x5)).setCell ⟨p, 6, none⟩ (x6)).setCell ⟨p, 7, none⟩ (x7)).setCell ⟨p, 8, none⟩ (x8)).setCell ⟨p, 9, none⟩ (x9)).heap[p]? = some (.cells #[x0, x1, x2, x3, x4, x5, x6, x7, x8, x9] T (0, 0)) := by
  have hg : ∀ (u : World) (o : Nat) (x : Value), u.grownBy (u.setCell ⟨p, o, none⟩ x) (some p) := fun u o x => grown_set u p o x
  refine ⟨grown_trans (grown_trans (grown_trans (grown_trans (grown_trans (grown_trans (grown_trans (grown_trans (grown_trans (hg v 0 _) (hg _ 1 _)) (hg _ 2 _)) (hg _ 3 _)) (hg _ 4 _)) (hg _ 5 _)) (hg _ 6 _)) (hg _ 7 _)) (hg _ 8 _)) (hg _ 9 _), ?_⟩
  simp [World.setCell, Array.getElem?_modify, h]
theorem cutN_bN {s : Sn} (hr : ∀ r ∈ s.R, AllC Rng r.l) (hg : ∀ g ∈ s.B, -2147483648 ≤ g.1 ∧ g.1 ≤ 2147483647) : SnB (cutN s) := by
  unfold cutN
  refine ⟨?_, fun r hm => ?_, fun r hm => ?_, ?_, fun g hm => hg g (List.mem_of_mem_take hm)⟩
  · show ((s.R.take 8).map cutR).length ≤ 1000
    rw [List.length_map, List.length_take]
    omega
  all_goals first
    | (obtain ⟨q, hq, rfl⟩ := List.mem_map.1 hm
       first
       | (have := cutR_len40 q; omega)
       | exact fun c hc => hr q (List.mem_of_mem_take hq) c (List.mem_of_mem_take hc))
    | (show (s.B.take 30).length ≤ _
       rw [List.length_take]
       omega)
theorem gdE {a : Array Value} {i : Nat} {d : Value} : a.getD i d = a[i]?.getD d := Array.getD_eq_getD_getElem? ..
theorem packN_cut (s : Sn) : (packN (cutN s)).length ≤ 100000 := by
  unfold packN
  by_cases h : cutN s ≠ emptyN ∧ MayN (cutN s)
  · rw [if_pos h]
    obtain ⟨h1, h2, h3, h4⟩ := h.2.resolve_left h.1
    have a1 := headB_len h2.2.2.2 h4.2
    have a2 := rows_len (cutN s).R 40 (fun r hr => by
      obtain ⟨q, hq, rfl⟩ := List.mem_map.1 (show r ∈ (s.R.take 8).map cutR from hr)
      exact cutR_len40 q)
    have a3 : (cutN s).R.length ≤ 8 := by
      show ((s.R.take 8).map cutR).length ≤ 8
      rw [List.length_map, List.length_take]
      omega
    unfold rawN
    rw [List.length_append]
    omega
  · rw [if_neg h]
    exact Nat.zero_le _
def BkOk6t (Z : Sn) (xa : Option Addr) (xn xc : Nat) (ya : Option Addr) (yn yc : Nat) (va : Option Addr) (vn vc : Nat) (ua : Option Addr) (un uc : Nat) (pk : ByteArray) (sv : Nat) : Nat → Value → World → Prop
  | 0, u, _ => u = .agg #[.int .i64 Z.k, .int .i64 Z.w, .int .i64 Z.h, .int .i64 Z.x, .int .i64 Z.y, .string Z.t, .slice xa xn xc, .int .i64 Z.n, .int .i64 Z.c, .slice ya yn yc]
  | 1, u, _ => u = .int .i64 0
  | 2, u, _ => u = .bool true
  | 3, u, _ => u = .agg #[.int .i64 Z.k, .int .i64 Z.w, .int .i64 Z.h, .int .i64 Z.x, .int .i64 Z.y, .string Z.t, .slice va vn vc, .int .i64 Z.n, .int .i64 Z.c, .slice ua un uc]
  | 4, u, _ => u = .bool true
  | 5, u, _ => u = .bool false
  | 6, u, _ => u = .bool false
  | 7, u, _ => u = .agg #[.int .i64 Z.k, .int .i64 Z.w, .int .i64 Z.h, .int .i64 Z.x, .int .i64 Z.y, .string Z.t, .slice xa xn xc, .int .i64 Z.n, .int .i64 Z.c, .slice ya yn yc]
  | 8, u, _ => u = .int .i64 0
  | 9, u, _ => u = .bool false
  | 10, u, _ => u = .bool false
  | 11, _, _ => True
  | 12, _, _ => True
  | 13, _, _ => True
  | 14, u, _ => u = .bool false
  | 15, u, _ => u = .bool false
  | 16, u, _ => u = .bool false
  | 17, u, _ => u = .string pk
  | 18, u, _ => u = .agg #[.int .i64 Z.k, .int .i64 Z.w, .int .i64 Z.h, .int .i64 Z.x, .int .i64 Z.y, .string Z.t, .slice va vn vc, .int .i64 Z.n, .int .i64 Z.c, .slice ua un uc]
  | 19, u, _ => u = .string pk
  | 20, u, _ => u = .bool false
  | 21, u, _ => u = .bool false
  | 22, u, _ => u = .bool false
  | 23, u, _ => u = .agg #[.int .i64 Z.k, .int .i64 Z.w, .int .i64 Z.h, .int .i64 Z.x, .int .i64 Z.y, .string Z.t, .slice xa xn xc, .int .i64 Z.n, .int .i64 Z.c, .slice ya yn yc]
  | 24, u, _ => u = .int .i64 (sv : Int)
  | 25, u, _ => u = .agg #[.int .i64 Z.k, .int .i64 Z.w, .int .i64 Z.h, .int .i64 Z.x, .int .i64 Z.y, .string Z.t, .slice va vn vc, .int .i64 Z.n, .int .i64 Z.c, .slice ua un uc]
  | 26, u, _ => u = .int .i64 (sv : Int)
  | 27, u, _ => u = .bool false
  | 28, u, _ => u = .bool false
  | 29, u, _ => u = .bool false
  | 30, u, _ => u = .agg #[.int .i64 Z.k, .int .i64 Z.w, .int .i64 Z.h, .int .i64 Z.x, .int .i64 Z.y, .string Z.t, .slice xa xn xc, .int .i64 Z.n, .int .i64 Z.c, .slice ya yn yc]
  | 31, u, w => ∃ ka kn kc la ln lc, u = .agg #[.int .i64 Z.k, .int .i64 Z.w, .int .i64 Z.h, .int .i64 Z.x, .int .i64 Z.y, .string Z.t, .slice ka kn kc, .int .i64 Z.n, .int .i64 Z.c, .slice la ln lc] ∧ SnIn .i32 ka kn kc la ln lc Z w
  | 32, u, _ => u = .agg #[.int .i64 Z.k, .int .i64 Z.w, .int .i64 Z.h, .int .i64 Z.x, .int .i64 Z.y, .string Z.t, .slice va vn vc, .int .i64 Z.n, .int .i64 Z.c, .slice ua un uc]
  | 33, u, _ => u = .bool true
  | 34, u, _ => u = .bool false
  | 35, u, _ => u = .bool false
  | 36, u, _ => u = .bool false
  | 37, u, _ => u = .agg #[.int .i64 Z.k, .int .i64 Z.w, .int .i64 Z.h, .int .i64 Z.x, .int .i64 Z.y, .string Z.t, .slice xa xn xc, .int .i64 Z.n, .int .i64 Z.c, .slice ya yn yc]
  | 38, u, _ => u = .agg #[.int .i64 Z.k, .int .i64 Z.w, .int .i64 Z.h, .int .i64 Z.x, .int .i64 Z.y, .string Z.t, .slice xa xn xc, .int .i64 Z.n, .int .i64 Z.c, .slice ya yn yc]
  | 39, u, w => ∃ ka kn kc la ln lc, u = .agg #[.int .i64 Z.k, .int .i64 Z.w, .int .i64 Z.h, .int .i64 Z.x, .int .i64 Z.y, .string Z.t, .slice ka kn kc, .int .i64 Z.n, .int .i64 Z.c, .slice la ln lc] ∧ SnIn .i32 ka kn kc la ln lc Z w
  | 40, u, _ => u = .bool true
  | 41, u, _ => u = .bool false
  | 42, u, _ => u = .bool false
  | _, _, _ => True
def BkOk6f (Z : Sn) (xa : Option Addr) (xn xc : Nat) (ya : Option Addr) (yn yc : Nat) (va : Option Addr) (vn vc : Nat) (ua : Option Addr) (un uc : Nat) (pk : ByteArray) (sv : Nat) : Nat → Value → World → Prop
  | 0, u, _ => u = .agg #[.int .i64 Z.k, .int .i64 Z.w, .int .i64 Z.h, .int .i64 Z.x, .int .i64 Z.y, .string Z.t, .slice xa xn xc, .int .i64 Z.n, .int .i64 Z.c, .slice ya yn yc]
  | 1, u, _ => u = .int .i64 1
  | 2, u, _ => u = .bool false
  | 3, u, _ => u = .agg #[.int .i64 Z.k, .int .i64 Z.w, .int .i64 Z.h, .int .i64 Z.x, .int .i64 Z.y, .string Z.t, .slice va vn vc, .int .i64 Z.n, .int .i64 Z.c, .slice ua un uc]
  | 4, u, _ => u = .bool false
  | 5, u, _ => u = .bool false
  | 6, u, _ => u = .bool false
  | 7, u, _ => u = .agg #[.int .i64 Z.k, .int .i64 Z.w, .int .i64 Z.h, .int .i64 Z.x, .int .i64 Z.y, .string Z.t, .slice xa xn xc, .int .i64 Z.n, .int .i64 Z.c, .slice ya yn yc]
  | 8, u, _ => u = .int .i64 1
  | 9, u, _ => u = .bool true
  | 10, u, _ => u = .bool true
  | 11, u, _ => u = .agg #[.int .i64 Z.k, .int .i64 Z.w, .int .i64 Z.h, .int .i64 Z.x, .int .i64 Z.y, .string Z.t, .slice xa xn xc, .int .i64 Z.n, .int .i64 Z.c, .slice ya yn yc]
  | 12, u, _ => u = .int .i64 1
  | 13, u, _ => u = .bool false
  | 14, u, _ => u = .bool false
  | 15, u, _ => u = .bool false
  | 16, u, _ => u = .bool false
  | 17, u, _ => u = .string pk
  | 18, u, _ => u = .agg #[.int .i64 Z.k, .int .i64 Z.w, .int .i64 Z.h, .int .i64 Z.x, .int .i64 Z.y, .string Z.t, .slice va vn vc, .int .i64 Z.n, .int .i64 Z.c, .slice ua un uc]
  | 19, u, _ => u = .string pk
  | 20, u, _ => u = .bool false
  | 21, u, _ => u = .bool false
  | 22, u, _ => u = .bool false
  | 23, u, _ => u = .agg #[.int .i64 Z.k, .int .i64 Z.w, .int .i64 Z.h, .int .i64 Z.x, .int .i64 Z.y, .string Z.t, .slice xa xn xc, .int .i64 Z.n, .int .i64 Z.c, .slice ya yn yc]
  | 24, u, _ => u = .int .i64 (sv : Int)
  | 25, u, _ => u = .agg #[.int .i64 Z.k, .int .i64 Z.w, .int .i64 Z.h, .int .i64 Z.x, .int .i64 Z.y, .string Z.t, .slice va vn vc, .int .i64 Z.n, .int .i64 Z.c, .slice ua un uc]
  | 26, u, _ => u = .int .i64 (sv : Int)
  | 27, u, _ => u = .bool false
  | 28, u, _ => u = .bool false
  | 29, u, _ => u = .bool false
  | 30, u, _ => u = .agg #[.int .i64 Z.k, .int .i64 Z.w, .int .i64 Z.h, .int .i64 Z.x, .int .i64 Z.y, .string Z.t, .slice xa xn xc, .int .i64 Z.n, .int .i64 Z.c, .slice ya yn yc]
  | 31, u, w => ∃ ka kn kc la ln lc, u = .agg #[.int .i64 Z.k, .int .i64 Z.w, .int .i64 Z.h, .int .i64 Z.x, .int .i64 Z.y, .string Z.t, .slice ka kn kc, .int .i64 Z.n, .int .i64 Z.c, .slice la ln lc] ∧ SnIn .i32 ka kn kc la ln lc Z w
  | 32, u, _ => u = .agg #[.int .i64 Z.k, .int .i64 Z.w, .int .i64 Z.h, .int .i64 Z.x, .int .i64 Z.y, .string Z.t, .slice va vn vc, .int .i64 Z.n, .int .i64 Z.c, .slice ua un uc]
  | 33, u, _ => u = .bool true
  | 34, u, _ => u = .bool false
  | 35, u, _ => u = .bool false
  | 36, u, _ => u = .bool false
  | 37, u, _ => u = .agg #[.int .i64 Z.k, .int .i64 Z.w, .int .i64 Z.h, .int .i64 Z.x, .int .i64 Z.y, .string Z.t, .slice xa xn xc, .int .i64 Z.n, .int .i64 Z.c, .slice ya yn yc]
  | 38, u, _ => u = .agg #[.int .i64 Z.k, .int .i64 Z.w, .int .i64 Z.h, .int .i64 Z.x, .int .i64 Z.y, .string Z.t, .slice xa xn xc, .int .i64 Z.n, .int .i64 Z.c, .slice ya yn yc]
  | 39, u, w => ∃ ka kn kc la ln lc, u = .agg #[.int .i64 Z.k, .int .i64 Z.w, .int .i64 Z.h, .int .i64 Z.x, .int .i64 Z.y, .string Z.t, .slice ka kn kc, .int .i64 Z.n, .int .i64 Z.c, .slice la ln lc] ∧ SnIn .i32 ka kn kc la ln lc Z w
  | 40, u, _ => u = .bool true
  | 41, u, _ => u = .bool false
  | 42, u, _ => u = .bool false
  | _, _, _ => True
set_option maxRecDepth 100000 in
set_option maxHeartbeats 16000000 in
theorem snapBack_walk (s : Sn) (ra : Option Addr) (rn rc : Nat) (ga : Option Addr) (gn gc : Nat)(w : World) (hT0 : S.Tab w)
    (hI : SnIn .i32 ra rn rc ga gn gc s w) (hr : ∀ r ∈ s.R, AllC Rng r.l) (hg : ∀ g ∈ s.B, -2147483648 ≤ g.1 ∧ g.1 ≤ 2147483647) (ht : (s.t.size : Int) ≤ 9223372036854775807) :
    Calls Tryz.prog 3 #[.agg (snA s ra rn rc ga gn gc)] w fun e w' => e = .returned (.bool true) ∧ Below w.heap.size w w' := by
  obtain ⟨rb, hrb⟩ : ∃ rb, w.heap.size = rb := ⟨_, rfl⟩
  obtain ⟨P, hP⟩ : ∃ P : Ending → World → Prop, (fun e w' => e = .returned (.bool true) ∧ Below w.heap.size w w') = P := ⟨_, rfl⟩
  rw [hP]
  have HEnd : Hid (∀ v, Below rb w v → P (.returned (.bool true)) v) := Lib.hid (fun v hb => by rw [← hP, hrb]; exact ⟨rfl, hb⟩)
  obtain ⟨w1, hw1⟩ : ∃ w1, w.alloc (.cells (snA s ra rn rc ga gn gc) 25) = w1 := ⟨_, rfl⟩
  have hb1 : Below rb w w1 := by rw [← hw1, ← hrb]; exact (Below.refl _ _).alloc (Nat.le_refl _) _
  have hz1 : w1.heap[rb]? = some (.cells (snA s ra rn rc ga gn gc) 25 (0, 0)) := by rw [← hw1, ← hrb]; exact heap_alloc_new w _
  obtain ⟨Z, hS⟩ : ∃ Z, cutN s = Z := ⟨_, rfl⟩
  have HSb : Hid (SnB Z) := Lib.hid (by rw [← hS]; exact cutN_bN hr hg)
  have HA := Lib.hid (nawake_any w1)
  have HCut : Hid (∀ v, Below rb w v → Calls Tryz.prog 5 #[.agg (snA s ra rn rc ga gn gc)] v fun e w' => ∃ xa xn xc ya yn yc, e = .returned (.agg (snA Z xa xn xc ya yn yc)) ∧ SnO v.heap.size xa xn xc ya yn yc Z w' ∧ Below v.heap.size v w') := Lib.hid (fun v hb => by
    have h := ncut_any s ra rn rc ga gn gc v (hI.belowAll (by rw [hrb]; exact hb)) ht
    unfold CutPost at h
    rw [hS] at h
    exact h)
  have HTb := Lib.hid hT0
  have HPkL : Hid ((packN Z).length ≤ 100000) := Lib.hid (by rw [← hS]; exact packN_cut s)
  have HW1 := Lib.hid hw1
  have HRb := Lib.hid hrb
  have HB1 := Lib.hid hb1
  have HZ1 := Lib.hid hz1
  clear hT0 hP hrb hw1 hb1 hz1 hS hr hg ht hI
  unfold snA at HW1 HCut
  unfold snA
  go_enter Tryz.func3, Tryz.ntmps3
  go_upto_region 1 with fail
  rw [HW1.out, HRb.out]
  go_wp2_with fail
  refine HA.out.mono ?_
  rintro e w2 ⟨rfl, hb2⟩
  have hz2 := (hb2.block rb (Array.getElem?_eq_some_iff.1 HZ1.out).1).trans HZ1.out
  have hrs2 : rb < w2.heap.size := (Array.getElem?_eq_some_iff.1 hz2).1
  have HB2 : Hid (Below rb w w2) := Lib.hid (HB1.out.trans (hb2.mono (by have := (Array.getElem?_eq_some_iff.1 HZ1.out).1; omega)))
  have HC2 := Lib.hid (HCut.out w2 HB2.out)
  have HZ2 := Lib.hid hz2
  have HRs2 := Lib.hid hrs2
  obtain ⟨c0, c1, c2, c3, c4, c5, c6, c7, c8, c9⟩ := ten_cells hz2
  clear hb2 hz2 hrs2 HA HCut
  go_wp2_with fail
  refine HC2.out.mono ?_
  rintro e w3 ⟨xa, xn, xc, ya, yn, yc, rfl, hO3, hb3⟩
  have hz3 := (hb3.block rb HRs2.out).trans HZ2.out
  clear c0 c1 c2 c3 c4 c5 c6 c7 c8 c9
  obtain ⟨c0, c1, c2, c3, c4, c5, c6, c7, c8, c9⟩ := ten_cells hz3
  have f0 := frozen_block hz3 0
  have f1 := frozen_block hz3 1
  have f2 := frozen_block hz3 2
  have f3 := frozen_block hz3 3
  have f4 := frozen_block hz3 4
  have f5 := frozen_block hz3 5
  have f6 := frozen_block hz3 6
  have f7 := frozen_block hz3 7
  have f8 := frozen_block hz3 8
  have f9 := frozen_block hz3 9
  unfold snA at hz3
  obtain ⟨gg, hx⟩ := set10N hz3 (.int .i64 Z.k) (.int .i64 Z.w) (.int .i64 Z.h) (.int .i64 Z.x) (.int .i64 Z.y) (.string Z.t) (.slice xa xn xc) (.int .i64 Z.n) (.int .i64 Z.c) (.slice ya yn yc)
  obtain ⟨w4, hw4⟩ : ∃ w4, ((((((((((w3.setCell ⟨rb, 0, none⟩ (.int .i64 Z.k)).setCell ⟨rb, 1, none⟩ (.int .i64 Z.w)).setCell ⟨rb, 2, none⟩ (.int .i64 Z.h)).setCell ⟨rb, 3, none⟩ (.int .i64 Z.x)).setCell ⟨rb, 4, none⟩ (.int .i64 Z.y)).setCell ⟨rb, 5, none⟩ (.string Z.t)).setCell ⟨rb, 6, none⟩ (.slice xa xn xc)).setCell ⟨rb, 7, none⟩ (.int .i64 Z.n)).setCell ⟨rb, 8, none⟩ (.int .i64 Z.c)).setCell ⟨rb, 9, none⟩ (.slice ya yn yc)) = w4 := ⟨_, rfl⟩
  rw [hw4] at gg hx
  have hO4 := hO3.grown gg HRs2.out
  have hb4 : Below rb w w4 := (HB2.out.trans (hb3.mono (by have := HRs2.out; omega))).trans ((Below.refl rb w3).grown gg (by have := HRs2.out; have := hb3.size; omega) (fun q e => by have := Option.some.inj e; omega))
  have HW4 := Lib.hid hw4
  have HX4 := Lib.hid hx
  have HI4 := Lib.hid hO4.snIn
  have HB4 := Lib.hid hb4
  have HTo := Lib.hid (ntold_any Z xa xn xc ya yn yc w4 hO4.snIn HSb.out)
  clear hO3 hb3 hz3 gg hx hw4 hO4 hb4 HC2
  unfold snA at HTo
  go_upto_region 4 with fail
  rw [HW4.out]
  clear c0 c1 c2 c3 c4 c5 c6 c7 c8 c9 f0 f1 f2 f3 f4 f5 f6 f7 f8 f9
  obtain ⟨c0, c1, c2, c3, c4, c5, c6, c7, c8, c9⟩ := ten_cells (s := Z) HX4.out
  go_wp2_with fail
  refine HTo.out.mono ?_
  rintro e w5 ⟨va, vn, vc, ua, un, uc, rfl, hT5, hb5⟩
  obtain ⟨xb, hxb⟩ : ∃ b, w5.heap.size = b := ⟨_, rfl⟩
  obtain ⟨w6, hw6⟩ : ∃ w6, w5.alloc (.cells (snA Z va vn vc ua un uc) 32) = w6 := ⟨_, rfl⟩
  have hb6 : Below w5.heap.size w5 w6 := by rw [← hw6]; exact (Below.refl _ _).alloc (Nat.le_refl _) _
  have hy6 : w6.heap[xb]? = some (.cells (snA Z va vn vc ua un uc) 32 (0, 0)) := by rw [← hw6, ← hxb]; exact heap_alloc_new w5 _
  have hb46 := hb5.trans (hb6.mono hb5.size)
  have hx6 := (hb46.block rb (Array.getElem?_eq_some_iff.1 HX4.out).1).trans HX4.out
  have hi6 := HI4.out.belowAll hb46
  have HW6 := Lib.hid hw6
  have HXb := Lib.hid hxb
  have HY6 := Lib.hid hy6
  have HX6 := Lib.hid hx6
  have HT6 := Lib.hid (hT5.below hb6).snIn
  have HI6 := Lib.hid hi6
  have HB6 : Hid (Below rb w w6) := Lib.hid (HB4.out.trans (hb46.mono (by have := (Array.getElem?_eq_some_iff.1 HX4.out).1; omega)))
  have hb06 := HB6.out
  have HTab6 : Hid (∀ v, Below w6.heap.size w6 v → S.Tab v) := Lib.hid (fun v hb => S.tab_of HTb.out (show Below w.heap.size w v from by rw [HRb.out]; exact hb06.trans (hb.mono (by have := (Array.getElem?_eq_some_iff.1 HX6.out).1; omega))))
  have HZE : Hid (∀ v, Below w6.heap.size w6 v → v.heap[rb]? = some (.cells #[.int .i64 Z.k, .int .i64 Z.w, .int .i64 Z.h, .int .i64 Z.x, .int .i64 Z.y, .string Z.t, .slice xa xn xc, .int .i64 Z.n, .int .i64 Z.c, .slice ya yn yc] 25 (0, 0)) ∧ v.heap[xb]? = some (.cells #[.int .i64 Z.k, .int .i64 Z.w, .int .i64 Z.h, .int .i64 Z.x, .int .i64 Z.y, .string Z.t, .slice va vn vc, .int .i64 Z.n, .int .i64 Z.c, .slice ua un uc] 32 (0, 0))) := Lib.hid (fun v hb => ⟨(hb.block _ (Array.getElem?_eq_some_iff.1 HX6.out).1).trans HX6.out, (hb.block _ (Array.getElem?_eq_some_iff.1 HY6.out).1).trans HY6.out⟩)
  have HIv : Hid (∀ v, Below w6.heap.size w6 v → SnIn .i32 xa xn xc ya yn yc Z v ∧ SnIn .i64 va vn vc ua un uc Z v) := Lib.hid (fun v hb => ⟨HI6.out.belowAll hb, HT6.out.belowAll hb⟩)
  have HCk : Hid (∀ v, Below w6.heap.size w6 v → Calls Tryz.prog 8 #[.agg #[.int .i64 Z.k, .int .i64 Z.w, .int .i64 Z.h, .int .i64 Z.x, .int .i64 Z.y, .string Z.t, .slice xa xn xc, .int .i64 Z.n, .int .i64 Z.c, .slice ya yn yc]] v fun e w' => e = .returned (.int .i64 (chkN Z : Int)) ∧ Below v.heap.size v w') := Lib.hid (fun v hb => ncheck_any Z xa xn xc ya yn yc v (HIv.out v hb).1 HSb.out)
  have HMy : Hid (∀ v, Below w6.heap.size w6 v → Calls Tryz.prog 9 #[.agg #[.int .i64 Z.k, .int .i64 Z.w, .int .i64 Z.h, .int .i64 Z.x, .int .i64 Z.y, .string Z.t, .slice va vn vc, .int .i64 Z.n, .int .i64 Z.c, .slice ua un uc]] v fun e w' => e = .returned (.bool (decide (MayN Z))) ∧ Below v.heap.size v w') := Lib.hid (fun v hb => nrfmay_any Z va vn vc ua un uc v (HIv.out v hb).2 HSb.out)
  have HPk : Hid (∀ v, Below w6.heap.size w6 v → Calls Tryz.prog 7 #[.agg #[.int .i64 Z.k, .int .i64 Z.w, .int .i64 Z.h, .int .i64 Z.x, .int .i64 Z.y, .string Z.t, .slice xa xn xc, .int .i64 Z.n, .int .i64 Z.c, .slice ya yn yc]] v fun e w' => e = .returned (.string ⟨(packN Z).toArray⟩) ∧ Below v.heap.size v w') := Lib.hid (fun v hb => npack_any Z xa xn xc ya yn yc v (HIv.out v hb).1 HSb.out)
  have HRp : Hid (∀ v, Below w6.heap.size w6 v → Calls Tryz.prog 10 #[.agg #[.int .i64 Z.k, .int .i64 Z.w, .int .i64 Z.h, .int .i64 Z.x, .int .i64 Z.y, .string Z.t, .slice va vn vc, .int .i64 Z.n, .int .i64 Z.c, .slice ua un uc]] v fun e w' => e = .returned (.string ⟨(packN Z).toArray⟩) ∧ Below v.heap.size v w') := Lib.hid (fun v hb => by
    refine (nrfpack_any Z va vn vc ua un uc v (HIv.out v hb).2 HSb.out).mono ?_
    rintro e w' ⟨t, rfl, ht, h2⟩
    exact ⟨by rw [show t = ⟨(packN Z).toArray⟩ from bytes_eqN (by rw [ht])], h2⟩)
  have HSm : Hid (∀ v, Below w6.heap.size w6 v → Calls Tryz.prog 11 #[.agg #[.int .i64 Z.k, .int .i64 Z.w, .int .i64 Z.h, .int .i64 Z.x, .int .i64 Z.y, .string Z.t, .slice xa xn xc, .int .i64 Z.n, .int .i64 Z.c, .slice ya yn yc]] v fun e w' => e = .returned (.int .i64 ((S.sumOf (packN Z) : Nat) : Int)) ∧ Below v.heap.size v w') := Lib.hid (fun v hb => nsum_any Z xa xn xc ya yn yc v (HIv.out v hb).1 HSb.out (HTab6.out v hb))
  have HRs : Hid (∀ v, Below w6.heap.size w6 v → Calls Tryz.prog 12 #[.agg #[.int .i64 Z.k, .int .i64 Z.w, .int .i64 Z.h, .int .i64 Z.x, .int .i64 Z.y, .string Z.t, .slice va vn vc, .int .i64 Z.n, .int .i64 Z.c, .slice ua un uc]] v fun e w' => e = .returned (.int .i64 ((S.sumOf (packN Z) : Nat) : Int)) ∧ Below v.heap.size v w') := Lib.hid (fun v hb => nrfsum_any Z va vn vc ua un uc v (HIv.out v hb).2 HSb.out)
  have HCn : Hid (∀ v, Below w6.heap.size w6 v → Calls Tryz.prog 14 #[.agg #[.int .i64 Z.k, .int .i64 Z.w, .int .i64 Z.h, .int .i64 Z.x, .int .i64 Z.y, .string Z.t, .slice xa xn xc, .int .i64 Z.n, .int .i64 Z.c, .slice ya yn yc]] v fun e w' => (∃ ka kn kc la ln lc, e = .returned (.agg #[.int .i64 Z.k, .int .i64 Z.w, .int .i64 Z.h, .int .i64 Z.x, .int .i64 Z.y, .string Z.t, .slice ka kn kc, .int .i64 Z.n, .int .i64 Z.c, .slice la ln lc]) ∧ SnIn .i32 ka kn kc la ln lc Z w') ∧ Below v.heap.size v w') := Lib.hid (fun v hb => by
    refine (nclone_any Z xa xn xc ya yn yc v (HIv.out v hb).1 HSb.out).mono ?_
    rintro e w' ⟨ka, kn, kc, la, ln, lc, rfl, hG, hQ, h2⟩
    refine ⟨⟨ka, kn, kc, la, ln, lc, rfl, ?_⟩, h2⟩
    obtain ⟨a, c, e, h3, h4, -⟩ := hQ.shape
    injection e with e1 e2 e3
    subst e1 e2 e3
    exact ⟨hG.rowsL (fun p hp => by cases hp), h3, h4⟩)
  have HIs : Hid (∀ v ka kn kc la ln lc, Below w6.heap.size w6 v → SnIn .i32 ka kn kc la ln lc Z v → Calls Tryz.prog 13 #[.agg #[.int .i64 Z.k, .int .i64 Z.w, .int .i64 Z.h, .int .i64 Z.x, .int .i64 Z.y, .string Z.t, .slice ka kn kc, .int .i64 Z.n, .int .i64 Z.c, .slice la ln lc], .agg #[.int .i64 Z.k, .int .i64 Z.w, .int .i64 Z.h, .int .i64 Z.x, .int .i64 Z.y, .string Z.t, .slice va vn vc, .int .i64 Z.n, .int .i64 Z.c, .slice ua un uc]] v fun e w' => e = .returned (.bool true) ∧ Below v.heap.size v w') := Lib.hid (fun v ka kn kc la ln lc hb hn => by
    have h := nis_any Z Z ka kn kc la ln lc va vn vc ua un uc v hn (HIv.out v hb).2 HSb.out HSb.out
    rw [decide_eq_true rfl] at h
    exact h)
  have HSa : Hid (∀ v ka kn kc la ln lc, Below w6.heap.size w6 v → SnIn .i32 ka kn kc la ln lc Z v → Calls Tryz.prog 15 #[.agg #[.int .i64 Z.k, .int .i64 Z.w, .int .i64 Z.h, .int .i64 Z.x, .int .i64 Z.y, .string Z.t, .slice xa xn xc, .int .i64 Z.n, .int .i64 Z.c, .slice ya yn yc], .agg #[.int .i64 Z.k, .int .i64 Z.w, .int .i64 Z.h, .int .i64 Z.x, .int .i64 Z.y, .string Z.t, .slice ka kn kc, .int .i64 Z.n, .int .i64 Z.c, .slice la ln lc]] v fun e w' => e = .returned (.bool true) ∧ Below v.heap.size v w') := Lib.hid (fun v ka kn kc la ln lc hb hn => by
    have h := nsame_any Z Z xa xn xc ya yn yc ka kn kc la ln lc v (HIv.out v hb).1 hn HSb.out HSb.out
    rw [decide_eq_true rfl] at h
    exact h)
  obtain ⟨pk, hpk⟩ : ∃ t : ByteArray, (⟨(packN Z).toArray⟩ : ByteArray) = t := ⟨_, rfl⟩
  obtain ⟨sv, hsv⟩ : ∃ n, S.sumOf (packN Z) = n := ⟨_, rfl⟩
  have HPl : Hid (pk.data.toList = packN Z) := Lib.hid (by rw [← hpk])
  obtain ⟨kc0, hkc⟩ : ∃ k, chkN Z = k := ⟨_, rfl⟩
  obtain ⟨b0, hb0⟩ : ∃ b, decide (MayN Z) = b := ⟨_, rfl⟩
  have hkb : kc0 = if b0 = true then 0 else 1 := by
    rw [← hkc, ← hb0]
    unfold chkN
    by_cases h : MayN Z
    · rw [if_pos h, decide_eq_true h]; rfl
    · rw [if_neg h, decide_eq_false h]; rfl
  have HKb := Lib.hid hkb
  have HB0 := Lib.hid hb0
  rw [hpk] at HPk HRp
  rw [hsv] at HSm HRs
  rw [hkc] at HCk
  rw [hb0] at HMy
  have HPk6 := Lib.hid (HPk.out w6 (Below.refl _ _))
  clear c0 c1 c2 c3 c4 c5 c6 c7 c8 c9 hb5 hxb hw6 hb6 hy6 hb46 hx6 hi6 hT5 HTo hpk hsv hkc hb0 hkb hb06
  unfold snA at HW6
  unfold snA
  go_upto_region 5 with fail
  rw [HW6.out, HXb.out]
  obtain ⟨c0, c1, c2, c3, c4, c5, c6, c7, c8, c9⟩ := ten_cells (s := Z) HX6.out
  go_wp2_with fail
  refine HPk6.out.mono ?_
  rintro e wg ⟨rfl, hbg⟩
  have HEg := Lib.hid hbg
  clear hbg c0 c1 c2 c3 c4 c5 c6 c7 c8 c9 HPk6
  cases b0
  · obtain rfl : kc0 = 1 := HKb.out
    clear HKb
    go_upto_region 6 with fail
    refine wp_region_due [] [0, 0, 0, 0, 0, 0, 0, 0, 0, 0, 0, 0, 0, 0, 0, 0, 0, 0, 0, 0, 0, 0, 0, 0, 0, 0, 0, 0, 0, 0, 0, 0, 0, 0, 0, 0, 0, 0, 0, 0, 0, 0, 0] (by kernel_rfl) (fun _ _ u => Below wg.heap.size wg u) (fun u u2 => Below u.heap.size u u2) (BkOk6f Z xa xn xc ya yn yc va vn vc ua un uc pk sv) (by rfl) (by kernel_rfl) (by kernel_rfl) (by kernel_rfl) (by kernel_rfl) ?hcong ?hOk ?hop ?hdone ?h0
    case hcong => exact fun k f f2 u hs hst => hst
    case hOk => intro i u w1 w2 h hr; unfold BkOk6f at h ⊢; split <;> first | exact True.intro | exact h | (obtain ⟨a1, a2, a3, a4, a5, a6, e1, e2⟩ := h; exact ⟨a1, a2, a3, a4, a5, a6, e1, e2.belowAll hr⟩)
    case h0 => exact (Below.refl _ _).drew
    case hop =>
      refine ⟨?_, ?_, ?_, ?_, ?_, ?_, ?_, ?_, ?_, ?_, ?_, ?_, ?_, ?_, ?_, ?_, ?_, ?_, ?_, ?_, ?_, ?_, ?_, ?_, ?_, ?_, ?_, ?_, ?_, ?_, ?_, ?_, ?_, ?_, ?_, ?_, ?_, ?_, ?_, ?_, ?_, ?_, ?_, trivial⟩
      · intro k z v hk hst hag hdep
        refine .inl ⟨rfl, fun K hK => ?_⟩
        have d1 : z.tmps.getD 1 undef = .pointer (some ⟨rb, 0, none⟩) := hag.2.2 1 (by kernel_rfl)
        have e1 := d1
        rw [gdE] at e1
        have hb : Below wg.heap.size wg v := hst
        have hbE := HEg.out.trans (hb.mono HEg.out.size)
        have hz := (HZE.out v hbE).1
        obtain ⟨l0, l1, l2, l3, l4, l5, l6, l7, l8, l9⟩ := ten_cells (s := Z) (ra := xa) (rn := xn) (rc := xc) (ga := ya) (gn := yn) (gc := yc) hz
        clear hb hbE hz
        have HSt := Lib.hid hst
        clear hdep hag hst
        go_simp
        exact hK _ _ (Below.refl _ _) rfl HSt.out
      · intro k z v hk hst hag hdep
        refine .inl ⟨rfl, fun K hK => ?_⟩
        have d15 : z.tmps.getD 15 undef = .agg #[.int .i64 Z.k, .int .i64 Z.w, .int .i64 Z.h, .int .i64 Z.x, .int .i64 Z.y, .string Z.t, .slice xa xn xc, .int .i64 Z.n, .int .i64 Z.c, .slice ya yn yc] := hdep { on := 0, ground := .data } (by simp) rfl _ _ rfl rfl
        have e15 := d15
        rw [gdE] at e15
        have hb : Below wg.heap.size wg v := hst
        have hbE := HEg.out.trans (hb.mono HEg.out.size)
        have HC := Lib.hid (HCk.out v hbE)
        have HBv := Lib.hid hb
        clear hdep hag hst hb hbE
        go_simp
        refine HC.out.mono ?_
        rintro e w' ⟨rfl, h9⟩
        exact hK _ _ h9 rfl (HBv.out.trans (h9.mono HBv.out.size))
      · intro k z v hk hst hag hdep
        refine .inl ⟨rfl, fun K hK => ?_⟩
        have d16 : z.tmps.getD 16 undef = .int .i64 1 := hdep { on := 1, ground := .data } (by simp) rfl _ _ rfl rfl
        have e16 := d16
        rw [gdE] at e16
        have HSt := Lib.hid hst
        clear hdep hag hst
        go_simp
        exact hK _ _ (Below.refl _ _) rfl HSt.out
      · intro k z v hk hst hag hdep
        refine .inl ⟨rfl, fun K hK => ?_⟩
        have d3 : z.tmps.getD 3 undef = .pointer (some ⟨xb, 0, none⟩) := hag.2.2 3 (by kernel_rfl)
        have e3 := d3
        rw [gdE] at e3
        have hb : Below wg.heap.size wg v := hst
        have hbE := HEg.out.trans (hb.mono HEg.out.size)
        have hz := (HZE.out v hbE).2
        obtain ⟨l0, l1, l2, l3, l4, l5, l6, l7, l8, l9⟩ := ten_cells (s := Z) (ra := va) (rn := vn) (rc := vc) (ga := ua) (gn := un) (gc := uc) hz
        clear hb hbE hz
        have HSt := Lib.hid hst
        clear hdep hag hst
        go_simp
        exact hK _ _ (Below.refl _ _) rfl HSt.out
      · intro k z v hk hst hag hdep
        refine .inl ⟨rfl, fun K hK => ?_⟩
        have d18 : z.tmps.getD 18 undef = .agg #[.int .i64 Z.k, .int .i64 Z.w, .int .i64 Z.h, .int .i64 Z.x, .int .i64 Z.y, .string Z.t, .slice va vn vc, .int .i64 Z.n, .int .i64 Z.c, .slice ua un uc] := hdep { on := 3, ground := .data } (by simp) rfl _ _ rfl rfl
        have e18 := d18
        rw [gdE] at e18
        have hb : Below wg.heap.size wg v := hst
        have hbE := HEg.out.trans (hb.mono HEg.out.size)
        have HC := Lib.hid (HMy.out v hbE)
        have HBv := Lib.hid hb
        clear hdep hag hst hb hbE
        go_simp
        refine HC.out.mono ?_
        rintro e w' ⟨rfl, h9⟩
        exact hK _ _ h9 rfl (HBv.out.trans (h9.mono HBv.out.size))
      · intro k z v hk hst hag hdep
        refine .inl ⟨rfl, fun K hK => ?_⟩
        have d17 : z.tmps.getD 17 undef = .bool false := hdep { on := 2, ground := .data } (by simp) rfl _ _ rfl rfl
        have e17 := d17
        rw [gdE] at e17
        have d19 : z.tmps.getD 19 undef = .bool false := hdep { on := 4, ground := .data } (by simp) rfl _ _ rfl rfl
        have e19 := d19
        rw [gdE] at e19
        have HSt := Lib.hid hst
        clear hdep hag hst
        go_simp
        exact hK _ _ (Below.refl _ _) rfl HSt.out
      · intro k z v hk hst hag hdep
        refine .inl ⟨rfl, fun K hK => ?_⟩
        have d20 : z.tmps.getD 20 undef = .bool false := hdep { on := 5, ground := .data } (by simp) rfl _ _ rfl rfl
        have e20 := d20
        rw [gdE] at e20
        have HSt := Lib.hid hst
        clear hdep hag hst
        go_simp
        exact hK _ _ (Below.refl _ _) rfl HSt.out
      · intro k z v hk hst hag hdep
        have dg : BkOk6f Z xa xn xc ya yn yc va vn vc ua un uc pk sv 6 (z.tmps.getD 21 undef) v := hdep { on := 6, ground := .guard } (by simp) rfl _ _ rfl rfl
        simp only [BkOk6f] at dg
        refine .inl ⟨wanted_of (j := 6) rfl rfl rfl dg (by rw [hag.2.1]; show 21 < 75; decide), fun K hK => ?_⟩
        have d1 : z.tmps.getD 1 undef = .pointer (some ⟨rb, 0, none⟩) := hag.2.2 1 (by kernel_rfl)
        have e1 := d1
        rw [gdE] at e1
        have hb : Below wg.heap.size wg v := hst
        have hbE := HEg.out.trans (hb.mono HEg.out.size)
        have hz := (HZE.out v hbE).1
        obtain ⟨l0, l1, l2, l3, l4, l5, l6, l7, l8, l9⟩ := ten_cells (s := Z) (ra := xa) (rn := xn) (rc := xc) (ga := ya) (gn := yn) (gc := yc) hz
        clear hb hbE hz
        have HSt := Lib.hid hst
        clear hdep hag hst
        go_simp
        exact hK _ _ (Below.refl _ _) rfl HSt.out
      · intro k z v hk hst hag hdep
        have dg : BkOk6f Z xa xn xc ya yn yc va vn vc ua un uc pk sv 6 (z.tmps.getD 21 undef) v := hdep { on := 6, ground := .guard } (by simp) rfl _ _ rfl rfl
        simp only [BkOk6f] at dg
        refine .inl ⟨wanted_of (j := 6) rfl rfl rfl dg (by rw [hag.2.1]; show 21 < 75; decide), fun K hK => ?_⟩
        have d22 : z.tmps.getD 22 undef = .agg #[.int .i64 Z.k, .int .i64 Z.w, .int .i64 Z.h, .int .i64 Z.x, .int .i64 Z.y, .string Z.t, .slice xa xn xc, .int .i64 Z.n, .int .i64 Z.c, .slice ya yn yc] := hdep { on := 7, ground := .data } (by simp) rfl _ _ rfl rfl
        have e22 := d22
        rw [gdE] at e22
        have hb : Below wg.heap.size wg v := hst
        have hbE := HEg.out.trans (hb.mono HEg.out.size)
        have HC := Lib.hid (HCk.out v hbE)
        have HBv := Lib.hid hb
        clear hdep hag hst hb hbE
        go_simp
        refine HC.out.mono ?_
        rintro e w' ⟨rfl, h9⟩
        exact hK _ _ h9 rfl (HBv.out.trans (h9.mono HBv.out.size))
      · intro k z v hk hst hag hdep
        have dg : BkOk6f Z xa xn xc ya yn yc va vn vc ua un uc pk sv 6 (z.tmps.getD 21 undef) v := hdep { on := 6, ground := .guard } (by simp) rfl _ _ rfl rfl
        simp only [BkOk6f] at dg
        refine .inl ⟨wanted_of (j := 6) rfl rfl rfl dg (by rw [hag.2.1]; show 21 < 75; decide), fun K hK => ?_⟩
        have d23 : z.tmps.getD 23 undef = .int .i64 1 := hdep { on := 8, ground := .data } (by simp) rfl _ _ rfl rfl
        have e23 := d23
        rw [gdE] at e23
        have HSt := Lib.hid hst
        clear hdep hag hst
        go_simp
        exact hK _ _ (Below.refl _ _) rfl HSt.out
      · intro k z v hk hst hag hdep
        have dg : BkOk6f Z xa xn xc ya yn yc va vn vc ua un uc pk sv 6 (z.tmps.getD 21 undef) v := hdep { on := 6, ground := .guard } (by simp) rfl _ _ rfl rfl
        simp only [BkOk6f] at dg
        refine .inl ⟨wanted_of (j := 6) rfl rfl rfl dg (by rw [hag.2.1]; show 21 < 75; decide), fun K hK => ?_⟩
        have d24 : z.tmps.getD 24 undef = .bool true := hdep { on := 9, ground := .data } (by simp) rfl _ _ rfl rfl
        have e24 := d24
        rw [gdE] at e24
        have HSt := Lib.hid hst
        clear hdep hag hst
        go_simp
        exact hK _ _ (Below.refl _ _) rfl HSt.out
      · intro k z v hk hst hag hdep
        have dg : BkOk6f Z xa xn xc ya yn yc va vn vc ua un uc pk sv 10 (z.tmps.getD 25 undef) v := hdep { on := 10, ground := .guard } (by simp) rfl _ _ rfl rfl
        simp only [BkOk6f] at dg
        refine .inl ⟨wanted_of (j := 10) rfl rfl rfl dg (by rw [hag.2.1]; show 25 < 75; decide), fun K hK => ?_⟩
        have d1 : z.tmps.getD 1 undef = .pointer (some ⟨rb, 0, none⟩) := hag.2.2 1 (by kernel_rfl)
        have e1 := d1
        rw [gdE] at e1
        have hb : Below wg.heap.size wg v := hst
        have hbE := HEg.out.trans (hb.mono HEg.out.size)
        have hz := (HZE.out v hbE).1
        obtain ⟨l0, l1, l2, l3, l4, l5, l6, l7, l8, l9⟩ := ten_cells (s := Z) (ra := xa) (rn := xn) (rc := xc) (ga := ya) (gn := yn) (gc := yc) hz
        clear hb hbE hz
        have HSt := Lib.hid hst
        clear hdep hag hst
        go_simp
        exact hK _ _ (Below.refl _ _) rfl HSt.out
      · intro k z v hk hst hag hdep
        have dg : BkOk6f Z xa xn xc ya yn yc va vn vc ua un uc pk sv 10 (z.tmps.getD 25 undef) v := hdep { on := 10, ground := .guard } (by simp) rfl _ _ rfl rfl
        simp only [BkOk6f] at dg
        refine .inl ⟨wanted_of (j := 10) rfl rfl rfl dg (by rw [hag.2.1]; show 25 < 75; decide), fun K hK => ?_⟩
        have d26 : z.tmps.getD 26 undef = .agg #[.int .i64 Z.k, .int .i64 Z.w, .int .i64 Z.h, .int .i64 Z.x, .int .i64 Z.y, .string Z.t, .slice xa xn xc, .int .i64 Z.n, .int .i64 Z.c, .slice ya yn yc] := hdep { on := 11, ground := .data } (by simp) rfl _ _ rfl rfl
        have e26 := d26
        rw [gdE] at e26
        have hb : Below wg.heap.size wg v := hst
        have hbE := HEg.out.trans (hb.mono HEg.out.size)
        have HC := Lib.hid (HCk.out v hbE)
        have HBv := Lib.hid hb
        clear hdep hag hst hb hbE
        go_simp
        refine HC.out.mono ?_
        rintro e w' ⟨rfl, h9⟩
        exact hK _ _ h9 rfl (HBv.out.trans (h9.mono HBv.out.size))
      · intro k z v hk hst hag hdep
        have dg : BkOk6f Z xa xn xc ya yn yc va vn vc ua un uc pk sv 10 (z.tmps.getD 25 undef) v := hdep { on := 10, ground := .guard } (by simp) rfl _ _ rfl rfl
        simp only [BkOk6f] at dg
        refine .inl ⟨wanted_of (j := 10) rfl rfl rfl dg (by rw [hag.2.1]; show 25 < 75; decide), fun K hK => ?_⟩
        have d27 : z.tmps.getD 27 undef = .int .i64 1 := hdep { on := 12, ground := .data } (by simp) rfl _ _ rfl rfl
        have e27 := d27
        rw [gdE] at e27
        have HSt := Lib.hid hst
        clear hdep hag hst
        go_simp
        exact hK _ _ (Below.refl _ _) rfl HSt.out
      · intro k z v hk hst hag hdep
        have dg : BkOk6f Z xa xn xc ya yn yc va vn vc ua un uc pk sv 6 (z.tmps.getD 21 undef) v := hdep { on := 6, ground := .guard } (by simp) rfl _ _ rfl rfl
        simp only [BkOk6f] at dg
        refine .inl ⟨wanted_of (j := 6) rfl rfl rfl dg (by rw [hag.2.1]; show 21 < 75; decide), fun K hK => ?_⟩
        have d25 : z.tmps.getD 25 undef = .bool true := hdep { on := 10, ground := .data } (by simp) rfl _ _ rfl rfl
        have e25 := d25
        rw [gdE] at e25
        have d28 : z.tmps.getD 28 undef = .bool false := hdep { on := 13, ground := .data } (by simp) rfl _ _ rfl rfl
        have e28 := d28
        rw [gdE] at e28
        have HSt := Lib.hid hst
        clear hdep hag hst
        go_simp
        exact hK _ _ (Below.refl _ _) rfl HSt.out
      · intro k z v hk hst hag hdep
        refine .inl ⟨rfl, fun K hK => ?_⟩
        have d21 : z.tmps.getD 21 undef = .bool false := hdep { on := 6, ground := .data } (by simp) rfl _ _ rfl rfl
        have e21 := d21
        rw [gdE] at e21
        have d29 : z.tmps.getD 29 undef = .bool false := hdep { on := 14, ground := .data } (by simp) rfl _ _ rfl rfl
        have e29 := d29
        rw [gdE] at e29
        have HSt := Lib.hid hst
        clear hdep hag hst
        go_simp
        exact hK _ _ (Below.refl _ _) rfl HSt.out
      · intro k z v hk hst hag hdep
        refine .inl ⟨rfl, fun K hK => ?_⟩
        have d30 : z.tmps.getD 30 undef = .bool false := hdep { on := 15, ground := .data } (by simp) rfl _ _ rfl rfl
        have e30 := d30
        rw [gdE] at e30
        have HSt := Lib.hid hst
        clear hdep hag hst
        go_simp
        exact hK _ _ (Below.refl _ _) rfl HSt.out
      · intro k z v hk hst hag hdep
        have dg : BkOk6f Z xa xn xc ya yn yc va vn vc ua un uc pk sv 16 (z.tmps.getD 31 undef) v := hdep { on := 16, ground := .guard } (by simp) rfl _ _ rfl rfl
        simp only [BkOk6f] at dg
        refine .inl ⟨wanted_of (j := 16) rfl rfl rfl dg (by rw [hag.2.1]; show 31 < 75; decide), fun K hK => ?_⟩
        have d4 : z.tmps.getD 4 undef = .string pk := hag.2.2 4 (by kernel_rfl)
        have e4 := d4
        rw [gdE] at e4
        have HSt := Lib.hid hst
        clear hdep hag hst
        go_simp
        exact hK _ _ (Below.refl _ _) rfl HSt.out
      · intro k z v hk hst hag hdep
        have dg : BkOk6f Z xa xn xc ya yn yc va vn vc ua un uc pk sv 16 (z.tmps.getD 31 undef) v := hdep { on := 16, ground := .guard } (by simp) rfl _ _ rfl rfl
        simp only [BkOk6f] at dg
        refine .inl ⟨wanted_of (j := 16) rfl rfl rfl dg (by rw [hag.2.1]; show 31 < 75; decide), fun K hK => ?_⟩
        have d3 : z.tmps.getD 3 undef = .pointer (some ⟨xb, 0, none⟩) := hag.2.2 3 (by kernel_rfl)
        have e3 := d3
        rw [gdE] at e3
        have hb : Below wg.heap.size wg v := hst
        have hbE := HEg.out.trans (hb.mono HEg.out.size)
        have hz := (HZE.out v hbE).2
        obtain ⟨l0, l1, l2, l3, l4, l5, l6, l7, l8, l9⟩ := ten_cells (s := Z) (ra := va) (rn := vn) (rc := vc) (ga := ua) (gn := un) (gc := uc) hz
        clear hb hbE hz
        have HSt := Lib.hid hst
        clear hdep hag hst
        go_simp
        exact hK _ _ (Below.refl _ _) rfl HSt.out
      · intro k z v hk hst hag hdep
        have dg : BkOk6f Z xa xn xc ya yn yc va vn vc ua un uc pk sv 16 (z.tmps.getD 31 undef) v := hdep { on := 16, ground := .guard } (by simp) rfl _ _ rfl rfl
        simp only [BkOk6f] at dg
        refine .inl ⟨wanted_of (j := 16) rfl rfl rfl dg (by rw [hag.2.1]; show 31 < 75; decide), fun K hK => ?_⟩
        have d33 : z.tmps.getD 33 undef = .agg #[.int .i64 Z.k, .int .i64 Z.w, .int .i64 Z.h, .int .i64 Z.x, .int .i64 Z.y, .string Z.t, .slice va vn vc, .int .i64 Z.n, .int .i64 Z.c, .slice ua un uc] := hdep { on := 18, ground := .data } (by simp) rfl _ _ rfl rfl
        have e33 := d33
        rw [gdE] at e33
        have hb : Below wg.heap.size wg v := hst
        have hbE := HEg.out.trans (hb.mono HEg.out.size)
        have HC := Lib.hid (HRp.out v hbE)
        have HBv := Lib.hid hb
        clear hdep hag hst hb hbE
        go_simp
        refine HC.out.mono ?_
        rintro e w' ⟨rfl, h9⟩
        exact hK _ _ h9 rfl (HBv.out.trans (h9.mono HBv.out.size))
      · intro k z v hk hst hag hdep
        have dg : BkOk6f Z xa xn xc ya yn yc va vn vc ua un uc pk sv 16 (z.tmps.getD 31 undef) v := hdep { on := 16, ground := .guard } (by simp) rfl _ _ rfl rfl
        simp only [BkOk6f] at dg
        refine .inl ⟨wanted_of (j := 16) rfl rfl rfl dg (by rw [hag.2.1]; show 31 < 75; decide), fun K hK => ?_⟩
        have d32 : z.tmps.getD 32 undef = .string pk := hdep { on := 17, ground := .data } (by simp) rfl _ _ rfl rfl
        have e32 := d32
        rw [gdE] at e32
        have d34 : z.tmps.getD 34 undef = .string pk := hdep { on := 19, ground := .data } (by simp) rfl _ _ rfl rfl
        have e34 := d34
        rw [gdE] at e34
        have HSt := Lib.hid hst
        clear hdep hag hst
        go_simp
        exact hK _ _ (Below.refl _ _) rfl HSt.out
      · intro k z v hk hst hag hdep
        refine .inl ⟨rfl, fun K hK => ?_⟩
        have d31 : z.tmps.getD 31 undef = .bool false := hdep { on := 16, ground := .data } (by simp) rfl _ _ rfl rfl
        have e31 := d31
        rw [gdE] at e31
        have d35 : z.tmps.getD 35 undef = .bool false := hdep { on := 20, ground := .data } (by simp) rfl _ _ rfl rfl
        have e35 := d35
        rw [gdE] at e35
        have HSt := Lib.hid hst
        clear hdep hag hst
        go_simp
        exact hK _ _ (Below.refl _ _) rfl HSt.out
      · intro k z v hk hst hag hdep
        refine .inl ⟨rfl, fun K hK => ?_⟩
        have d36 : z.tmps.getD 36 undef = .bool false := hdep { on := 21, ground := .data } (by simp) rfl _ _ rfl rfl
        have e36 := d36
        rw [gdE] at e36
        have HSt := Lib.hid hst
        clear hdep hag hst
        go_simp
        exact hK _ _ (Below.refl _ _) rfl HSt.out
      · intro k z v hk hst hag hdep
        have dg : BkOk6f Z xa xn xc ya yn yc va vn vc ua un uc pk sv 22 (z.tmps.getD 37 undef) v := hdep { on := 22, ground := .guard } (by simp) rfl _ _ rfl rfl
        simp only [BkOk6f] at dg
        refine .inl ⟨wanted_of (j := 22) rfl rfl rfl dg (by rw [hag.2.1]; show 37 < 75; decide), fun K hK => ?_⟩
        have d1 : z.tmps.getD 1 undef = .pointer (some ⟨rb, 0, none⟩) := hag.2.2 1 (by kernel_rfl)
        have e1 := d1
        rw [gdE] at e1
        have hb : Below wg.heap.size wg v := hst
        have hbE := HEg.out.trans (hb.mono HEg.out.size)
        have hz := (HZE.out v hbE).1
        obtain ⟨l0, l1, l2, l3, l4, l5, l6, l7, l8, l9⟩ := ten_cells (s := Z) (ra := xa) (rn := xn) (rc := xc) (ga := ya) (gn := yn) (gc := yc) hz
        clear hb hbE hz
        have HSt := Lib.hid hst
        clear hdep hag hst
        go_simp
        exact hK _ _ (Below.refl _ _) rfl HSt.out
      · intro k z v hk hst hag hdep
        have dg : BkOk6f Z xa xn xc ya yn yc va vn vc ua un uc pk sv 22 (z.tmps.getD 37 undef) v := hdep { on := 22, ground := .guard } (by simp) rfl _ _ rfl rfl
        simp only [BkOk6f] at dg
        refine .inl ⟨wanted_of (j := 22) rfl rfl rfl dg (by rw [hag.2.1]; show 37 < 75; decide), fun K hK => ?_⟩
        have d38 : z.tmps.getD 38 undef = .agg #[.int .i64 Z.k, .int .i64 Z.w, .int .i64 Z.h, .int .i64 Z.x, .int .i64 Z.y, .string Z.t, .slice xa xn xc, .int .i64 Z.n, .int .i64 Z.c, .slice ya yn yc] := hdep { on := 23, ground := .data } (by simp) rfl _ _ rfl rfl
        have e38 := d38
        rw [gdE] at e38
        have hb : Below wg.heap.size wg v := hst
        have hbE := HEg.out.trans (hb.mono HEg.out.size)
        have HC := Lib.hid (HSm.out v hbE)
        have HBv := Lib.hid hb
        clear hdep hag hst hb hbE
        go_simp
        refine HC.out.mono ?_
        rintro e w' ⟨rfl, h9⟩
        exact hK _ _ h9 rfl (HBv.out.trans (h9.mono HBv.out.size))
      · intro k z v hk hst hag hdep
        have dg : BkOk6f Z xa xn xc ya yn yc va vn vc ua un uc pk sv 22 (z.tmps.getD 37 undef) v := hdep { on := 22, ground := .guard } (by simp) rfl _ _ rfl rfl
        simp only [BkOk6f] at dg
        refine .inl ⟨wanted_of (j := 22) rfl rfl rfl dg (by rw [hag.2.1]; show 37 < 75; decide), fun K hK => ?_⟩
        have d3 : z.tmps.getD 3 undef = .pointer (some ⟨xb, 0, none⟩) := hag.2.2 3 (by kernel_rfl)
        have e3 := d3
        rw [gdE] at e3
        have hb : Below wg.heap.size wg v := hst
        have hbE := HEg.out.trans (hb.mono HEg.out.size)
        have hz := (HZE.out v hbE).2
        obtain ⟨l0, l1, l2, l3, l4, l5, l6, l7, l8, l9⟩ := ten_cells (s := Z) (ra := va) (rn := vn) (rc := vc) (ga := ua) (gn := un) (gc := uc) hz
        clear hb hbE hz
        have HSt := Lib.hid hst
        clear hdep hag hst
        go_simp
        exact hK _ _ (Below.refl _ _) rfl HSt.out
      · intro k z v hk hst hag hdep
        have dg : BkOk6f Z xa xn xc ya yn yc va vn vc ua un uc pk sv 22 (z.tmps.getD 37 undef) v := hdep { on := 22, ground := .guard } (by simp) rfl _ _ rfl rfl
        simp only [BkOk6f] at dg
        refine .inl ⟨wanted_of (j := 22) rfl rfl rfl dg (by rw [hag.2.1]; show 37 < 75; decide), fun K hK => ?_⟩
        have d40 : z.tmps.getD 40 undef = .agg #[.int .i64 Z.k, .int .i64 Z.w, .int .i64 Z.h, .int .i64 Z.x, .int .i64 Z.y, .string Z.t, .slice va vn vc, .int .i64 Z.n, .int .i64 Z.c, .slice ua un uc] := hdep { on := 25, ground := .data } (by simp) rfl _ _ rfl rfl
        have e40 := d40
        rw [gdE] at e40
        have hb : Below wg.heap.size wg v := hst
        have hbE := HEg.out.trans (hb.mono HEg.out.size)
        have HC := Lib.hid (HRs.out v hbE)
        have HBv := Lib.hid hb
        clear hdep hag hst hb hbE
        go_simp
        refine HC.out.mono ?_
        rintro e w' ⟨rfl, h9⟩
        exact hK _ _ h9 rfl (HBv.out.trans (h9.mono HBv.out.size))
      · intro k z v hk hst hag hdep
        have dg : BkOk6f Z xa xn xc ya yn yc va vn vc ua un uc pk sv 22 (z.tmps.getD 37 undef) v := hdep { on := 22, ground := .guard } (by simp) rfl _ _ rfl rfl
        simp only [BkOk6f] at dg
        refine .inl ⟨wanted_of (j := 22) rfl rfl rfl dg (by rw [hag.2.1]; show 37 < 75; decide), fun K hK => ?_⟩
        have d39 : z.tmps.getD 39 undef = .int .i64 (sv : Int) := hdep { on := 24, ground := .data } (by simp) rfl _ _ rfl rfl
        have e39 := d39
        rw [gdE] at e39
        have d41 : z.tmps.getD 41 undef = .int .i64 (sv : Int) := hdep { on := 26, ground := .data } (by simp) rfl _ _ rfl rfl
        have e41 := d41
        rw [gdE] at e41
        have HSt := Lib.hid hst
        clear hdep hag hst
        go_simp
        exact hK _ _ (Below.refl _ _) rfl HSt.out
      · intro k z v hk hst hag hdep
        refine .inl ⟨rfl, fun K hK => ?_⟩
        have d37 : z.tmps.getD 37 undef = .bool false := hdep { on := 22, ground := .data } (by simp) rfl _ _ rfl rfl
        have e37 := d37
        rw [gdE] at e37
        have d42 : z.tmps.getD 42 undef = .bool false := hdep { on := 27, ground := .data } (by simp) rfl _ _ rfl rfl
        have e42 := d42
        rw [gdE] at e42
        have HSt := Lib.hid hst
        clear hdep hag hst
        go_simp
        exact hK _ _ (Below.refl _ _) rfl HSt.out
      · intro k z v hk hst hag hdep
        refine .inl ⟨rfl, fun K hK => ?_⟩
        have d43 : z.tmps.getD 43 undef = .bool false := hdep { on := 28, ground := .data } (by simp) rfl _ _ rfl rfl
        have e43 := d43
        rw [gdE] at e43
        have HSt := Lib.hid hst
        clear hdep hag hst
        go_simp
        exact hK _ _ (Below.refl _ _) rfl HSt.out
      · intro k z v hk hst hag hdep
        have dg : BkOk6f Z xa xn xc ya yn yc va vn vc ua un uc pk sv 29 (z.tmps.getD 44 undef) v := hdep { on := 29, ground := .guard } (by simp) rfl _ _ rfl rfl
        simp only [BkOk6f] at dg
        refine .inl ⟨wanted_of (j := 29) rfl rfl rfl dg (by rw [hag.2.1]; show 44 < 75; decide), fun K hK => ?_⟩
        have d1 : z.tmps.getD 1 undef = .pointer (some ⟨rb, 0, none⟩) := hag.2.2 1 (by kernel_rfl)
        have e1 := d1
        rw [gdE] at e1
        have hb : Below wg.heap.size wg v := hst
        have hbE := HEg.out.trans (hb.mono HEg.out.size)
        have hz := (HZE.out v hbE).1
        obtain ⟨l0, l1, l2, l3, l4, l5, l6, l7, l8, l9⟩ := ten_cells (s := Z) (ra := xa) (rn := xn) (rc := xc) (ga := ya) (gn := yn) (gc := yc) hz
        clear hb hbE hz
        have HSt := Lib.hid hst
        clear hdep hag hst
        go_simp
        exact hK _ _ (Below.refl _ _) rfl HSt.out
      · intro k z v hk hst hag hdep
        have dg : BkOk6f Z xa xn xc ya yn yc va vn vc ua un uc pk sv 29 (z.tmps.getD 44 undef) v := hdep { on := 29, ground := .guard } (by simp) rfl _ _ rfl rfl
        simp only [BkOk6f] at dg
        refine .inl ⟨wanted_of (j := 29) rfl rfl rfl dg (by rw [hag.2.1]; show 44 < 75; decide), fun K hK => ?_⟩
        have d45 : z.tmps.getD 45 undef = .agg #[.int .i64 Z.k, .int .i64 Z.w, .int .i64 Z.h, .int .i64 Z.x, .int .i64 Z.y, .string Z.t, .slice xa xn xc, .int .i64 Z.n, .int .i64 Z.c, .slice ya yn yc] := hdep { on := 30, ground := .data } (by simp) rfl _ _ rfl rfl
        have e45 := d45
        rw [gdE] at e45
        have hb : Below wg.heap.size wg v := hst
        have hbE := HEg.out.trans (hb.mono HEg.out.size)
        have HC := Lib.hid (HCn.out v hbE)
        have HBv := Lib.hid hb
        clear hdep hag hst hb hbE
        go_simp
        refine HC.out.mono ?_
        rintro e w' ⟨⟨ka, kn, kc, la, ln, lc, rfl, hn⟩, h9⟩
        exact hK _ _ h9 ⟨ka, kn, kc, la, ln, lc, rfl, hn⟩ (HBv.out.trans (h9.mono HBv.out.size))
      · intro k z v hk hst hag hdep
        have dg : BkOk6f Z xa xn xc ya yn yc va vn vc ua un uc pk sv 29 (z.tmps.getD 44 undef) v := hdep { on := 29, ground := .guard } (by simp) rfl _ _ rfl rfl
        simp only [BkOk6f] at dg
        refine .inl ⟨wanted_of (j := 29) rfl rfl rfl dg (by rw [hag.2.1]; show 44 < 75; decide), fun K hK => ?_⟩
        have d3 : z.tmps.getD 3 undef = .pointer (some ⟨xb, 0, none⟩) := hag.2.2 3 (by kernel_rfl)
        have e3 := d3
        rw [gdE] at e3
        have hb : Below wg.heap.size wg v := hst
        have hbE := HEg.out.trans (hb.mono HEg.out.size)
        have hz := (HZE.out v hbE).2
        obtain ⟨l0, l1, l2, l3, l4, l5, l6, l7, l8, l9⟩ := ten_cells (s := Z) (ra := va) (rn := vn) (rc := vc) (ga := ua) (gn := un) (gc := uc) hz
        clear hb hbE hz
        have HSt := Lib.hid hst
        clear hdep hag hst
        go_simp
        exact hK _ _ (Below.refl _ _) rfl HSt.out
      · intro k z v hk hst hag hdep
        have dg : BkOk6f Z xa xn xc ya yn yc va vn vc ua un uc pk sv 29 (z.tmps.getD 44 undef) v := hdep { on := 29, ground := .guard } (by simp) rfl _ _ rfl rfl
        simp only [BkOk6f] at dg
        refine .inl ⟨wanted_of (j := 29) rfl rfl rfl dg (by rw [hag.2.1]; show 44 < 75; decide), fun K hK => ?_⟩
        have d46' : BkOk6f Z xa xn xc ya yn yc va vn vc ua un uc pk sv 31 (z.tmps.getD 46 undef) v := hdep { on := 31, ground := .data } (by simp) rfl _ _ rfl rfl
        simp only [BkOk6f] at d46'
        obtain ⟨ka, kn, kc, la, ln, lc, d46, HN⟩ := d46'
        have e46 := d46
        rw [gdE] at e46
        have d47 : z.tmps.getD 47 undef = .agg #[.int .i64 Z.k, .int .i64 Z.w, .int .i64 Z.h, .int .i64 Z.x, .int .i64 Z.y, .string Z.t, .slice va vn vc, .int .i64 Z.n, .int .i64 Z.c, .slice ua un uc] := hdep { on := 32, ground := .data } (by simp) rfl _ _ rfl rfl
        have e47 := d47
        rw [gdE] at e47
        have hb : Below wg.heap.size wg v := hst
        have hbE := HEg.out.trans (hb.mono HEg.out.size)
        have HC := Lib.hid (HIs.out v ka kn kc la ln lc hbE HN)
        have HBv := Lib.hid hb
        clear hdep hag hst hb hbE HN
        go_simp
        refine HC.out.mono ?_
        rintro e w' ⟨rfl, h9⟩
        exact hK _ _ h9 rfl (HBv.out.trans (h9.mono HBv.out.size))
      · intro k z v hk hst hag hdep
        have dg : BkOk6f Z xa xn xc ya yn yc va vn vc ua un uc pk sv 29 (z.tmps.getD 44 undef) v := hdep { on := 29, ground := .guard } (by simp) rfl _ _ rfl rfl
        simp only [BkOk6f] at dg
        refine .inl ⟨wanted_of (j := 29) rfl rfl rfl dg (by rw [hag.2.1]; show 44 < 75; decide), fun K hK => ?_⟩
        have d48 : z.tmps.getD 48 undef = .bool true := hdep { on := 33, ground := .data } (by simp) rfl _ _ rfl rfl
        have e48 := d48
        rw [gdE] at e48
        have HSt := Lib.hid hst
        clear hdep hag hst
        go_simp
        exact hK _ _ (Below.refl _ _) rfl HSt.out
      · intro k z v hk hst hag hdep
        refine .inl ⟨rfl, fun K hK => ?_⟩
        have d44 : z.tmps.getD 44 undef = .bool false := hdep { on := 29, ground := .data } (by simp) rfl _ _ rfl rfl
        have e44 := d44
        rw [gdE] at e44
        have d49 : z.tmps.getD 49 undef = .bool false := hdep { on := 34, ground := .data } (by simp) rfl _ _ rfl rfl
        have e49 := d49
        rw [gdE] at e49
        have HSt := Lib.hid hst
        clear hdep hag hst
        go_simp
        exact hK _ _ (Below.refl _ _) rfl HSt.out
      · intro k z v hk hst hag hdep
        refine .inl ⟨rfl, fun K hK => ?_⟩
        have d50 : z.tmps.getD 50 undef = .bool false := hdep { on := 35, ground := .data } (by simp) rfl _ _ rfl rfl
        have e50 := d50
        rw [gdE] at e50
        have HSt := Lib.hid hst
        clear hdep hag hst
        go_simp
        exact hK _ _ (Below.refl _ _) rfl HSt.out
      · intro k z v hk hst hag hdep
        have dg : BkOk6f Z xa xn xc ya yn yc va vn vc ua un uc pk sv 36 (z.tmps.getD 51 undef) v := hdep { on := 36, ground := .guard } (by simp) rfl _ _ rfl rfl
        simp only [BkOk6f] at dg
        refine .inl ⟨wanted_of (j := 36) rfl rfl rfl dg (by rw [hag.2.1]; show 51 < 75; decide), fun K hK => ?_⟩
        have d1 : z.tmps.getD 1 undef = .pointer (some ⟨rb, 0, none⟩) := hag.2.2 1 (by kernel_rfl)
        have e1 := d1
        rw [gdE] at e1
        have hb : Below wg.heap.size wg v := hst
        have hbE := HEg.out.trans (hb.mono HEg.out.size)
        have hz := (HZE.out v hbE).1
        obtain ⟨l0, l1, l2, l3, l4, l5, l6, l7, l8, l9⟩ := ten_cells (s := Z) (ra := xa) (rn := xn) (rc := xc) (ga := ya) (gn := yn) (gc := yc) hz
        clear hb hbE hz
        have HSt := Lib.hid hst
        clear hdep hag hst
        go_simp
        exact hK _ _ (Below.refl _ _) rfl HSt.out
      · intro k z v hk hst hag hdep
        have dg : BkOk6f Z xa xn xc ya yn yc va vn vc ua un uc pk sv 36 (z.tmps.getD 51 undef) v := hdep { on := 36, ground := .guard } (by simp) rfl _ _ rfl rfl
        simp only [BkOk6f] at dg
        refine .inl ⟨wanted_of (j := 36) rfl rfl rfl dg (by rw [hag.2.1]; show 51 < 75; decide), fun K hK => ?_⟩
        have d1 : z.tmps.getD 1 undef = .pointer (some ⟨rb, 0, none⟩) := hag.2.2 1 (by kernel_rfl)
        have e1 := d1
        rw [gdE] at e1
        have hb : Below wg.heap.size wg v := hst
        have hbE := HEg.out.trans (hb.mono HEg.out.size)
        have hz := (HZE.out v hbE).1
        obtain ⟨l0, l1, l2, l3, l4, l5, l6, l7, l8, l9⟩ := ten_cells (s := Z) (ra := xa) (rn := xn) (rc := xc) (ga := ya) (gn := yn) (gc := yc) hz
        clear hb hbE hz
        have HSt := Lib.hid hst
        clear hdep hag hst
        go_simp
        exact hK _ _ (Below.refl _ _) rfl HSt.out
      · intro k z v hk hst hag hdep
        have dg : BkOk6f Z xa xn xc ya yn yc va vn vc ua un uc pk sv 36 (z.tmps.getD 51 undef) v := hdep { on := 36, ground := .guard } (by simp) rfl _ _ rfl rfl
        simp only [BkOk6f] at dg
        refine .inl ⟨wanted_of (j := 36) rfl rfl rfl dg (by rw [hag.2.1]; show 51 < 75; decide), fun K hK => ?_⟩
        have d53 : z.tmps.getD 53 undef = .agg #[.int .i64 Z.k, .int .i64 Z.w, .int .i64 Z.h, .int .i64 Z.x, .int .i64 Z.y, .string Z.t, .slice xa xn xc, .int .i64 Z.n, .int .i64 Z.c, .slice ya yn yc] := hdep { on := 38, ground := .data } (by simp) rfl _ _ rfl rfl
        have e53 := d53
        rw [gdE] at e53
        have hb : Below wg.heap.size wg v := hst
        have hbE := HEg.out.trans (hb.mono HEg.out.size)
        have HC := Lib.hid (HCn.out v hbE)
        have HBv := Lib.hid hb
        clear hdep hag hst hb hbE
        go_simp
        refine HC.out.mono ?_
        rintro e w' ⟨⟨ka, kn, kc, la, ln, lc, rfl, hn⟩, h9⟩
        exact hK _ _ h9 ⟨ka, kn, kc, la, ln, lc, rfl, hn⟩ (HBv.out.trans (h9.mono HBv.out.size))
      · intro k z v hk hst hag hdep
        have dg : BkOk6f Z xa xn xc ya yn yc va vn vc ua un uc pk sv 36 (z.tmps.getD 51 undef) v := hdep { on := 36, ground := .guard } (by simp) rfl _ _ rfl rfl
        simp only [BkOk6f] at dg
        refine .inl ⟨wanted_of (j := 36) rfl rfl rfl dg (by rw [hag.2.1]; show 51 < 75; decide), fun K hK => ?_⟩
        have d52 : z.tmps.getD 52 undef = .agg #[.int .i64 Z.k, .int .i64 Z.w, .int .i64 Z.h, .int .i64 Z.x, .int .i64 Z.y, .string Z.t, .slice xa xn xc, .int .i64 Z.n, .int .i64 Z.c, .slice ya yn yc] := hdep { on := 37, ground := .data } (by simp) rfl _ _ rfl rfl
        have e52 := d52
        rw [gdE] at e52
        have d54' : BkOk6f Z xa xn xc ya yn yc va vn vc ua un uc pk sv 39 (z.tmps.getD 54 undef) v := hdep { on := 39, ground := .data } (by simp) rfl _ _ rfl rfl
        simp only [BkOk6f] at d54'
        obtain ⟨ka, kn, kc, la, ln, lc, d54, HN⟩ := d54'
        have e54 := d54
        rw [gdE] at e54
        have hb : Below wg.heap.size wg v := hst
        have hbE := HEg.out.trans (hb.mono HEg.out.size)
        have HC := Lib.hid (HSa.out v ka kn kc la ln lc hbE HN)
        have HBv := Lib.hid hb
        clear hdep hag hst hb hbE HN
        go_simp
        refine HC.out.mono ?_
        rintro e w' ⟨rfl, h9⟩
        exact hK _ _ h9 rfl (HBv.out.trans (h9.mono HBv.out.size))
      · intro k z v hk hst hag hdep
        have dg : BkOk6f Z xa xn xc ya yn yc va vn vc ua un uc pk sv 36 (z.tmps.getD 51 undef) v := hdep { on := 36, ground := .guard } (by simp) rfl _ _ rfl rfl
        simp only [BkOk6f] at dg
        refine .inl ⟨wanted_of (j := 36) rfl rfl rfl dg (by rw [hag.2.1]; show 51 < 75; decide), fun K hK => ?_⟩
        have d55 : z.tmps.getD 55 undef = .bool true := hdep { on := 40, ground := .data } (by simp) rfl _ _ rfl rfl
        have e55 := d55
        rw [gdE] at e55
        have HSt := Lib.hid hst
        clear hdep hag hst
        go_simp
        exact hK _ _ (Below.refl _ _) rfl HSt.out
      · intro k z v hk hst hag hdep
        refine .inl ⟨rfl, fun K hK => ?_⟩
        have d51 : z.tmps.getD 51 undef = .bool false := hdep { on := 36, ground := .data } (by simp) rfl _ _ rfl rfl
        have e51 := d51
        rw [gdE] at e51
        have d56 : z.tmps.getD 56 undef = .bool false := hdep { on := 41, ground := .data } (by simp) rfl _ _ rfl rfl
        have e56 := d56
        rw [gdE] at e56
        have HSt := Lib.hid hst
        clear hdep hag hst
        go_simp
        exact hK _ _ (Below.refl _ _) rfl HSt.out
    case hdone =>
      intro z v hst hag hok
      have d57 : z.tmps.getD 57 undef = .bool false := hok 42 _ 57 rfl rfl
      have HEv : Hid (Below w6.heap.size w6 v) := Lib.hid (HEg.out.trans (Below.mono hst HEg.out.size))
      clear hst
      obtain ⟨uu, hu, hzz⟩ := agree_frame [15, 16, 17, 18, 19, 20, 21, 22, 23, 24, 25, 26, 27, 28, 29, 30, 31, 32, 33, 34, 35, 36, 37, 38, 39, 40, 41, 42, 43, 44, 45, 46, 47, 48, 49, 50, 51, 52, 53, 54, 55, 56, 57] rfl hag
      have e57 := (hu 57).trans d57
      subst hzz
      simp only [List.foldl_cons, List.foldl_nil]
      rw [e57]
      clear e57 d57 hu hag hok
      try dsimp only [Exit.then]
      simp only [List.setIfInBounds_toArray, List.set_cons_succ, List.set_cons_zero]
      generalize uu 15 = u15', uu 16 = u16', uu 17 = u17', uu 18 = u18', uu 19 = u19', uu 20 = u20', uu 21 = u21', uu 22 = u22', uu 23 = u23', uu 24 = u24', uu 25 = u25', uu 26 = u26', uu 27 = u27', uu 28 = u28', uu 29 = u29', uu 30 = u30', uu 31 = u31', uu 32 = u32', uu 33 = u33', uu 34 = u34', uu 35 = u35', uu 36 = u36', uu 37 = u37', uu 38 = u38', uu 39 = u39', uu 40 = u40', uu 41 = u41', uu 42 = u42', uu 43 = u43', uu 44 = u44', uu 45 = u45', uu 46 = u46', uu 47 = u47', uu 48 = u48', uu 49 = u49', uu 50 = u50', uu 51 = u51', uu 52 = u52', uu 53 = u53', uu 54 = u54', uu 55 = u55', uu 56 = u56'
      clear uu
      rename_i K6 hK6
      try (refine hK6 _ _ ?_)
      obtain ⟨wh, hwh⟩ : ∃ wh, v = wh := ⟨_, rfl⟩
      rw [hwh] at HEv ⊢
      clear hwh
      have hzh := HZE.out wh HEv.out
      have HMyh := Lib.hid (HMy.out wh HEv.out)
      obtain ⟨u0, u1, u2, u3, u4, u5, u6, u7, u8, u9⟩ := ten_cells (s := Z) (ra := va) (rn := vn) (rc := vc) (ga := ua) (gn := un) (gc := uc) hzh.2
      clear hzh
      go_wp2_with fail
      refine HMyh.out.mono ?_
      rintro e wi ⟨rfl, hbi⟩
      have HEi := Lib.hid (HEv.out.trans (hbi.mono HEv.out.size))
      clear hbi u0 u1 u2 u3 u4 u5 u6 u7 u8 u9 HMyh
      have hpe : pk.data.toList = [] := by rw [HPl.out, (packN_nil Z).2 (.inr (of_decide_eq_false HB0.out))]
      have hend := Lib.hid (HEnd.out wi (HB6.out.trans (Below.mono HEi.out (by have := HB6.out.size; have := HRb.out; omega))))
      have q1 : (pk.toList == ([] : List UInt8)) = true := by rw [ByteArray.toList_eq, hpe]; rfl
      have q2 : (pk.toList == (⟨#[]⟩ : ByteArray).toList) = true := by rw [ByteArray.toList_eq, ByteArray.toList_eq, hpe]; rfl
      clear hpe
      go_wp2_with fail
      exact hend.out
  · obtain rfl : kc0 = 0 := HKb.out
    clear HKb
    go_upto_region 6 with fail
    refine wp_region_due [] [0, 0, 0, 0, 0, 0, 0, 0, 0, 0, 0, 0, 0, 0, 0, 0, 0, 0, 0, 0, 0, 0, 0, 0, 0, 0, 0, 0, 0, 0, 0, 0, 0, 0, 0, 0, 0, 0, 0, 0, 0, 0, 0] (by kernel_rfl) (fun _ _ u => Below wg.heap.size wg u) (fun u u2 => Below u.heap.size u u2) (BkOk6t Z xa xn xc ya yn yc va vn vc ua un uc pk sv) (by rfl) (by kernel_rfl) (by kernel_rfl) (by kernel_rfl) (by kernel_rfl) ?hcong ?hOk ?hop ?hdone ?h0
    case hcong => exact fun k f f2 u hs hst => hst
    case hOk => intro i u w1 w2 h hr; unfold BkOk6t at h ⊢; split <;> first | exact True.intro | exact h | (obtain ⟨a1, a2, a3, a4, a5, a6, e1, e2⟩ := h; exact ⟨a1, a2, a3, a4, a5, a6, e1, e2.belowAll hr⟩)
    case h0 => exact (Below.refl _ _).drew
    case hop =>
      refine ⟨?_, ?_, ?_, ?_, ?_, ?_, ?_, ?_, ?_, ?_, ?_, ?_, ?_, ?_, ?_, ?_, ?_, ?_, ?_, ?_, ?_, ?_, ?_, ?_, ?_, ?_, ?_, ?_, ?_, ?_, ?_, ?_, ?_, ?_, ?_, ?_, ?_, ?_, ?_, ?_, ?_, ?_, ?_, trivial⟩
      · intro k z v hk hst hag hdep
        refine .inl ⟨rfl, fun K hK => ?_⟩
        have d1 : z.tmps.getD 1 undef = .pointer (some ⟨rb, 0, none⟩) := hag.2.2 1 (by kernel_rfl)
        have e1 := d1
        rw [gdE] at e1
        have hb : Below wg.heap.size wg v := hst
        have hbE := HEg.out.trans (hb.mono HEg.out.size)
        have hz := (HZE.out v hbE).1
        obtain ⟨l0, l1, l2, l3, l4, l5, l6, l7, l8, l9⟩ := ten_cells (s := Z) (ra := xa) (rn := xn) (rc := xc) (ga := ya) (gn := yn) (gc := yc) hz
        clear hb hbE hz
        have HSt := Lib.hid hst
        clear hdep hag hst
        go_simp
        exact hK _ _ (Below.refl _ _) rfl HSt.out
      · intro k z v hk hst hag hdep
        refine .inl ⟨rfl, fun K hK => ?_⟩
        have d15 : z.tmps.getD 15 undef = .agg #[.int .i64 Z.k, .int .i64 Z.w, .int .i64 Z.h, .int .i64 Z.x, .int .i64 Z.y, .string Z.t, .slice xa xn xc, .int .i64 Z.n, .int .i64 Z.c, .slice ya yn yc] := hdep { on := 0, ground := .data } (by simp) rfl _ _ rfl rfl
        have e15 := d15
        rw [gdE] at e15
        have hb : Below wg.heap.size wg v := hst
        have hbE := HEg.out.trans (hb.mono HEg.out.size)
        have HC := Lib.hid (HCk.out v hbE)
        have HBv := Lib.hid hb
        clear hdep hag hst hb hbE
        go_simp
        refine HC.out.mono ?_
        rintro e w' ⟨rfl, h9⟩
        exact hK _ _ h9 rfl (HBv.out.trans (h9.mono HBv.out.size))
      · intro k z v hk hst hag hdep
        refine .inl ⟨rfl, fun K hK => ?_⟩
        have d16 : z.tmps.getD 16 undef = .int .i64 0 := hdep { on := 1, ground := .data } (by simp) rfl _ _ rfl rfl
        have e16 := d16
        rw [gdE] at e16
        have HSt := Lib.hid hst
        clear hdep hag hst
        go_simp
        exact hK _ _ (Below.refl _ _) rfl HSt.out
      · intro k z v hk hst hag hdep
        refine .inl ⟨rfl, fun K hK => ?_⟩
        have d3 : z.tmps.getD 3 undef = .pointer (some ⟨xb, 0, none⟩) := hag.2.2 3 (by kernel_rfl)
        have e3 := d3
        rw [gdE] at e3
        have hb : Below wg.heap.size wg v := hst
        have hbE := HEg.out.trans (hb.mono HEg.out.size)
        have hz := (HZE.out v hbE).2
        obtain ⟨l0, l1, l2, l3, l4, l5, l6, l7, l8, l9⟩ := ten_cells (s := Z) (ra := va) (rn := vn) (rc := vc) (ga := ua) (gn := un) (gc := uc) hz
        clear hb hbE hz
        have HSt := Lib.hid hst
        clear hdep hag hst
        go_simp
        exact hK _ _ (Below.refl _ _) rfl HSt.out
      · intro k z v hk hst hag hdep
        refine .inl ⟨rfl, fun K hK => ?_⟩
        have d18 : z.tmps.getD 18 undef = .agg #[.int .i64 Z.k, .int .i64 Z.w, .int .i64 Z.h, .int .i64 Z.x, .int .i64 Z.y, .string Z.t, .slice va vn vc, .int .i64 Z.n, .int .i64 Z.c, .slice ua un uc] := hdep { on := 3, ground := .data } (by simp) rfl _ _ rfl rfl
        have e18 := d18
        rw [gdE] at e18
        have hb : Below wg.heap.size wg v := hst
        have hbE := HEg.out.trans (hb.mono HEg.out.size)
        have HC := Lib.hid (HMy.out v hbE)
        have HBv := Lib.hid hb
        clear hdep hag hst hb hbE
        go_simp
        refine HC.out.mono ?_
        rintro e w' ⟨rfl, h9⟩
        exact hK _ _ h9 rfl (HBv.out.trans (h9.mono HBv.out.size))
      · intro k z v hk hst hag hdep
        refine .inl ⟨rfl, fun K hK => ?_⟩
        have d17 : z.tmps.getD 17 undef = .bool true := hdep { on := 2, ground := .data } (by simp) rfl _ _ rfl rfl
        have e17 := d17
        rw [gdE] at e17
        have d19 : z.tmps.getD 19 undef = .bool true := hdep { on := 4, ground := .data } (by simp) rfl _ _ rfl rfl
        have e19 := d19
        rw [gdE] at e19
        have HSt := Lib.hid hst
        clear hdep hag hst
        go_simp
        exact hK _ _ (Below.refl _ _) rfl HSt.out
      · intro k z v hk hst hag hdep
        refine .inl ⟨rfl, fun K hK => ?_⟩
        have d20 : z.tmps.getD 20 undef = .bool false := hdep { on := 5, ground := .data } (by simp) rfl _ _ rfl rfl
        have e20 := d20
        rw [gdE] at e20
        have HSt := Lib.hid hst
        clear hdep hag hst
        go_simp
        exact hK _ _ (Below.refl _ _) rfl HSt.out
      · intro k z v hk hst hag hdep
        have dg : BkOk6t Z xa xn xc ya yn yc va vn vc ua un uc pk sv 6 (z.tmps.getD 21 undef) v := hdep { on := 6, ground := .guard } (by simp) rfl _ _ rfl rfl
        simp only [BkOk6t] at dg
        refine .inl ⟨wanted_of (j := 6) rfl rfl rfl dg (by rw [hag.2.1]; show 21 < 75; decide), fun K hK => ?_⟩
        have d1 : z.tmps.getD 1 undef = .pointer (some ⟨rb, 0, none⟩) := hag.2.2 1 (by kernel_rfl)
        have e1 := d1
        rw [gdE] at e1
        have hb : Below wg.heap.size wg v := hst
        have hbE := HEg.out.trans (hb.mono HEg.out.size)
        have hz := (HZE.out v hbE).1
        obtain ⟨l0, l1, l2, l3, l4, l5, l6, l7, l8, l9⟩ := ten_cells (s := Z) (ra := xa) (rn := xn) (rc := xc) (ga := ya) (gn := yn) (gc := yc) hz
        clear hb hbE hz
        have HSt := Lib.hid hst
        clear hdep hag hst
        go_simp
        exact hK _ _ (Below.refl _ _) rfl HSt.out
      · intro k z v hk hst hag hdep
        have dg : BkOk6t Z xa xn xc ya yn yc va vn vc ua un uc pk sv 6 (z.tmps.getD 21 undef) v := hdep { on := 6, ground := .guard } (by simp) rfl _ _ rfl rfl
        simp only [BkOk6t] at dg
        refine .inl ⟨wanted_of (j := 6) rfl rfl rfl dg (by rw [hag.2.1]; show 21 < 75; decide), fun K hK => ?_⟩
        have d22 : z.tmps.getD 22 undef = .agg #[.int .i64 Z.k, .int .i64 Z.w, .int .i64 Z.h, .int .i64 Z.x, .int .i64 Z.y, .string Z.t, .slice xa xn xc, .int .i64 Z.n, .int .i64 Z.c, .slice ya yn yc] := hdep { on := 7, ground := .data } (by simp) rfl _ _ rfl rfl
        have e22 := d22
        rw [gdE] at e22
        have hb : Below wg.heap.size wg v := hst
        have hbE := HEg.out.trans (hb.mono HEg.out.size)
        have HC := Lib.hid (HCk.out v hbE)
        have HBv := Lib.hid hb
        clear hdep hag hst hb hbE
        go_simp
        refine HC.out.mono ?_
        rintro e w' ⟨rfl, h9⟩
        exact hK _ _ h9 rfl (HBv.out.trans (h9.mono HBv.out.size))
      · intro k z v hk hst hag hdep
        have dg : BkOk6t Z xa xn xc ya yn yc va vn vc ua un uc pk sv 6 (z.tmps.getD 21 undef) v := hdep { on := 6, ground := .guard } (by simp) rfl _ _ rfl rfl
        simp only [BkOk6t] at dg
        refine .inl ⟨wanted_of (j := 6) rfl rfl rfl dg (by rw [hag.2.1]; show 21 < 75; decide), fun K hK => ?_⟩
        have d23 : z.tmps.getD 23 undef = .int .i64 0 := hdep { on := 8, ground := .data } (by simp) rfl _ _ rfl rfl
        have e23 := d23
        rw [gdE] at e23
        have HSt := Lib.hid hst
        clear hdep hag hst
        go_simp
        exact hK _ _ (Below.refl _ _) rfl HSt.out
      · intro k z v hk hst hag hdep
        have dg : BkOk6t Z xa xn xc ya yn yc va vn vc ua un uc pk sv 6 (z.tmps.getD 21 undef) v := hdep { on := 6, ground := .guard } (by simp) rfl _ _ rfl rfl
        simp only [BkOk6t] at dg
        refine .inl ⟨wanted_of (j := 6) rfl rfl rfl dg (by rw [hag.2.1]; show 21 < 75; decide), fun K hK => ?_⟩
        have d24 : z.tmps.getD 24 undef = .bool false := hdep { on := 9, ground := .data } (by simp) rfl _ _ rfl rfl
        have e24 := d24
        rw [gdE] at e24
        have HSt := Lib.hid hst
        clear hdep hag hst
        go_simp
        exact hK _ _ (Below.refl _ _) rfl HSt.out
      · intro k z v hk hst hag hdep
        have dg : BkOk6t Z xa xn xc ya yn yc va vn vc ua un uc pk sv 10 (z.tmps.getD 25 undef) v := hdep { on := 10, ground := .guard } (by simp) rfl _ _ rfl rfl
        simp only [BkOk6t] at dg
        exact .inr ⟨unwanted_of (j := 10) rfl rfl rfl dg (by decide) (by rw [hag.2.1]; show 25 < 75; decide), (Below.refl _ _), True.intro⟩
      · intro k z v hk hst hag hdep
        have dg : BkOk6t Z xa xn xc ya yn yc va vn vc ua un uc pk sv 10 (z.tmps.getD 25 undef) v := hdep { on := 10, ground := .guard } (by simp) rfl _ _ rfl rfl
        simp only [BkOk6t] at dg
        exact .inr ⟨unwanted_of (j := 10) rfl rfl rfl dg (by decide) (by rw [hag.2.1]; show 25 < 75; decide), (Below.refl _ _), True.intro⟩
      · intro k z v hk hst hag hdep
        have dg : BkOk6t Z xa xn xc ya yn yc va vn vc ua un uc pk sv 10 (z.tmps.getD 25 undef) v := hdep { on := 10, ground := .guard } (by simp) rfl _ _ rfl rfl
        simp only [BkOk6t] at dg
        exact .inr ⟨unwanted_of (j := 10) rfl rfl rfl dg (by decide) (by rw [hag.2.1]; show 25 < 75; decide), (Below.refl _ _), True.intro⟩
      · intro k z v hk hst hag hdep
        have dg : BkOk6t Z xa xn xc ya yn yc va vn vc ua un uc pk sv 6 (z.tmps.getD 21 undef) v := hdep { on := 6, ground := .guard } (by simp) rfl _ _ rfl rfl
        simp only [BkOk6t] at dg
        refine .inl ⟨wanted_of (j := 6) rfl rfl rfl dg (by rw [hag.2.1]; show 21 < 75; decide), fun K hK => ?_⟩
        have d25 : z.tmps.getD 25 undef = .bool false := hdep { on := 10, ground := .data } (by simp) rfl _ _ rfl rfl
        have e25 := d25
        rw [gdE] at e25
        have HSt := Lib.hid hst
        clear hdep hag hst
        go_simp
        exact hK _ _ (Below.refl _ _) rfl HSt.out
      · intro k z v hk hst hag hdep
        refine .inl ⟨rfl, fun K hK => ?_⟩
        have d21 : z.tmps.getD 21 undef = .bool false := hdep { on := 6, ground := .data } (by simp) rfl _ _ rfl rfl
        have e21 := d21
        rw [gdE] at e21
        have d29 : z.tmps.getD 29 undef = .bool false := hdep { on := 14, ground := .data } (by simp) rfl _ _ rfl rfl
        have e29 := d29
        rw [gdE] at e29
        have HSt := Lib.hid hst
        clear hdep hag hst
        go_simp
        exact hK _ _ (Below.refl _ _) rfl HSt.out
      · intro k z v hk hst hag hdep
        refine .inl ⟨rfl, fun K hK => ?_⟩
        have d30 : z.tmps.getD 30 undef = .bool false := hdep { on := 15, ground := .data } (by simp) rfl _ _ rfl rfl
        have e30 := d30
        rw [gdE] at e30
        have HSt := Lib.hid hst
        clear hdep hag hst
        go_simp
        exact hK _ _ (Below.refl _ _) rfl HSt.out
      · intro k z v hk hst hag hdep
        have dg : BkOk6t Z xa xn xc ya yn yc va vn vc ua un uc pk sv 16 (z.tmps.getD 31 undef) v := hdep { on := 16, ground := .guard } (by simp) rfl _ _ rfl rfl
        simp only [BkOk6t] at dg
        refine .inl ⟨wanted_of (j := 16) rfl rfl rfl dg (by rw [hag.2.1]; show 31 < 75; decide), fun K hK => ?_⟩
        have d4 : z.tmps.getD 4 undef = .string pk := hag.2.2 4 (by kernel_rfl)
        have e4 := d4
        rw [gdE] at e4
        have HSt := Lib.hid hst
        clear hdep hag hst
        go_simp
        exact hK _ _ (Below.refl _ _) rfl HSt.out
      · intro k z v hk hst hag hdep
        have dg : BkOk6t Z xa xn xc ya yn yc va vn vc ua un uc pk sv 16 (z.tmps.getD 31 undef) v := hdep { on := 16, ground := .guard } (by simp) rfl _ _ rfl rfl
        simp only [BkOk6t] at dg
        refine .inl ⟨wanted_of (j := 16) rfl rfl rfl dg (by rw [hag.2.1]; show 31 < 75; decide), fun K hK => ?_⟩
        have d3 : z.tmps.getD 3 undef = .pointer (some ⟨xb, 0, none⟩) := hag.2.2 3 (by kernel_rfl)
        have e3 := d3
        rw [gdE] at e3
        have hb : Below wg.heap.size wg v := hst
        have hbE := HEg.out.trans (hb.mono HEg.out.size)
        have hz := (HZE.out v hbE).2
        obtain ⟨l0, l1, l2, l3, l4, l5, l6, l7, l8, l9⟩ := ten_cells (s := Z) (ra := va) (rn := vn) (rc := vc) (ga := ua) (gn := un) (gc := uc) hz
        clear hb hbE hz
        have HSt := Lib.hid hst
        clear hdep hag hst
        go_simp
        exact hK _ _ (Below.refl _ _) rfl HSt.out
      · intro k z v hk hst hag hdep
        have dg : BkOk6t Z xa xn xc ya yn yc va vn vc ua un uc pk sv 16 (z.tmps.getD 31 undef) v := hdep { on := 16, ground := .guard } (by simp) rfl _ _ rfl rfl
        simp only [BkOk6t] at dg
        refine .inl ⟨wanted_of (j := 16) rfl rfl rfl dg (by rw [hag.2.1]; show 31 < 75; decide), fun K hK => ?_⟩
        have d33 : z.tmps.getD 33 undef = .agg #[.int .i64 Z.k, .int .i64 Z.w, .int .i64 Z.h, .int .i64 Z.x, .int .i64 Z.y, .string Z.t, .slice va vn vc, .int .i64 Z.n, .int .i64 Z.c, .slice ua un uc] := hdep { on := 18, ground := .data } (by simp) rfl _ _ rfl rfl
        have e33 := d33
        rw [gdE] at e33
        have hb : Below wg.heap.size wg v := hst
        have hbE := HEg.out.trans (hb.mono HEg.out.size)
        have HC := Lib.hid (HRp.out v hbE)
        have HBv := Lib.hid hb
        clear hdep hag hst hb hbE
        go_simp
        refine HC.out.mono ?_
        rintro e w' ⟨rfl, h9⟩
        exact hK _ _ h9 rfl (HBv.out.trans (h9.mono HBv.out.size))
      · intro k z v hk hst hag hdep
        have dg : BkOk6t Z xa xn xc ya yn yc va vn vc ua un uc pk sv 16 (z.tmps.getD 31 undef) v := hdep { on := 16, ground := .guard } (by simp) rfl _ _ rfl rfl
        simp only [BkOk6t] at dg
        refine .inl ⟨wanted_of (j := 16) rfl rfl rfl dg (by rw [hag.2.1]; show 31 < 75; decide), fun K hK => ?_⟩
        have d32 : z.tmps.getD 32 undef = .string pk := hdep { on := 17, ground := .data } (by simp) rfl _ _ rfl rfl
        have e32 := d32
        rw [gdE] at e32
        have d34 : z.tmps.getD 34 undef = .string pk := hdep { on := 19, ground := .data } (by simp) rfl _ _ rfl rfl
        have e34 := d34
        rw [gdE] at e34
        have HSt := Lib.hid hst
        clear hdep hag hst
        go_simp
        exact hK _ _ (Below.refl _ _) rfl HSt.out
      · intro k z v hk hst hag hdep
        refine .inl ⟨rfl, fun K hK => ?_⟩
        have d31 : z.tmps.getD 31 undef = .bool false := hdep { on := 16, ground := .data } (by simp) rfl _ _ rfl rfl
        have e31 := d31
        rw [gdE] at e31
        have d35 : z.tmps.getD 35 undef = .bool false := hdep { on := 20, ground := .data } (by simp) rfl _ _ rfl rfl
        have e35 := d35
        rw [gdE] at e35
        have HSt := Lib.hid hst
        clear hdep hag hst
        go_simp
        exact hK _ _ (Below.refl _ _) rfl HSt.out
      · intro k z v hk hst hag hdep
        refine .inl ⟨rfl, fun K hK => ?_⟩
        have d36 : z.tmps.getD 36 undef = .bool false := hdep { on := 21, ground := .data } (by simp) rfl _ _ rfl rfl
        have e36 := d36
        rw [gdE] at e36
        have HSt := Lib.hid hst
        clear hdep hag hst
        go_simp
        exact hK _ _ (Below.refl _ _) rfl HSt.out
      · intro k z v hk hst hag hdep
        have dg : BkOk6t Z xa xn xc ya yn yc va vn vc ua un uc pk sv 22 (z.tmps.getD 37 undef) v := hdep { on := 22, ground := .guard } (by simp) rfl _ _ rfl rfl
        simp only [BkOk6t] at dg
        refine .inl ⟨wanted_of (j := 22) rfl rfl rfl dg (by rw [hag.2.1]; show 37 < 75; decide), fun K hK => ?_⟩
        have d1 : z.tmps.getD 1 undef = .pointer (some ⟨rb, 0, none⟩) := hag.2.2 1 (by kernel_rfl)
        have e1 := d1
        rw [gdE] at e1
        have hb : Below wg.heap.size wg v := hst
        have hbE := HEg.out.trans (hb.mono HEg.out.size)
        have hz := (HZE.out v hbE).1
        obtain ⟨l0, l1, l2, l3, l4, l5, l6, l7, l8, l9⟩ := ten_cells (s := Z) (ra := xa) (rn := xn) (rc := xc) (ga := ya) (gn := yn) (gc := yc) hz
        clear hb hbE hz
        have HSt := Lib.hid hst
        clear hdep hag hst
        go_simp
        exact hK _ _ (Below.refl _ _) rfl HSt.out
      · intro k z v hk hst hag hdep
        have dg : BkOk6t Z xa xn xc ya yn yc va vn vc ua un uc pk sv 22 (z.tmps.getD 37 undef) v := hdep { on := 22, ground := .guard } (by simp) rfl _ _ rfl rfl
        simp only [BkOk6t] at dg
        refine .inl ⟨wanted_of (j := 22) rfl rfl rfl dg (by rw [hag.2.1]; show 37 < 75; decide), fun K hK => ?_⟩
        have d38 : z.tmps.getD 38 undef = .agg #[.int .i64 Z.k, .int .i64 Z.w, .int .i64 Z.h, .int .i64 Z.x, .int .i64 Z.y, .string Z.t, .slice xa xn xc, .int .i64 Z.n, .int .i64 Z.c, .slice ya yn yc] := hdep { on := 23, ground := .data } (by simp) rfl _ _ rfl rfl
        have e38 := d38
        rw [gdE] at e38
        have hb : Below wg.heap.size wg v := hst
        have hbE := HEg.out.trans (hb.mono HEg.out.size)
        have HC := Lib.hid (HSm.out v hbE)
        have HBv := Lib.hid hb
        clear hdep hag hst hb hbE
        go_simp
        refine HC.out.mono ?_
        rintro e w' ⟨rfl, h9⟩
        exact hK _ _ h9 rfl (HBv.out.trans (h9.mono HBv.out.size))
      · intro k z v hk hst hag hdep
        have dg : BkOk6t Z xa xn xc ya yn yc va vn vc ua un uc pk sv 22 (z.tmps.getD 37 undef) v := hdep { on := 22, ground := .guard } (by simp) rfl _ _ rfl rfl
        simp only [BkOk6t] at dg
        refine .inl ⟨wanted_of (j := 22) rfl rfl rfl dg (by rw [hag.2.1]; show 37 < 75; decide), fun K hK => ?_⟩
        have d3 : z.tmps.getD 3 undef = .pointer (some ⟨xb, 0, none⟩) := hag.2.2 3 (by kernel_rfl)
        have e3 := d3
        rw [gdE] at e3
        have hb : Below wg.heap.size wg v := hst
        have hbE := HEg.out.trans (hb.mono HEg.out.size)
        have hz := (HZE.out v hbE).2
        obtain ⟨l0, l1, l2, l3, l4, l5, l6, l7, l8, l9⟩ := ten_cells (s := Z) (ra := va) (rn := vn) (rc := vc) (ga := ua) (gn := un) (gc := uc) hz
        clear hb hbE hz
        have HSt := Lib.hid hst
        clear hdep hag hst
        go_simp
        exact hK _ _ (Below.refl _ _) rfl HSt.out
      · intro k z v hk hst hag hdep
        have dg : BkOk6t Z xa xn xc ya yn yc va vn vc ua un uc pk sv 22 (z.tmps.getD 37 undef) v := hdep { on := 22, ground := .guard } (by simp) rfl _ _ rfl rfl
        simp only [BkOk6t] at dg
        refine .inl ⟨wanted_of (j := 22) rfl rfl rfl dg (by rw [hag.2.1]; show 37 < 75; decide), fun K hK => ?_⟩
        have d40 : z.tmps.getD 40 undef = .agg #[.int .i64 Z.k, .int .i64 Z.w, .int .i64 Z.h, .int .i64 Z.x, .int .i64 Z.y, .string Z.t, .slice va vn vc, .int .i64 Z.n, .int .i64 Z.c, .slice ua un uc] := hdep { on := 25, ground := .data } (by simp) rfl _ _ rfl rfl
        have e40 := d40
        rw [gdE] at e40
        have hb : Below wg.heap.size wg v := hst
        have hbE := HEg.out.trans (hb.mono HEg.out.size)
        have HC := Lib.hid (HRs.out v hbE)
        have HBv := Lib.hid hb
        clear hdep hag hst hb hbE
        go_simp
        refine HC.out.mono ?_
        rintro e w' ⟨rfl, h9⟩
        exact hK _ _ h9 rfl (HBv.out.trans (h9.mono HBv.out.size))
      · intro k z v hk hst hag hdep
        have dg : BkOk6t Z xa xn xc ya yn yc va vn vc ua un uc pk sv 22 (z.tmps.getD 37 undef) v := hdep { on := 22, ground := .guard } (by simp) rfl _ _ rfl rfl
        simp only [BkOk6t] at dg
        refine .inl ⟨wanted_of (j := 22) rfl rfl rfl dg (by rw [hag.2.1]; show 37 < 75; decide), fun K hK => ?_⟩
        have d39 : z.tmps.getD 39 undef = .int .i64 (sv : Int) := hdep { on := 24, ground := .data } (by simp) rfl _ _ rfl rfl
        have e39 := d39
        rw [gdE] at e39
        have d41 : z.tmps.getD 41 undef = .int .i64 (sv : Int) := hdep { on := 26, ground := .data } (by simp) rfl _ _ rfl rfl
        have e41 := d41
        rw [gdE] at e41
        have HSt := Lib.hid hst
        clear hdep hag hst
        go_simp
        exact hK _ _ (Below.refl _ _) rfl HSt.out
      · intro k z v hk hst hag hdep
        refine .inl ⟨rfl, fun K hK => ?_⟩
        have d37 : z.tmps.getD 37 undef = .bool false := hdep { on := 22, ground := .data } (by simp) rfl _ _ rfl rfl
        have e37 := d37
        rw [gdE] at e37
        have d42 : z.tmps.getD 42 undef = .bool false := hdep { on := 27, ground := .data } (by simp) rfl _ _ rfl rfl
        have e42 := d42
        rw [gdE] at e42
        have HSt := Lib.hid hst
        clear hdep hag hst
        go_simp
        exact hK _ _ (Below.refl _ _) rfl HSt.out
      · intro k z v hk hst hag hdep
        refine .inl ⟨rfl, fun K hK => ?_⟩
        have d43 : z.tmps.getD 43 undef = .bool false := hdep { on := 28, ground := .data } (by simp) rfl _ _ rfl rfl
        have e43 := d43
        rw [gdE] at e43
        have HSt := Lib.hid hst
        clear hdep hag hst
        go_simp
        exact hK _ _ (Below.refl _ _) rfl HSt.out
      · intro k z v hk hst hag hdep
        have dg : BkOk6t Z xa xn xc ya yn yc va vn vc ua un uc pk sv 29 (z.tmps.getD 44 undef) v := hdep { on := 29, ground := .guard } (by simp) rfl _ _ rfl rfl
        simp only [BkOk6t] at dg
        refine .inl ⟨wanted_of (j := 29) rfl rfl rfl dg (by rw [hag.2.1]; show 44 < 75; decide), fun K hK => ?_⟩
        have d1 : z.tmps.getD 1 undef = .pointer (some ⟨rb, 0, none⟩) := hag.2.2 1 (by kernel_rfl)
        have e1 := d1
        rw [gdE] at e1
        have hb : Below wg.heap.size wg v := hst
        have hbE := HEg.out.trans (hb.mono HEg.out.size)
        have hz := (HZE.out v hbE).1
        obtain ⟨l0, l1, l2, l3, l4, l5, l6, l7, l8, l9⟩ := ten_cells (s := Z) (ra := xa) (rn := xn) (rc := xc) (ga := ya) (gn := yn) (gc := yc) hz
        clear hb hbE hz
        have HSt := Lib.hid hst
        clear hdep hag hst
        go_simp
        exact hK _ _ (Below.refl _ _) rfl HSt.out
      · intro k z v hk hst hag hdep
        have dg : BkOk6t Z xa xn xc ya yn yc va vn vc ua un uc pk sv 29 (z.tmps.getD 44 undef) v := hdep { on := 29, ground := .guard } (by simp) rfl _ _ rfl rfl
        simp only [BkOk6t] at dg
        refine .inl ⟨wanted_of (j := 29) rfl rfl rfl dg (by rw [hag.2.1]; show 44 < 75; decide), fun K hK => ?_⟩
        have d45 : z.tmps.getD 45 undef = .agg #[.int .i64 Z.k, .int .i64 Z.w, .int .i64 Z.h, .int .i64 Z.x, .int .i64 Z.y, .string Z.t, .slice xa xn xc, .int .i64 Z.n, .int .i64 Z.c, .slice ya yn yc] := hdep { on := 30, ground := .data } (by simp) rfl _ _ rfl rfl
        have e45 := d45
        rw [gdE] at e45
        have hb : Below wg.heap.size wg v := hst
        have hbE := HEg.out.trans (hb.mono HEg.out.size)
        have HC := Lib.hid (HCn.out v hbE)
        have HBv := Lib.hid hb
        clear hdep hag hst hb hbE
        go_simp
        refine HC.out.mono ?_
        rintro e w' ⟨⟨ka, kn, kc, la, ln, lc, rfl, hn⟩, h9⟩
        exact hK _ _ h9 ⟨ka, kn, kc, la, ln, lc, rfl, hn⟩ (HBv.out.trans (h9.mono HBv.out.size))
      · intro k z v hk hst hag hdep
        have dg : BkOk6t Z xa xn xc ya yn yc va vn vc ua un uc pk sv 29 (z.tmps.getD 44 undef) v := hdep { on := 29, ground := .guard } (by simp) rfl _ _ rfl rfl
        simp only [BkOk6t] at dg
        refine .inl ⟨wanted_of (j := 29) rfl rfl rfl dg (by rw [hag.2.1]; show 44 < 75; decide), fun K hK => ?_⟩
        have d3 : z.tmps.getD 3 undef = .pointer (some ⟨xb, 0, none⟩) := hag.2.2 3 (by kernel_rfl)
        have e3 := d3
        rw [gdE] at e3
        have hb : Below wg.heap.size wg v := hst
        have hbE := HEg.out.trans (hb.mono HEg.out.size)
        have hz := (HZE.out v hbE).2
        obtain ⟨l0, l1, l2, l3, l4, l5, l6, l7, l8, l9⟩ := ten_cells (s := Z) (ra := va) (rn := vn) (rc := vc) (ga := ua) (gn := un) (gc := uc) hz
        clear hb hbE hz
        have HSt := Lib.hid hst
        clear hdep hag hst
        go_simp
        exact hK _ _ (Below.refl _ _) rfl HSt.out
      · intro k z v hk hst hag hdep
        have dg : BkOk6t Z xa xn xc ya yn yc va vn vc ua un uc pk sv 29 (z.tmps.getD 44 undef) v := hdep { on := 29, ground := .guard } (by simp) rfl _ _ rfl rfl
        simp only [BkOk6t] at dg
        refine .inl ⟨wanted_of (j := 29) rfl rfl rfl dg (by rw [hag.2.1]; show 44 < 75; decide), fun K hK => ?_⟩
        have d46' : BkOk6t Z xa xn xc ya yn yc va vn vc ua un uc pk sv 31 (z.tmps.getD 46 undef) v := hdep { on := 31, ground := .data } (by simp) rfl _ _ rfl rfl
        simp only [BkOk6t] at d46'
        obtain ⟨ka, kn, kc, la, ln, lc, d46, HN⟩ := d46'
        have e46 := d46
        rw [gdE] at e46
        have d47 : z.tmps.getD 47 undef = .agg #[.int .i64 Z.k, .int .i64 Z.w, .int .i64 Z.h, .int .i64 Z.x, .int .i64 Z.y, .string Z.t, .slice va vn vc, .int .i64 Z.n, .int .i64 Z.c, .slice ua un uc] := hdep { on := 32, ground := .data } (by simp) rfl _ _ rfl rfl
        have e47 := d47
        rw [gdE] at e47
        have hb : Below wg.heap.size wg v := hst
        have hbE := HEg.out.trans (hb.mono HEg.out.size)
        have HC := Lib.hid (HIs.out v ka kn kc la ln lc hbE HN)
        have HBv := Lib.hid hb
        clear hdep hag hst hb hbE HN
        go_simp
        refine HC.out.mono ?_
        rintro e w' ⟨rfl, h9⟩
        exact hK _ _ h9 rfl (HBv.out.trans (h9.mono HBv.out.size))
      · intro k z v hk hst hag hdep
        have dg : BkOk6t Z xa xn xc ya yn yc va vn vc ua un uc pk sv 29 (z.tmps.getD 44 undef) v := hdep { on := 29, ground := .guard } (by simp) rfl _ _ rfl rfl
        simp only [BkOk6t] at dg
        refine .inl ⟨wanted_of (j := 29) rfl rfl rfl dg (by rw [hag.2.1]; show 44 < 75; decide), fun K hK => ?_⟩
        have d48 : z.tmps.getD 48 undef = .bool true := hdep { on := 33, ground := .data } (by simp) rfl _ _ rfl rfl
        have e48 := d48
        rw [gdE] at e48
        have HSt := Lib.hid hst
        clear hdep hag hst
        go_simp
        exact hK _ _ (Below.refl _ _) rfl HSt.out
      · intro k z v hk hst hag hdep
        refine .inl ⟨rfl, fun K hK => ?_⟩
        have d44 : z.tmps.getD 44 undef = .bool false := hdep { on := 29, ground := .data } (by simp) rfl _ _ rfl rfl
        have e44 := d44
        rw [gdE] at e44
        have d49 : z.tmps.getD 49 undef = .bool false := hdep { on := 34, ground := .data } (by simp) rfl _ _ rfl rfl
        have e49 := d49
        rw [gdE] at e49
        have HSt := Lib.hid hst
        clear hdep hag hst
        go_simp
        exact hK _ _ (Below.refl _ _) rfl HSt.out
      · intro k z v hk hst hag hdep
        refine .inl ⟨rfl, fun K hK => ?_⟩
        have d50 : z.tmps.getD 50 undef = .bool false := hdep { on := 35, ground := .data } (by simp) rfl _ _ rfl rfl
        have e50 := d50
        rw [gdE] at e50
        have HSt := Lib.hid hst
        clear hdep hag hst
        go_simp
        exact hK _ _ (Below.refl _ _) rfl HSt.out
      · intro k z v hk hst hag hdep
        have dg : BkOk6t Z xa xn xc ya yn yc va vn vc ua un uc pk sv 36 (z.tmps.getD 51 undef) v := hdep { on := 36, ground := .guard } (by simp) rfl _ _ rfl rfl
        simp only [BkOk6t] at dg
        refine .inl ⟨wanted_of (j := 36) rfl rfl rfl dg (by rw [hag.2.1]; show 51 < 75; decide), fun K hK => ?_⟩
        have d1 : z.tmps.getD 1 undef = .pointer (some ⟨rb, 0, none⟩) := hag.2.2 1 (by kernel_rfl)
        have e1 := d1
        rw [gdE] at e1
        have hb : Below wg.heap.size wg v := hst
        have hbE := HEg.out.trans (hb.mono HEg.out.size)
        have hz := (HZE.out v hbE).1
        obtain ⟨l0, l1, l2, l3, l4, l5, l6, l7, l8, l9⟩ := ten_cells (s := Z) (ra := xa) (rn := xn) (rc := xc) (ga := ya) (gn := yn) (gc := yc) hz
        clear hb hbE hz
        have HSt := Lib.hid hst
        clear hdep hag hst
        go_simp
        exact hK _ _ (Below.refl _ _) rfl HSt.out
      · intro k z v hk hst hag hdep
        have dg : BkOk6t Z xa xn xc ya yn yc va vn vc ua un uc pk sv 36 (z.tmps.getD 51 undef) v := hdep { on := 36, ground := .guard } (by simp) rfl _ _ rfl rfl
        simp only [BkOk6t] at dg
        refine .inl ⟨wanted_of (j := 36) rfl rfl rfl dg (by rw [hag.2.1]; show 51 < 75; decide), fun K hK => ?_⟩
        have d1 : z.tmps.getD 1 undef = .pointer (some ⟨rb, 0, none⟩) := hag.2.2 1 (by kernel_rfl)
        have e1 := d1
        rw [gdE] at e1
        have hb : Below wg.heap.size wg v := hst
        have hbE := HEg.out.trans (hb.mono HEg.out.size)
        have hz := (HZE.out v hbE).1
        obtain ⟨l0, l1, l2, l3, l4, l5, l6, l7, l8, l9⟩ := ten_cells (s := Z) (ra := xa) (rn := xn) (rc := xc) (ga := ya) (gn := yn) (gc := yc) hz
        clear hb hbE hz
        have HSt := Lib.hid hst
        clear hdep hag hst
        go_simp
        exact hK _ _ (Below.refl _ _) rfl HSt.out
      · intro k z v hk hst hag hdep
        have dg : BkOk6t Z xa xn xc ya yn yc va vn vc ua un uc pk sv 36 (z.tmps.getD 51 undef) v := hdep { on := 36, ground := .guard } (by simp) rfl _ _ rfl rfl
        simp only [BkOk6t] at dg
        refine .inl ⟨wanted_of (j := 36) rfl rfl rfl dg (by rw [hag.2.1]; show 51 < 75; decide), fun K hK => ?_⟩
        have d53 : z.tmps.getD 53 undef = .agg #[.int .i64 Z.k, .int .i64 Z.w, .int .i64 Z.h, .int .i64 Z.x, .int .i64 Z.y, .string Z.t, .slice xa xn xc, .int .i64 Z.n, .int .i64 Z.c, .slice ya yn yc] := hdep { on := 38, ground := .data } (by simp) rfl _ _ rfl rfl
        have e53 := d53
        rw [gdE] at e53
        have hb : Below wg.heap.size wg v := hst
        have hbE := HEg.out.trans (hb.mono HEg.out.size)
        have HC := Lib.hid (HCn.out v hbE)
        have HBv := Lib.hid hb
        clear hdep hag hst hb hbE
        go_simp
        refine HC.out.mono ?_
        rintro e w' ⟨⟨ka, kn, kc, la, ln, lc, rfl, hn⟩, h9⟩
        exact hK _ _ h9 ⟨ka, kn, kc, la, ln, lc, rfl, hn⟩ (HBv.out.trans (h9.mono HBv.out.size))
      · intro k z v hk hst hag hdep
        have dg : BkOk6t Z xa xn xc ya yn yc va vn vc ua un uc pk sv 36 (z.tmps.getD 51 undef) v := hdep { on := 36, ground := .guard } (by simp) rfl _ _ rfl rfl
        simp only [BkOk6t] at dg
        refine .inl ⟨wanted_of (j := 36) rfl rfl rfl dg (by rw [hag.2.1]; show 51 < 75; decide), fun K hK => ?_⟩
        have d52 : z.tmps.getD 52 undef = .agg #[.int .i64 Z.k, .int .i64 Z.w, .int .i64 Z.h, .int .i64 Z.x, .int .i64 Z.y, .string Z.t, .slice xa xn xc, .int .i64 Z.n, .int .i64 Z.c, .slice ya yn yc] := hdep { on := 37, ground := .data } (by simp) rfl _ _ rfl rfl
        have e52 := d52
        rw [gdE] at e52
        have d54' : BkOk6t Z xa xn xc ya yn yc va vn vc ua un uc pk sv 39 (z.tmps.getD 54 undef) v := hdep { on := 39, ground := .data } (by simp) rfl _ _ rfl rfl
        simp only [BkOk6t] at d54'
        obtain ⟨ka, kn, kc, la, ln, lc, d54, HN⟩ := d54'
        have e54 := d54
        rw [gdE] at e54
        have hb : Below wg.heap.size wg v := hst
        have hbE := HEg.out.trans (hb.mono HEg.out.size)
        have HC := Lib.hid (HSa.out v ka kn kc la ln lc hbE HN)
        have HBv := Lib.hid hb
        clear hdep hag hst hb hbE HN
        go_simp
        refine HC.out.mono ?_
        rintro e w' ⟨rfl, h9⟩
        exact hK _ _ h9 rfl (HBv.out.trans (h9.mono HBv.out.size))
      · intro k z v hk hst hag hdep
        have dg : BkOk6t Z xa xn xc ya yn yc va vn vc ua un uc pk sv 36 (z.tmps.getD 51 undef) v := hdep { on := 36, ground := .guard } (by simp) rfl _ _ rfl rfl
        simp only [BkOk6t] at dg
        refine .inl ⟨wanted_of (j := 36) rfl rfl rfl dg (by rw [hag.2.1]; show 51 < 75; decide), fun K hK => ?_⟩
        have d55 : z.tmps.getD 55 undef = .bool true := hdep { on := 40, ground := .data } (by simp) rfl _ _ rfl rfl
        have e55 := d55
        rw [gdE] at e55
        have HSt := Lib.hid hst
        clear hdep hag hst
        go_simp
        exact hK _ _ (Below.refl _ _) rfl HSt.out
      · intro k z v hk hst hag hdep
        refine .inl ⟨rfl, fun K hK => ?_⟩
        have d51 : z.tmps.getD 51 undef = .bool false := hdep { on := 36, ground := .data } (by simp) rfl _ _ rfl rfl
        have e51 := d51
        rw [gdE] at e51
        have d56 : z.tmps.getD 56 undef = .bool false := hdep { on := 41, ground := .data } (by simp) rfl _ _ rfl rfl
        have e56 := d56
        rw [gdE] at e56
        have HSt := Lib.hid hst
        clear hdep hag hst
        go_simp
        exact hK _ _ (Below.refl _ _) rfl HSt.out
    case hdone =>
      intro z v hst hag hok
      have d57 : z.tmps.getD 57 undef = .bool false := hok 42 _ 57 rfl rfl
      have HEv : Hid (Below w6.heap.size w6 v) := Lib.hid (HEg.out.trans (Below.mono hst HEg.out.size))
      clear hst
      obtain ⟨uu, hu, hzz⟩ := agree_frame [15, 16, 17, 18, 19, 20, 21, 22, 23, 24, 25, 26, 27, 28, 29, 30, 31, 32, 33, 34, 35, 36, 37, 38, 39, 40, 41, 42, 43, 44, 45, 46, 47, 48, 49, 50, 51, 52, 53, 54, 55, 56, 57] rfl hag
      have e57 := (hu 57).trans d57
      subst hzz
      simp only [List.foldl_cons, List.foldl_nil]
      rw [e57]
      clear e57 d57 hu hag hok
      try dsimp only [Exit.then]
      simp only [List.setIfInBounds_toArray, List.set_cons_succ, List.set_cons_zero]
      generalize uu 15 = u15', uu 16 = u16', uu 17 = u17', uu 18 = u18', uu 19 = u19', uu 20 = u20', uu 21 = u21', uu 22 = u22', uu 23 = u23', uu 24 = u24', uu 25 = u25', uu 26 = u26', uu 27 = u27', uu 28 = u28', uu 29 = u29', uu 30 = u30', uu 31 = u31', uu 32 = u32', uu 33 = u33', uu 34 = u34', uu 35 = u35', uu 36 = u36', uu 37 = u37', uu 38 = u38', uu 39 = u39', uu 40 = u40', uu 41 = u41', uu 42 = u42', uu 43 = u43', uu 44 = u44', uu 45 = u45', uu 46 = u46', uu 47 = u47', uu 48 = u48', uu 49 = u49', uu 50 = u50', uu 51 = u51', uu 52 = u52', uu 53 = u53', uu 54 = u54', uu 55 = u55', uu 56 = u56'
      clear uu
      rename_i K6 hK6
      try (refine hK6 _ _ ?_)
      obtain ⟨wh, hwh⟩ : ∃ wh, v = wh := ⟨_, rfl⟩
      rw [hwh] at HEv ⊢
      clear hwh
      have hzh := HZE.out wh HEv.out
      have HMyh := Lib.hid (HMy.out wh HEv.out)
      obtain ⟨u0, u1, u2, u3, u4, u5, u6, u7, u8, u9⟩ := ten_cells (s := Z) (ra := va) (rn := vn) (rc := vc) (ga := ua) (gn := un) (gc := uc) hzh.2
      clear hzh
      go_wp2_with fail
      refine HMyh.out.mono ?_
      rintro e wi ⟨rfl, hbi⟩
      have HEi := Lib.hid (HEv.out.trans (hbi.mono HEv.out.size))
      clear hbi u0 u1 u2 u3 u4 u5 u6 u7 u8 u9 HMyh
      have HPa : Hid (Calls Tryz.prog 16 #[.string pk] wi (SnPPost (Z, 0) wi)) := Lib.hid (by
        have h := nparse_any pk (by have h1 := HPkL.out; rw [← HPl.out] at h1; have h2 : pk.data.toList.length = pk.size := rfl; omega) wi
        rw [HPl.out, parse_back (of_decide_eq_true HB0.out)] at h
        exact h)
      go_wp2_with fail
      refine HPa.out.mono ?_
      rintro e wj ⟨ka, kn, kc, la, ln, lc, rfl, hgj, hoj, hbj⟩
      have hnj := snIn_of hgj hoj
      obtain ⟨tb, htb⟩ : ∃ b, wj.heap.size = b := ⟨_, rfl⟩
      obtain ⟨wk, hwk⟩ : ∃ w8, wj.alloc (.cells (snA Z ka kn kc la ln lc) 25) = w8 := ⟨_, rfl⟩
      have hbk : Below wj.heap.size wj wk := by rw [← hwk]; exact (Below.refl _ _).alloc (Nat.le_refl _) _
      have htk : wk.heap[tb]? = some (.cells (snA Z ka kn kc la ln lc) 25 (0, 0)) := by rw [← hwk, ← htb]; exact heap_alloc_new wj _
      have HEk : Hid (Below w6.heap.size w6 wk) := Lib.hid (HEi.out.trans ((hbj.trans (hbk.mono hbj.size)).mono HEi.out.size))
      have hnk := hnj.belowAll hbk
      have HIk := Lib.hid (HIs.out wk ka kn kc la ln lc HEk.out hnk)
      have HWk := Lib.hid hwk
      have HTk := Lib.hid htk
      have HTb2 := Lib.hid htb
      have hzk := (HZE.out wk HEk.out).2
      clear hgj hoj hbj hnj htb hwk hbk htk hnk HPa
      unfold snA at HWk
      unfold snA
      go_upto_region 11 with fail
      rw [HWk.out, HTb2.out]
      obtain ⟨c0, c1, c2, c3, c4, c5, c6, c7, c8, c9⟩ := ten_cells (s := Z) HTk.out
      obtain ⟨u0, u1, u2, u3, u4, u5, u6, u7, u8, u9⟩ := ten_cells (s := Z) (ra := va) (rn := vn) (rc := vc) (ga := ua) (gn := un) (gc := uc) hzk
      clear hzk
      go_wp2_with fail
      refine HIk.out.mono ?_
      rintro e wl ⟨rfl, hbl⟩
      have hend := Lib.hid (HEnd.out wl (HB6.out.trans ((HEk.out.trans (hbl.mono HEk.out.size)).mono (by have := HB6.out.size; have := HRb.out; omega))))
      clear hbl c0 c1 c2 c3 c4 c5 c6 c7 c8 c9 u0 u1 u2 u3 u4 u5 u6 u7 u8 u9
      go_wp2_with fail
      exact hend.out
end Go.Proofs.YtohhlhnjopbmhaaGreatDoor.K
