/- The law's awake of spans. -/
import Derived.Test.YtjbjflmpdmflmaaHSam
namespace Go.Proofs.Ytjbjflmpdmflmaa.H
open Go.RowKit

theorem ChPost.wide {b : Nat} {M : List Nat} {out : List Sp} {w w1 w' : World} {e : Ending} (h : ChPost b M out w1 e w') (hb : Below w.heap.size w w1) : ChPost b M out w e w' := by
  obtain ⟨he, M', h1, h2, h3⟩ := h
  exact ⟨he, M', h1, (KeepB.of_below hb).trans h2, fun p hp => (h3 p hp).imp id (fun h => Nat.le_trans hb.size h)⟩
theorem alloc_below (w : World) (o : Obj) : Below w.heap.size w (w.alloc o) := (Below.refl _ _).alloc (Nat.le_refl _) _
theorem pair_two {g : Nat} {a1 a2 b1 b2 : Int} {w : World} (h : w.heap[g]? = some (.cells #[.int .i64 a1, .int .i64 a2, .int .i64 b1, .int .i64 b2] 38 (0, 0))) : PairsIn .i64 (some ⟨g, 0, none⟩) 2 2 [(a1, a2), (b1, b2)] w :=
  ⟨rfl, Nat.le_refl _, by decide, .inr ⟨g, 0, rfl, (Array.getElem?_eq_some_iff.1 h).1, fun i u hi => by
    match i, hi with
    | 0, hi => cases hi; exact ⟨by rw [cell_block h]; rfl, by rw [cell_block h]; rfl⟩
    | 1, hi => cases hi; exact ⟨by rw [cell_block h]; rfl, by rw [cell_block h]; rfl⟩
    | i + 2, hi => simp at hi⟩⟩
theorem pair_twoR {g : Nat} {a1 a2 b1 b2 : Int} {w : World} (h : w.heap[g]? = some (.cells #[.int .i64 a1, .int .i64 a2, .int .i64 b1, .int .i64 b2] 24 (0, 0))) : PairsIn .i64 (some ⟨g, 0, none⟩) 2 2 [(a1, a2), (b1, b2)] w :=
  ⟨rfl, Nat.le_refl _, by decide, .inr ⟨g, 0, rfl, (Array.getElem?_eq_some_iff.1 h).1, fun i u hi => by
    match i, hi with
    | 0, hi => cases hi; exact ⟨by rw [cell_block h]; rfl, by rw [cell_block h]; rfl⟩
    | 1, hi => cases hi; exact ⟨by rw [cell_block h]; rfl, by rw [cell_block h]; rfl⟩
    | i + 2, hi => simp at hi⟩⟩
theorem add_one {b : Nat} {M : List Nat} {l : List Sp} {w : World} (x1 x2 : Int) (h : St b M l w) (hn : Nm l) (hl : l.length < 100000) (s : Nat) (hs : w.heap.size = s) :
    Calls Try.prog 21 #[.pointer (some ⟨b, 0, none⟩), .slice (some ⟨s, 0, none⟩) 1 1] (w.alloc (.cells #[.int .i64 x1, .int .i64 x2] 38)) (ChPost b M (addS l (x1, x2)) w) := by
  subst hs
  refine (add_any (l := l) (some ⟨w.heap.size, 0, none⟩) 1 1 [(x1, x2)] _ (h.below (alloc_below w _)) hn (by simp; omega) (pair_one (heap_alloc_new w _)) ?_).mono fun e w' h => h.wide (alloc_below w _)
  intro g off e hm
  cases e
  exact absurd (h.lt _ hm) (by omega)
theorem add_two {b : Nat} {M : List Nat} {l : List Sp} {w : World} (x1 x2 y1 y2 : Int) (h : St b M l w) (hn : Nm l) (hl : l.length + 1 < 100000) (s : Nat) (hs : w.heap.size = s) :
    Calls Try.prog 21 #[.pointer (some ⟨b, 0, none⟩), .slice (some ⟨s, 0, none⟩) 2 2] (w.alloc (.cells #[.int .i64 x1, .int .i64 x2, .int .i64 y1, .int .i64 y2] 38)) (ChPost b M (addsS l [(x1, x2), (y1, y2)]) w) := by
  subst hs
  refine (add_any (l := l) (some ⟨w.heap.size, 0, none⟩) 2 2 [(x1, x2), (y1, y2)] _ (h.below (alloc_below w _)) hn (by simp; omega) (pair_two (heap_alloc_new w _)) ?_).mono fun e w' h => h.wide (alloc_below w _)
  intro g off e hm
  cases e
  exact absurd (h.lt _ hm) (by omega)
theorem cut_one {b : Nat} {M : List Nat} {l : List Sp} {w : World} (x1 x2 : Int) (h : St b M l w) (hn : Nm l) (hl : l.length ≤ 100000) (s : Nat) (hs : w.heap.size = s) :
    Calls Try.prog 19 #[.pointer (some ⟨b, 0, none⟩), .slice (some ⟨s, 0, none⟩) 1 1] (w.alloc (.cells #[.int .i64 x1, .int .i64 x2] 38)) (ChPost b M (cutS l (x1, x2)) w) := by
  subst hs
  exact (cut_any (l := l) (some ⟨w.heap.size, 0, none⟩) 1 (x1, x2) _ (h.below (alloc_below w _)) hn (by omega) (pair_one (heap_alloc_new w _))).mono fun e w' h => h.wide (alloc_below w _)
theorem stspans_any {b : Nat} {M : List Nat} {l : List Sp} {w : World} (h : St b M l w) (hl : l.length ≤ 100000) :
    Calls Try.prog 17 #[.pointer (some ⟨b, 0, none⟩)] w (SpPost l w) := by
  obtain ⟨vl, h⟩ := h
  exact spans_any h (by omega)
theorem stlen_any {b : Nat} {M : List Nat} {l : List Sp} {w : World} (h : St b M l w) (hn : Nm l) (hl : l.length ≤ 100000) :
    Calls Try.prog 22 #[.pointer (some ⟨b, 0, none⟩)] w (IPost (tot l) w) := by
  obtain ⟨vl, h⟩ := h
  exact len_any h hn (by omega)
theorem sthas_any {b : Nat} {M : List Nat} {l : List Sp} {w : World} (h : St b M l w) (hn : Nm l) (hl : l.length ≤ 100000) (n : Int) :
    Calls Try.prog 23 #[.pointer (some ⟨b, 0, none⟩), .int .i64 n] w (BPost (hasS n l) w) := by
  obtain ⟨vl, h⟩ := h
  exact has_any h hn.1 (by omega) n
theorem stin_any {b : Nat} {M : List Nat} {l : List Sp} {w : World} (h : St b M l w) (hn : Nm l) (hl : l.length ≤ 100000) (x1 x2 : Int) :
    Calls Try.prog 25 #[.pointer (some ⟨b, 0, none⟩), .agg #[.int .i64 x1, .int .i64 x2]] w (SpPost (inS l (x1, x2)) w) := by
  obtain ⟨vl, h⟩ := h
  exact in_any h hn (by omega) (x1, x2)
theorem stmiss_any {b : Nat} {M : List Nat} {l : List Sp} {w : World} (h : St b M l w) (hn : Nm l) (hl : l.length ≤ 100000) (x1 x2 : Int) :
    Calls Try.prog 27 #[.pointer (some ⟨b, 0, none⟩), .agg #[.int .i64 x1, .int .i64 x2]] w (SpPost (missS l (x1, x2)) w) := by
  obtain ⟨vl, h⟩ := h
  exact missing_any h hn (by omega) (x1, x2)
set_option maxRecDepth 100000 in
set_option maxHeartbeats 4000000 in
theorem awake_any (w : World) :
    Calls Try.prog 14 #[] w (BPost true w) := by
  obtain ⟨P, hP⟩ : ∃ P, BPost true w = P := ⟨_, rfl⟩
  rw [hP]
  have HP := Lib.hid hP
  obtain ⟨w1, hw1⟩ : ∃ w1, w1 = w.alloc (.cells #[.slice none 0 0] 28) := ⟨_, rfl⟩
  obtain ⟨b, hb⟩ : ∃ b, b = w.heap.size := ⟨_, rfl⟩
  have hS : St b [b] [] w1 := by rw [hw1, hb]; exact St.new w
  have HBW : Hid (Below w.heap.size w w1) := Lib.hid (by rw [hw1]; exact alloc_below w _)
  have HSz : Hid (w1.heap.size = b + 1) := Lib.hid (by rw [hw1, hb]; simp)
  have HA := Lib.hid (add_two 2 5 5 7 hS Nm.nil (by decide) (b + 1) HSz.out)
  have HW1 := Lib.hid hw1
  have HB := Lib.hid hb
  clear hP hw1 hb hS
  go_enter Try.func14, Try.ntmps14
  go_wp2_with fail
  rw [← HW1.out, ← HB.out]
  refine HA.out.mono ?_
  rintro e w2 ⟨rfl, M2, hS2, hK2, hM2⟩
  have e2 : addsS [] [(2, 5), (5, 7)] = [(2, 7)] := by decide
  rw [e2] at hS2
  obtain ⟨s2, hs2⟩ : ∃ s, w2.heap.size = s := ⟨_, rfl⟩
  have hN2 : Nm [(2, 7)] := by rw [← e2]; exact Nm.nil.adds _
  have HC := Lib.hid (cut_one 3 4 hS2 hN2 (by decide) s2 hs2)
  have HB2 : Hid (Below w.heap.size w w2) := Lib.hid (hK2.below (fun p hp => by rw [List.mem_singleton.1 hp, HB.out]; exact Nat.le_refl _) HBW.out HBW.out.size)
  have HM2 : Hid (∀ p ∈ M2, w.heap.size ≤ p) := Lib.hid fun p hp => (hM2 p hp).elim (fun h => by rw [List.mem_singleton.1 h, HB.out]; exact Nat.le_refl _) (fun h => Nat.le_trans HBW.out.size h)
  have HN2 := Lib.hid hN2
  have HS2 := Lib.hid hs2
  clear hS2 hK2 hM2 hs2 hN2 e2 HA HSz
  go_wp2_with fail
  rw [HS2.out]
  refine HC.out.mono ?_
  rintro e w3 ⟨rfl, M3, hS3, hK3, hM3⟩
  have hN3 := HN2.out.cut (3, 4)
  have e3 : cutS [(2, 7)] (3, 4) = [(2, 3), (4, 7)] := by decide
  rw [e3] at hS3 hN3
  have HB3 : Hid (Below w.heap.size w w3) := Lib.hid (hK3.below HM2.out HB2.out HB2.out.size)
  have HP3 := Lib.hid (stspans_any hS3 (by decide))
  have HS3 := Lib.hid hS3
  have HN3 := Lib.hid hN3
  clear hS3 hK3 hM3 hN3 e3 HC HM2 HB2 HS2
  go_wp2_with fail
  refine HP3.out.mono ?_
  rintro e w4 ⟨v, rfl, ho, hb4⟩
  obtain ⟨a, c, rfl, hI, -, -⟩ := ho.shape
  obtain ⟨w5, hw5⟩ : ∃ w5, w5 = w4.alloc (.cells #[.int .i64 2, .int .i64 3, .int .i64 4, .int .i64 7] 24) := ⟨_, rfl⟩
  obtain ⟨s5, hs5⟩ : ∃ s5, s5 = w4.heap.size := ⟨_, rfl⟩
  have hb5 : Below w4.heap.size w4 w5 := by rw [hw5]; exact alloc_below w4 _
  have hJ : PairsIn .i64 (some ⟨s5, 0, none⟩) 2 2 [(2, 3), (4, 7)] w5 := pair_twoR (by rw [hw5, hs5]; exact heap_alloc_new w4 _)
  have HC := Lib.hid (same_any _ _ _ _ _ _ _ (hI.belowAll hb5) hJ (by decide))
  have hb35 : Below w3.heap.size w3 w5 := hb4.trans (hb5.mono hb4.size)
  have HB5 : Hid (Below w3.heap.size w3 w5) := Lib.hid hb35
  have HW5 := Lib.hid hw5
  have HS5 := Lib.hid hs5
  clear ho hI hb4 hw5 hs5 hb5 hJ hb35 HP3
  go_wp2_with fail
  rw [← HW5.out, ← HS5.out]
  refine HC.out.mono ?_
  rintro e w6 ⟨rfl, hb6⟩
  have hb36 : Below w3.heap.size w3 w6 := HB5.out.trans (hb6.mono HB5.out.size)
  have hL : tot [(2, 3), (4, 7)] = 4 := by decide
  have hC1 := stlen_any (HS3.out.below hb36) HN3.out (by decide)
  rw [hL] at hC1
  have HC1 := Lib.hid hC1
  have HB6 := Lib.hid hb36
  clear hb6 hb36 hL hC1 HC HB5 HW5 HS5
  go_wp2_with fail
  refine HC1.out.mono ?_
  rintro e w7 ⟨rfl, hb7⟩
  have hb37 : Below w3.heap.size w3 w7 := HB6.out.trans (hb7.mono HB6.out.size)
  have hL : hasS 2 [(2, 3), (4, 7)] = true := by decide
  have hC1 := sthas_any (HS3.out.below hb37) HN3.out (by decide) 2
  rw [hL] at hC1
  have HC2 := Lib.hid hC1
  have HB7 := Lib.hid hb37
  clear hb7 hb37 hL hC1 HC1 HB6
  go_wp2_with fail
  refine HC2.out.mono ?_
  rintro e w8 ⟨rfl, hb8⟩
  have hb38 : Below w3.heap.size w3 w8 := HB7.out.trans (hb8.mono HB7.out.size)
  have hL : hasS 3 [(2, 3), (4, 7)] = false := by decide
  have hC1 := sthas_any (HS3.out.below hb38) HN3.out (by decide) 3
  rw [hL] at hC1
  have HC3 := Lib.hid hC1
  have HB8 := Lib.hid hb38
  clear hb8 hb38 hL hC1 HC2 HB7
  go_wp2_with fail
  refine HC3.out.mono ?_
  rintro e w9 ⟨rfl, hb9⟩
  have HE : Hid (Below w.heap.size w w9) := Lib.hid (HB3.out.trans ((HB8.out.trans (hb9.mono HB8.out.size)).mono HB3.out.size))
  clear hb9 HC3 HB8
  go_wp2_with fail
  rw [← HP.out]
  exact ⟨rfl, HE.out⟩
end Go.Proofs.Ytjbjflmpdmflmaa.H
