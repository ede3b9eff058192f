/- Glyphs as the document's: the contract of the statements' Told; and whether runes are the document's: Glyphs. -/
import Derived.Test.YtgagkmlkoeceiaaCAwk
import Derived.Lib.QuietBelow
import Derived.BigQuiet
namespace Go.Proofs.Ytgagkmlkoeceiaa.C
open Go.RowKit Go.Proofs.Ytgagkmlkoeceiaa.H

def RngG (l : List (Int × Int)) : Prop := ∀ g ∈ l, -2147483648 ≤ g.1 ∧ g.1 ≤ 2147483647
theorem lineTR : PairT .i64 54 77 16 := ⟨Try.underlying54, by kernel_rfl, by decide⟩
def TolPost (l : List (Int × Int)) (w : World) (e : Ending) (w' : World) : Prop := ∃ v, e = .returned v ∧ OwnP .i64 77 w.heap.size v l w' ∧ Below w.heap.size w w'
set_option maxRecDepth 100000 in
set_option maxHeartbeats 4000000 in
theorem told_any (a : Option Addr) (n c : Nat) (l : List (Int × Int)) (w : World) (h : PairsIn .i32 a n c l w) (hr : RngG l) (hn : (n : Int) ≤ 1000000) :
    Calls Try.prog 16 #[.slice a n c] w (TolPost l w) := by
  obtain ⟨P, hP⟩ : ∃ P, TolPost l w = P := ⟨_, rfl⟩
  rw [hP]
  have HP := Lib.hid hP
  have HL := Lib.hid h.len
  have H1 := Lib.hid h
  have HR := Lib.hid hr
  obtain ⟨rb, hrb⟩ : ∃ rb, w.heap.size = rb := ⟨_, rfl⟩
  have HRb := Lib.hid hrb
  clear hP h hrb hr
  go_enter Try.func16, Try.ntmps16
  go_wp2_with fail
  go_loopw [3, 8] (fun s i wr => ∃ j : Nat, i = .int .i64 (j : Int) ∧ j ≤ n ∧ Hid (OwnP .i64 77 rb s (l.take j) wr ∧ Below rb w wr ∧ rb ≤ wr.heap.size)) (fun _ i _ => n - (intOf i).toNat)
  case atStart => exact ⟨0, rfl, Nat.zero_le _, Lib.hid ⟨OwnP.nil _ _ _ _, Below.refl _ _, by rw [HRb.out]; exact Nat.le_refl _⟩⟩
  case round =>
    obtain ⟨j, rfl, hj, HF⟩ := hrel
    by_cases hlt : j < n
    · have hd : decide (j < n) = true := decide_eq_true hlt
      have hjI : (j : Int) < n := by omega
      have hjl : j < l.length := by rw [← HL.out]; exact hlt
      obtain ⟨b, off, rfl, hb, hA⟩ := H1.out.at_.resolve_left (by intro e; rw [e] at hjl; simp at hjl)
      have htk := List.take_succ_eq_append_getElem hjl
      have hrg := HR.out l[j] (List.getElem_mem hjl)
      obtain ⟨⟨z, sty⟩, hg⟩ : ∃ g, l[j] = g := ⟨_, rfl⟩
      rw [hg] at htk hrg
      have hk := hA j (z, sty) (by rw [List.getElem?_eq_getElem hjl, hg])
      have hbb : Below w.heap.size w wr := by rw [HRb.out]; exact HF.out.2.1
      have k0 := (hbb.cell (p := ⟨b, off + j * 2, none⟩) hb).trans hk.1
      have k1 := (hbb.cell (p := ⟨b, off + j * 2 + 1, none⟩) hb).trans hk.2
      simp only at k0 k1
      have hwr : IntKind.i64.wrap z = z := by rw [IntKind.wrap_i64]; have h1 := hrg.1; have h2 := hrg.2; simp only at h1 h2; omega
      have HTk := Lib.hid htk
      have HLj : Hid ((l.take j).length ≤ 1000000) := Lib.hid (by rw [List.length_take]; omega)
      obtain ⟨w4, hw4⟩ : ∃ w4, (wr.alloc (.cells #[.int .i32 z, .int .i64 sty] 43)).alloc (.cells #[.int .i64 z, .int .i64 sty] 77) = w4 := ⟨_, rfl⟩
      have hb4 : Below wr.heap.size wr w4 := by rw [← hw4]; exact ((Below.refl _ _).alloc (Nat.le_refl _) _).alloc (by simp) _
      have hn4 : w4.heap[wr.heap.size + 1]? = some (.cells #[.int .i64 z, .int .i64 sty] 77 (0, 0)) := by
        have h := World.alloc_heap_new (wr.alloc (.cells #[.int .i32 z, .int .i64 sty] 43)) (.cells #[.int .i64 z, .int .i64 sty] 77)
        rw [World.size_alloc, hw4] at h
        exact h
      have m0 : w4.cell? ⟨wr.heap.size + 1, 0, none⟩ = some (.int .i64 z) := by rw [cell_block hn4]; rfl
      have m1 : w4.cell? ⟨wr.heap.size + 1, 1, none⟩ = some (.int .i64 sty) := by rw [cell_block hn4]; rfl
      have HM := Lib.hid (And.intro m0 m1)
      have HB4 := Lib.hid hb4
      have HW4 := Lib.hid hw4
      clear hA hjl htk hrg hg hk hbb hb hb4 hn4 m0 m1 hw4
      go_wp2_with (at_builtin; rw [HW4.out]; refine wpList_append_pair lineTR rfl _ _ rfl rfl rb _ (l.take j) (z, sty) (wr.heap.size + 1) rfl rfl (HF.out.1.belowAll HB4.out) HM.out.1 HM.out.2 (by have := HLj.out; omega) (Nat.le_trans HF.out.2.2 HB4.out.size) ?_)
      intro v' w5 hown' hgr
      rw [← HTk.out] at hown'
      have HE : Hid (OwnP .i64 77 rb v' (l.take (j + 1)) w5 ∧ Below rb w w5 ∧ rb ≤ w5.heap.size) := Lib.hid ⟨hown', (HF.out.2.1.trans (HB4.out.mono HF.out.2.2)).grown hgr (Nat.le_trans HF.out.2.2 HB4.out.size) (fun q hq => (HF.out.1.ownBlock q hq).1), Nat.le_trans (Nat.le_trans HF.out.2.2 HB4.out.size) hgr.size⟩
      clear hown' hgr k0 k1
      go_wp2_with fail
      go_roundw
      case rel => exact ⟨j + 1, by go_num, by omega, HE⟩
      case measure => simp [intOf]; omega
    · obtain rfl : j = n := by omega
      have hd : decide (j < j) = false := by simp
      have hta : l.take j = l := by rw [HL.out]; exact List.take_length
      have hend : Hid (P (.returned u3) wr) := Lib.hid (by
        rw [← HP.out]
        have h := HF.out
        rw [hta] at h
        refine ⟨_, rfl, ?_⟩
        rw [HRb.out]
        exact ⟨h.1, h.2.1⟩)
      clear hta HF hlt
      go_wp2_with fail
      exact hend.out
set_option maxRecDepth 100000 in
set_option maxHeartbeats 8000000 in
theorem lawGlyphs_any (a1 : Option Addr) (n1 c1 : Nat) (l1 : List (Int × Int)) (a2 : Option Addr) (n2 c2 : Nat) (l2 : List (Int × Int)) (w : World) (h1 : PairsIn .i32 a1 n1 c1 l1 w) (h2 : PairsIn .i64 a2 n2 c2 l2 w) (hr : RngG l1) (hn : n1 ≤ 1000000) (hn2 : n2 ≤ 1000000) :
    Calls Try.prog 18 #[.slice a1 n1 c1, .slice a2 n2 c2] w fun e w' => e = .returned (.bool (decide (l1 = l2))) ∧ Below w.heap.size w w' := by
  obtain ⟨P, hP⟩ : ∃ P : Ending → World → Prop, (fun e w' => e = .returned (.bool (decide (l1 = l2))) ∧ Below w.heap.size w w') = P := ⟨_, rfl⟩
  rw [hP]
  have HP := Lib.hid hP
  have HL1 := Lib.hid h1.len
  have HL2 := Lib.hid h2.len
  have H1 := Lib.hid h1
  have H2 := Lib.hid h2
  have HR := Lib.hid hr
  have hnI : (n1 : Int) ≤ 1000000 := by omega
  clear hP h1 h2 hr
  by_cases hne : n1 = n2
  · subst hne
    have q0 : ((n1 : Int) != (n1 : Int)) = false := by simp
    go_enter Try.func18, Try.ntmps18
    go_wp2_with fail
    go_loopw [14] (fun i wr => ∃ j : Nat, i = .int .i64 (j : Int) ∧ j ≤ n1 ∧ Hid (l1.take j = l2.take j ∧ Below w.heap.size w wr)) (fun i _ => n1 - (intOf i).toNat)
    case atStart => exact ⟨0, rfl, Nat.zero_le _, Lib.hid ⟨rfl, Below.refl _ _⟩⟩
    case round =>
      obtain ⟨j, rfl, hj, HF⟩ := hrel
      by_cases hlt : j < n1
      · have hd : decide (j < n1) = true := decide_eq_true hlt
        have hjI : (j : Int) < n1 := by omega
        have hj1 : j < l1.length := by rw [← HL1.out]; exact hlt
        have hj2 : j < l2.length := by rw [← HL2.out]; exact hlt
        obtain ⟨b1, o1, rfl, hb1, hA1⟩ := H1.out.at_.resolve_left (by intro e; rw [e] at hj1; simp at hj1)
        obtain ⟨b2, o2, rfl, hb2, hA2⟩ := H2.out.at_.resolve_left (by intro e; rw [e] at hj2; simp at hj2)
        have hat1 := hA1 j l1[j] (List.getElem?_eq_getElem hj1)
        have hat2 := hA2 j l2[j] (List.getElem?_eq_getElem hj2)
        have hrg := HR.out l1[j] (List.getElem_mem hj1)
        have t1 := List.take_succ_eq_append_getElem hj1
        have t2 := List.take_succ_eq_append_getElem hj2
        have ne : l1[j] ≠ l2[j] → l1 ≠ l2 := fun hh e => hh (by subst e; rfl)
        obtain ⟨⟨x1, s1⟩, e1⟩ : ∃ g, l1[j] = g := ⟨_, rfl⟩
        obtain ⟨⟨x2, s2⟩, e2⟩ : ∃ g, l2[j] = g := ⟨_, rfl⟩
        rw [e1] at hat1 hrg t1 ne
        rw [e2] at hat2 t2 ne
        have k0 : wr.cell? ⟨b1, o1 + j * 2, none⟩ = some (.int .i32 x1) := (HF.out.2.cell (p := ⟨b1, o1 + j * 2, none⟩) hb1).trans hat1.1
        have k1 : wr.cell? ⟨b1, o1 + j * 2 + 1, none⟩ = some (.int .i64 s1) := (HF.out.2.cell (p := ⟨b1, o1 + j * 2 + 1, none⟩) hb1).trans hat1.2
        have k2 : wr.cell? ⟨b2, o2 + j * 2, none⟩ = some (.int .i64 x2) := (HF.out.2.cell (p := ⟨b2, o2 + j * 2, none⟩) hb2).trans hat2.1
        have k3 : wr.cell? ⟨b2, o2 + j * 2 + 1, none⟩ = some (.int .i64 s2) := (HF.out.2.cell (p := ⟨b2, o2 + j * 2 + 1, none⟩) hb2).trans hat2.2
        have hwr : IntKind.i64.wrap x1 = x1 := by rw [IntKind.wrap_i64]; have h1 := hrg.1; have h2 := hrg.2; simp only at h1 h2; omega
        obtain ⟨gb, hgb⟩ : ∃ gb, wr.heap.size = gb := ⟨_, rfl⟩
        obtain ⟨w5, hw5⟩ : ∃ w5, wr.alloc (.cells #[.int .i32 x1, .int .i64 s1] 43) = w5 := ⟨_, rfl⟩
        have hnew : w5.heap[gb]? = some (.cells #[.int .i32 x1, .int .i64 s1] 43 (0, 0)) := by rw [← hw5, ← hgb]; exact heap_alloc_new wr _
        have m0 : w5.cell? ⟨gb, 0, none⟩ = some (.int .i32 x1) := by rw [cell_block hnew]; rfl
        have m1 : w5.cell? ⟨gb, 1, none⟩ = some (.int .i64 s1) := by rw [cell_block hnew]; rfl
        have hb5 : Below wr.heap.size wr w5 := by rw [← hw5]; exact (Below.refl _ _).alloc (Nat.le_refl _) _
        have hlr : b2 < wr.heap.size := Nat.lt_of_lt_of_le hb2 HF.out.2.size
        have m2 : w5.cell? ⟨b2, o2 + j * 2, none⟩ = some (.int .i64 x2) := (hb5.cell (p := ⟨b2, o2 + j * 2, none⟩) hlr).trans k2
        have m3 : w5.cell? ⟨b2, o2 + j * 2 + 1, none⟩ = some (.int .i64 s2) := (hb5.cell (p := ⟨b2, o2 + j * 2 + 1, none⟩) hlr).trans k3
        have HB5 : Hid (Below w.heap.size w w5) := Lib.hid (HF.out.2.trans (hb5.mono HF.out.2.size))
        have HW5 := Lib.hid hw5
        have HGb := Lib.hid hgb
        have HT : Hid ((x1, s1) = (x2, s2) → l1.take (j + 1) = l2.take (j + 1)) := Lib.hid (fun e => by rw [t1, t2, HF.out.1, e])
        have HNe := Lib.hid ne
        clear hj1 hj2 hA1 hA2 hat1 hat2 hrg t1 t2 ne e1 e2 hb1 hb2 hgb hw5 hnew hb5 hlr HF
        go_upto_region 6 with fail
        rw [HW5.out, HGb.out]
        clear k0 k1 k2 k3
        have z0 := fun d os => cell_regrown m0 d os
        have z1' := fun d os => cell_regrown m1 d os
        have z2' := fun d os => cell_regrown m2 d os
        have z3 := fun d os => cell_regrown m3 d os
        clear m0 m1 m2 m3
        by_cases hx : x1 = x2
        · subst hx
          have q1 : (x1 != x1) = false := by simp
          by_cases hs : s1 = s2
          · subst hs
            have q2 : (s1 != s1) = false := by simp
            refine wp_region_quiet_below (by kernel_rfl) (by kernel_rfl) ?_
            repeat (go_big_quiet_step (fail))
            refine wpQuiet_nil ?_
            intro _ hw'
            obtain ⟨⟨dq, osq⟩, hw''⟩ := hw'
            have HE2 : Hid (Below w.heap.size w (Go.Sort.grow (redrawn w5 dq) osq)) := Lib.hid (HB5.out.trans ((below_regrown _ _ _).mono HB5.out.size))
            rw [hw'']
            simp only
            obtain ⟨w9, hw9⟩ : ∃ w9, Go.Sort.grow (redrawn w5 dq) osq = w9 := ⟨_, rfl⟩
            rw [hw9] at HE2 ⊢
            clear hw'' hw9 z0 z1' z2' z3
            have HE : Hid (l1.take (j + 1) = l2.take (j + 1) ∧ Below w.heap.size w w9) := Lib.hid ⟨HT.out rfl, HE2.out⟩
            go_wp2_with fail
            go_roundw
            case rel => exact ⟨j + 1, by go_num, by omega, HE⟩
            case measure => simp [intOf]; omega
          · have q2 : (s1 != s2) = true := by rw [bne_iff_ne]; exact hs
            refine wp_region_quiet_below (by kernel_rfl) (by kernel_rfl) ?_
            repeat (go_big_quiet_step (fail))
            refine wpQuiet_nil ?_
            intro _ hw'
            obtain ⟨⟨dq, osq⟩, hw''⟩ := hw'
            have HE2 : Hid (Below w.heap.size w (Go.Sort.grow (redrawn w5 dq) osq)) := Lib.hid (HB5.out.trans ((below_regrown _ _ _).mono HB5.out.size))
            rw [hw'']
            simp only
            obtain ⟨w9, hw9⟩ : ∃ w9, Go.Sort.grow (redrawn w5 dq) osq = w9 := ⟨_, rfl⟩
            rw [hw9] at HE2 ⊢
            clear hw'' hw9 z0 z1' z2' z3
            have hend : Hid (P (.returned (.bool false)) w9) := Lib.hid (by rw [← HP.out, decide_eq_false (HNe.out (fun e => hs (congrArg Prod.snd e)))]; exact ⟨rfl, HE2.out⟩)
            clear hs
            go_wp2_with fail
            exact hend.out
        · have q1 : (x1 != x2) = true := by rw [bne_iff_ne]; exact hx
          refine wp_region_quiet_below (by kernel_rfl) (by kernel_rfl) ?_
          repeat (go_big_quiet_step (fail))
          refine wpQuiet_nil ?_
          intro _ hw'
          obtain ⟨⟨dq, osq⟩, hw''⟩ := hw'
          have HE2 : Hid (Below w.heap.size w (Go.Sort.grow (redrawn w5 dq) osq)) := Lib.hid (HB5.out.trans ((below_regrown _ _ _).mono HB5.out.size))
          rw [hw'']
          simp only
          obtain ⟨w9, hw9⟩ : ∃ w9, Go.Sort.grow (redrawn w5 dq) osq = w9 := ⟨_, rfl⟩
          rw [hw9] at HE2 ⊢
          clear hw'' hw9 z0 z1' z2' z3
          have hend : Hid (P (.returned (.bool false)) w9) := Lib.hid (by rw [← HP.out, decide_eq_false (HNe.out (fun e => hx (congrArg Prod.fst e)))]; exact ⟨rfl, HE2.out⟩)
          clear hx
          go_wp2_with fail
          exact hend.out
      · obtain rfl : j = n1 := by omega
        have hd : decide (j < j) = false := by simp
        have he : l1 = l2 := by
          have h := HF.out.1
          rw [List.take_of_length_le (by rw [HL1.out]; exact Nat.le_refl _), List.take_of_length_le (by rw [HL2.out]; exact Nat.le_refl _)] at h
          exact h
        have hend : Hid (P (.returned (.bool true)) wr) := Lib.hid (by rw [← HP.out, decide_eq_true he]; exact ⟨rfl, HF.out.2⟩)
        clear he HF hlt
        go_wp2_with fail
        exact hend.out
  · have q0 : ((n1 : Int) != (n2 : Int)) = true := by rw [bne_iff_ne]; omega
    have hend : Hid (P (.returned (.bool false)) w) := Lib.hid (by
      rw [← HP.out, decide_eq_false (fun e => hne (by rw [HL1.out, HL2.out, e]))]
      exact ⟨rfl, Below.refl _ _⟩)
    clear hne
    go_enter Try.func18, Try.ntmps18
    go_wp2_with fail
    exact hend.out
end Go.Proofs.Ytgagkmlkoeceiaa.C
