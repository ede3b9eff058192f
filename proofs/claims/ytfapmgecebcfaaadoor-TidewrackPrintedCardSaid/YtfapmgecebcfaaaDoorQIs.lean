/- Is: what was said is what the document says. -/
import Derived.Test.YtfapmgecebcfaaaDoorQX
import Derived.Lib.QuietBelow
namespace Go.Proofs.YtfapmgecebcfaaaDoor.Q
open Go.RowKit
open Go.Proofs.YtfapmgecebcfaaaDoor.W (OwnI OwnR IntsIn RunesIn)

/-- runes and bytes that fit -/
def Fit (L : List Say) : Prop := ∀ s ∈ L, s.rune < 2147483648 ∧ s.byte < 256 ∧ s.nums.length ≤ 1000000 ∧ s.kind < 256

set_option maxRecDepth 100000 in
set_option maxHeartbeats 16000000 in
theorem is_any (b1 b2 : Nat) (v1 v2 : Value) (L : List Say) (w : World) (hA : OwnA b1 v1 L w) (hX : OwnX b2 v2 L w) (hl : (L.length : Int) ≤ 100000) (hf : Fit L) :
    Calls Tryd.prog 12 #[v1, v2] w fun e w' => e = .returned (.bool true) ∧ Below w.heap.size w w' := by
  obtain ⟨h, a, c, rfl, _⟩ | ⟨g1, c1, rfl, hne, _, hg1, hc1, hcm1, hact1⟩ := hA.shape
  · subst h
    obtain ⟨h, a', c', rfl, _⟩ | ⟨g2, c2, rfl, hne, _⟩ := hX.shape
    · clear hA hX h hf
      go_enter Tryd.func12, Tryd.ntmps12
      go_wp2_with fail
      go_loopw [14] (fun i wr => i = .int .i64 0 ∧ wr = w) (fun i _ => 0)
      case atStart => exact ⟨rfl, rfl⟩
      case round =>
        obtain ⟨rfl, rfl⟩ := hrel
        go_wp2
        go_ret
        exact ⟨rfl, Below.refl _ _⟩
    · exact absurd rfl hne
  · obtain ⟨h, _⟩ | ⟨g2, c2, rfl, _, _, hg2, hc2, hcm2, hact2⟩ := hX.shape
    · exact absurd h hne
    have HA1 := Lib.hid hact1
    have HA2 := Lib.hid hact2
    have HF := Lib.hid hf
    obtain ⟨N, hN⟩ : ∃ N, L.length = N := ⟨_, rfl⟩
    rw [hN] at hl hc1 hc2 ⊢
    have HN := Lib.hid hN
    obtain ⟨b0, hb0⟩ : ∃ b0, w.heap.size = b0 := ⟨_, rfl⟩
    rw [hb0] at hg1 hg2
    have HB0 := Lib.hid hb0
    have hbw : b0 ≤ w.heap.size := Nat.le_of_eq hb0.symm
    clear hA hX hact1 hact2 hf hN hne hb0
    go_enter Tryd.func12, Tryd.ntmps12
    go_wp2_with fail
    go_loopw [14] (fun i wr => ∃ j : Nat, i = .int .i64 (j : Int) ∧ j ≤ N ∧ b0 ≤ wr.heap.size ∧ Hid (Below b0 w wr)) (fun i _ => N - (intOf i).toNat)
    case atStart => exact ⟨0, rfl, by omega, hbw, Lib.hid (Below.refl _ _)⟩
    case round =>
      rename_i wr
      obtain ⟨j, rfl, hj, hbr, HR⟩ := hrel
      by_cases hlt : j < N
      · have hjl : j < L.length := by rw [HN.out]; exact hlt
        have hfit := HF.out L[j] (List.getElem_mem hjl)
        obtain ⟨nv1, at1, on1⟩ := HA1.out j L[j] (List.getElem?_eq_getElem hjl)
        obtain ⟨nv2, at2, on2⟩ := HA2.out j L[j] (List.getElem?_eq_getElem hjl)
        obtain ⟨sy, hsy⟩ : ∃ sy, L[j] = sy := ⟨_, rfl⟩
        rw [hsy] at hfit at1 on1 at2 on2
        obtain ⟨a1, cn1, rfl, in1, _, _, hk1, _⟩ := on1.shape
        obtain ⟨a2, cn2, rfl, in2, _, _, hk2, _⟩ := on2.shape
        obtain ⟨K, R, B, p, nums, text⟩ := sy
        obtain ⟨f1, f2, f3, f4⟩ := hfit
        simp only at f1 f2 f3 f4 in1 in2 at1 at2
        have in1' := in1.belowAll (w' := wr) (by rw [HB0.out]; exact HR.out)
        have in2' := in2.belowAll (w' := wr) (by rw [HB0.out]; exact HR.out)
        have at1' := at1.below HR.out hg1
        have at2' := at2.below HR.out hg2
        obtain ⟨S, hS⟩ : ∃ S : ByteArray, S = ⟨⟨text⟩⟩ := ⟨_, rfl⟩
        have hx5 := at1'.c5
        have hy5 := at2'.c5
        simp only [strV] at hx5 hy5
        rw [← hS] at hx5 hy5
        have c0 := at2'.c0
        have c1 := at2'.c1
        have c2 := at2'.c2
        have c3 := at2'.c3
        have c4 := at2'.c4
        have c5 := hy5
        simp only at c0 c1 c2 c3 c4
        obtain ⟨w5, hw5⟩ : ∃ w5, wr.alloc (.cells #[.int .i64 (K : Int), .int .i64 (R : Int), .int .i64 (B : Int), .bool p, .slice a2 nums.length cn2, .string S] 47) = w5 := ⟨_, rfl⟩
        have hblk : w5.heap[wr.heap.size]? = some (.cells #[.int .i64 (K : Int), .int .i64 (R : Int), .int .i64 (B : Int), .bool p, .slice a2 nums.length cn2, .string S] 47 (0, 0)) := by rw [← hw5]; exact World.alloc_heap_new _ _
        have hb5 : Below wr.heap.size wr w5 := by rw [← hw5]; exact (Below.refl _ _).alloc (Nat.le_refl _) _
        have HR5 : Hid (Below b0 w w5) := Lib.hid (HR.out.trans (hb5.mono hbr))
        have hbr5 : b0 ≤ w5.heap.size := Nat.le_trans hbr hb5.size
        have at5 := at1'.below hb5 (by omega)
        have x5 := (hb5.cell (p := ⟨g1, j * 6 + 5, none⟩) (by simp; omega)).trans hx5
        obtain ⟨nb, hnb⟩ : ∃ nb, wr.heap.size = nb := ⟨_, rfl⟩
        rw [hnb] at hblk
        have e0 : w5.cell? ⟨nb, 0, none⟩ = some (.int .i64 (K : Int)) := by simp [World.cell?, hblk]
        have e1 : w5.cell? ⟨nb, 1, none⟩ = some (.int .i64 (R : Int)) := by simp [World.cell?, hblk]
        have e2 : w5.cell? ⟨nb, 2, none⟩ = some (.int .i64 (B : Int)) := by simp [World.cell?, hblk]
        have e3 : w5.cell? ⟨nb, 3, none⟩ = some (.bool p) := by simp [World.cell?, hblk]
        have e4 : w5.cell? ⟨nb, 4, none⟩ = some (.slice a2 nums.length cn2) := by simp [World.cell?, hblk]
        have e5 : w5.cell? ⟨nb, 5, none⟩ = some (.string S) := by simp [World.cell?, hblk]
        have cS : ∀ d os, Calls Tryd.prog 20 #[.slice a1 nums.length cn1, .slice a2 nums.length cn2] (Go.Sort.grow (redrawn w5 d) os) fun en w'' => en = .returned (.bool true) ∧ ∃ p : Regrown, w'' = Go.Sort.grow (redrawn w5 p.d) p.os := fun d os => by
          have h := same_any a1 a2 nums.length nums.length cn1 cn2 nums nums (Go.Sort.grow (redrawn w5 d) os) ((in1'.belowAll hb5).belowAll (below_regrown w5 d os)) ((in2'.belowAll hb5).belowAll (below_regrown w5 d os)) (by omega)
          rw [decide_eq_true rfl] at h
          exact Calls.regrown_of h
        have z0 := fun d os => cell_regrown e0 d os
        have z1 := fun d os => cell_regrown e1 d os
        have z2 := fun d os => cell_regrown e2 d os
        have z3 := fun d os => cell_regrown e3 d os
        have z4 := fun d os => cell_regrown e4 d os
        have z5 := fun d os => cell_regrown e5 d os
        have y0 := fun d os => cell_regrown at5.c0 d os
        have y1 := fun d os => cell_regrown at5.c1 d os
        have y2 := fun d os => cell_regrown at5.c2 d os
        have y3 := fun d os => cell_regrown at5.c3 d os
        have y4 := fun d os => cell_regrown at5.c4 d os
        have y5 := fun d os => cell_regrown x5 d os
        simp only at y0 y1 y2 y3 y4
        have hte : (S.toList == S.toList) = true := by simp
        have CS := Lib.hid cS
        have HW5 := Lib.hid hw5
        have HNb := Lib.hid hnb
        obtain ⟨nl, hnl⟩ : ∃ nl, nums.length = nl := ⟨_, rfl⟩
        simp only [hnl] at *
        clear in1 in2 in1' in2' at1 at2 at1' at2' at5 x5 hx5 hy5 on1 on2 hS hw5 hnb hblk hb5 cS hsy hjl e0 e1 e2 e3 e4 e5
        go_upto_region 6 with fail
        rw [HW5.out, HNb.out]
        clear c0 c1 c2 c3 c4 c5
        refine wp_region_quiet_below (by kernel_rfl) (by kernel_rfl) ?_
        repeat (go_big_quiet_step (first | exact CS.out _ _))
        refine wpQuiet_nil ?_
        intro _ hw'
        obtain ⟨⟨dq, osq⟩, hw''⟩ := hw'
        have HB6 : Hid (Below b0 w (Go.Sort.grow (redrawn w5 dq) osq)) := Lib.hid (HR5.out.trans ((below_regrown _ _ _).mono hbr5))
        have hbr6 : b0 ≤ (Go.Sort.grow (redrawn w5 dq) osq).heap.size := Nat.le_trans hbr5 (below_regrown w5 dq osq).size
        rw [hw'']
        simp only
        obtain ⟨w6, hw6⟩ : ∃ w6, Go.Sort.grow (redrawn w5 dq) osq = w6 := ⟨_, rfl⟩
        rw [hw6] at HB6 hbr6 ⊢
        clear hw'' hw6 z0 z1 z2 z3 z4 z5 y0 y1 y2 y3 y4 y5 CS
        go_wp2
        go_roundw
        case rel => exact ⟨j + 1, by go_num, by omega, hbr6, HB6⟩
        case measure => simp [intOf]; omega
      · obtain rfl : j = N := by omega
        go_wp2
        go_ret
        exact ⟨rfl, by rw [HB0.out]; exact HR.out⟩
end Go.Proofs.YtfapmgecebcfaaaDoor.Q
