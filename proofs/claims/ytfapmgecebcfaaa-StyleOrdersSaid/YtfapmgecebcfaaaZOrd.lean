/- The contract of style's Order. -/
import Derived.Test.YtfapmgecebcfaaaZArg
import Derived.Deep.DeepCutAuto
namespace Go.Proofs.Ytfapmgecebcfaaa.Z
open Go.RowKit
open Go.Proofs.Ytfapmgecebcfaaa.W (OwnI IntsIn wpList_append_ints ints_one)

theorem OwnI.weaken {base base' : Nat} {v : Value} {zs : List Int} {w : World} (h : OwnI base v zs w) (hb : base' ≤ base) : OwnI base' v zs w := by
  refine ⟨h.1, h.2.imp id ?_⟩
  rintro ⟨g, cap, cur, h1, h2, h3⟩
  exact ⟨g, cap, cur, h1, Nat.le_trans hb h2, h3⟩
/-- behind some of the pieces: the list so far, and the style in its block -/
structure Part (rb : Nat) (s : Sty) (v : Value) (l : List Int) (w wx : World) : Prop where
  own : OwnI (rb + 2) v l wx
  below : Below rb w wx
  blk : SBlk 26 rb s wx
theorem Part.step {rb : Nat} {s : Sty} {v v' : Value} {l l' : List Int} {w wx w' : World} (h : Part rb s v l w wx) (hs : rb + 1 < wx.heap.size) (o : Obj) (hown : OwnI (rb + 2) v' l' w') (hgr : (wx.alloc o).grownBy w' v.ownBlock) : Part rb s v' l' w w' ∧ rb + 1 < w'.heap.size :=
  ⟨⟨hown, (h.below.alloc (by omega) o).grown hgr (by simp; omega) (fun q hq => by have := h.own.ownBlock q hq; omega),
    (hgr.block rb (SBlk.lt (h.blk.alloc o)) (fun e => by have := h.own.ownBlock rb e.symm; omega)).trans (h.blk.alloc o)⟩, by have := hgr.size; simp at this; omega⟩
def OrdPost (base : Nat) (zs : List Int) (w : World) (e : Ending) (w' : World) : Prop := ∃ v, e = .returned v ∧ OwnI base v zs w' ∧ Below base w w'
set_option maxRecDepth 100000 in
set_option maxHeartbeats 8000000 in
theorem order_any (s s' : Sty) (w : World) : Calls Try.prog 15 #[sV s, sV s'] w (OrdPost w.heap.size (if s = s' ∨ ¬ s.may then [] else ordS s) w) := by
  obtain ⟨rb, hrb⟩ : ∃ rb, w.heap.size = rb := ⟨_, rfl⟩
  obtain ⟨w1, hw1⟩ : ∃ w1, (w.alloc (.cells #[.int .i64 s.fore, .int .i64 s.back, .bool s.bold, .bool s.under, .bool s.inv] 26)).alloc (.cells #[.int .i64 s'.fore, .int .i64 s'.back, .bool s'.bold, .bool s'.under, .bool s'.inv] 26) = w1 := ⟨_, rfl⟩
  have hb1 : Below rb w w1 := by rw [← hw1, ← hrb]; exact ((Below.refl _ _).alloc (Nat.le_refl _) _).alloc (by simp) _
  have hd1 : SBlk 26 rb s w1 := by rw [← hw1, ← hrb]; exact (SBlk.new _ _ _).alloc _
  have hr1 : SBlk 26 (rb + 1) s' w1 := by
    have h := SBlk.new 26 (w.alloc (.cells #[.int .i64 s.fore, .int .i64 s.back, .bool s.bold, .bool s.under, .bool s.inv] 26)) s'
    rw [World.size_alloc, hrb] at h
    rw [← hw1]; exact h
  have hs1 : rb + 1 < w1.heap.size := hr1.lt
  have HB1 := Lib.hid hb1
  have HD1 := Lib.hid hd1
  have HW1 := Lib.hid hw1
  have HRb := Lib.hid hrb
  have c0 := hd1.c0
  have c1 := hd1.c1
  have c2 := hd1.c2
  have c3 := hd1.c3
  have c4 := hd1.c4
  have e0 := hr1.c0
  have e1 := hr1.c1
  have e2 := hr1.c2
  have e3 := hr1.c3
  have e4 := hr1.c4
  have HM := Lib.hid (fun w => mayBe_any s w)
  rw [hrb]
  clear hb1 hd1 hr1 hw1 hrb
  by_cases hss : s = s'
  · subst hss
    rw [if_pos (.inl rfl)]
    unfold sV
    go_enter Try.func15, Try.ntmps15
    go_upto_region 1 with fail
    rw [HW1.out, HRb.out]
    go_wp2
    go_ret
    exact ⟨_, rfl, OwnI.nil _ _, HB1.out⟩
  · obtain ⟨L, hL⟩ : ∃ L, (if s = s' ∨ ¬ s.may then [] else ordS s) = L := ⟨_, rfl⟩
    rw [hL]
    have hcase : s.fore ≠ s'.fore ∨ (s.fore = s'.fore ∧ s.back ≠ s'.back) ∨ (s.fore = s'.fore ∧ s.back = s'.back ∧ ((s.bold = true ∧ s'.bold = false) ∨ (s.bold = false ∧ s'.bold = true))) ∨ (s.fore = s'.fore ∧ s.back = s'.back ∧ s.bold = s'.bold ∧ ((s.under = true ∧ s'.under = false) ∨ (s.under = false ∧ s'.under = true))) ∨ (s.fore = s'.fore ∧ s.back = s'.back ∧ s.bold = s'.bold ∧ s.under = s'.under ∧ ((s.inv = true ∧ s'.inv = false) ∨ (s.inv = false ∧ s'.inv = true))) := by
      obtain ⟨f, b, u, v, i⟩ := s
      obtain ⟨f', b', u', v', i'⟩ := s'
      simp only [Sty.mk.injEq, not_and] at hss
      simp only
      by_cases h1 : f = f'
      · by_cases h2 : b = b'
        · cases u <;> cases u' <;> cases v <;> cases v' <;> cases i <;> cases i' <;> simp_all
        · exact .inr (.inl ⟨h1, h2⟩)
      · exact .inl h1
    have HL := Lib.hid hL
    have HSS := Lib.hid hss
    have HR1 : Hid (rb + 1 < w1.heap.size) := Lib.hid hs1
    clear hL hss
    obtain ⟨M, hM⟩ : ∃ M, decide s.may = M := ⟨_, rfl⟩
    rw [hM] at HM
    have HMm := Lib.hid hM
    clear hM
    obtain ⟨P, hP⟩ : ∃ P, OrdPost rb L w = P := ⟨_, rfl⟩
    rw [hP]
    have HP := Lib.hid hP
    clear hP
    unfold sV
    unfold sV at HM
    go_enter Try.func15, Try.ntmps15
    go_upto_region 1 with fail
    rw [HW1.out, HRb.out]
    obtain ⟨N, hN⟩ : ∃ N, (!M) = N := ⟨_, rfl⟩
    have HN := Lib.hid hN
    clear hN
    go_cut [13] (fun t13 wx => t13 = .bool N ∧ Hid (rb + 1 < wx.heap.size ∧ Below rb w wx ∧ SBlk 26 rb s wx))
    case first =>
      have fin : ∀ w2 : World, Below w1.heap.size w1 w2 → rb + 1 < w2.heap.size ∧ Below rb w w2 ∧ SBlk 26 rb s w2 := fun w2 h =>
        ⟨Nat.lt_of_lt_of_le HR1.out h.size, HB1.out.trans (h.mono (by have := HR1.out; omega)), HD1.out.below h HD1.out.lt⟩
      have HFin := Lib.hid fin
      clear fin
      clear HL HP HMm HSS
      obtain ⟨f, b, u, v, i⟩ := s
      obtain ⟨f', b', u', v', i'⟩ := s'
      simp only at hcase c0 c1 c2 c3 c4 e0 e1 e2 e3 e4 HM HW1
      rcases hcase with q0 | ⟨rfl, q1⟩ | ⟨rfl, rfl, (⟨rfl, rfl⟩ | ⟨rfl, rfl⟩)⟩ | ⟨rfl, rfl, rfl, (⟨rfl, rfl⟩ | ⟨rfl, rfl⟩)⟩ | ⟨rfl, rfl, rfl, rfl, (⟨rfl, rfl⟩ | ⟨rfl, rfl⟩)⟩
      all_goals
        go_wp2_with fail
        refine (HM.out _).mono ?_
        rintro e w2 ⟨rfl, hb2⟩
        have HF := Lib.hid (HFin.out w2 hb2)
        clear hb2 HM HFin HB1 HD1 HW1 HRb c0 c1 c2 c3 c4 e0 e1 e2 e3 e4 HR1
        go_wp2_with fail
        go_meet
        exact ⟨by rw [← HN.out], HF⟩
    case rest =>
      clear c0 c1 c2 c3 c4 e0 e1 e2 e3 e4 hcase HM hs1
      obtain ⟨rfl, HF⟩ := hcut
      have hN := HN.out
      subst hN
      clear HN
      cases M with
      | false =>
        simp only [Bool.not_false]
        have hl : L = [] := by rw [← HL.out, if_pos (.inr (by have := HMm.out; simpa using this))]
        subst hl
        have HBc := Lib.hid HF.out.2.1
        go_wp2
        rw [← HP.out]
        exact ⟨_, rfl, OwnI.nil _ _, HBc.out⟩
      | true =>
        simp only [Bool.not_true]
        have hmay : s.may := by have := HMm.out; simpa using this
        have hl : L = ordS s := by rw [← HL.out, if_neg (fun e => e.elim HSS.out (fun h => h hmay))]
        subst hl
        obtain ⟨m1, m2, m3, m4⟩ := hmay
        rename_i wc
        obtain ⟨f, b, u, v, i⟩ := s
        simp only at m1 m2 m3 m4
        obtain ⟨hs2, hb2, hd2⟩ := HF.out
        obtain ⟨w3, hw3⟩ : ∃ w3, wc.alloc (.cells #[.int .i64 0] 3) = w3 := ⟨_, rfl⟩
        have hs3 : rb + 1 < w3.heap.size := by rw [← hw3]; simp; omega
        have hp3 : Part rb ⟨f, b, u, v, i⟩ (.slice (some ⟨wc.heap.size, 0, none⟩) 1 1) [0] w w3 := by
          rw [← hw3]
          exact ⟨World.ownsRow_lit wc #[.int .i64 0] 1 (by omega) (by decide) rfl, hb2.alloc (by omega) _, hd2.alloc _⟩
        have HP3 := Lib.hid hp3
        have HW3 := Lib.hid hw3
        clear hb2 hd2 hw3 hp3 HF
        go_upto_region 4 with fail
        rw [HW3.out]
        obtain ⟨l0, hl0⟩ : ∃ l : List Int, [0] ++ (if u then [1] else []) = l := ⟨_, rfl⟩
        have hn0 : l0.length ≤ 2 := by
          rw [← hl0, List.length_append]
          have : ((if u then [1] else []) : List Int).length ≤ 1 := by split <;> simp
          simp only [List.length_cons, List.length_nil]; omega
        have HC := HP3
        obtain ⟨cv, hcv⟩ : ∃ v : Value, v = .slice (some ⟨wc.heap.size, 0, none⟩) 1 1 := ⟨_, rfl⟩
        rw [← hcv] at HC ⊢
        clear hcv
        obtain ⟨wx, hwx⟩ : ∃ wx, w3 = wx := ⟨_, rfl⟩
        rw [hwx] at HC hs3 ⊢
        clear HP3 HW3 hwx
        have hsx := hs3
        clear hs3
        have c0 := HC.out.blk.c2
        simp only at c0
        go_upto_if 16 with fail
        clear c0
        go_cut [5] (fun t5 wy => rb + 1 < wy.heap.size ∧ Hid (Part rb ⟨f, b, u, v, i⟩ t5 l0 w wy))
        case first =>
          cases u with
          | false =>
            have e : l0 = [0] := by rw [← hl0]; simp
            have HE := Lib.hid e
            clear hl0 e
            go_wp2_with fail
            go_meet
            rw [HE.out]
            exact ⟨hsx, HC⟩
          | true =>
            have e : l0 = [0] ++ [1] := by rw [← hl0]; simp
            have HE := Lib.hid e
            clear hl0 e
            go_wp2_with (at_builtin; refine wpList_append_ints rfl _ _ rfl rfl (rb + 2) _ [0] (some ⟨wx.heap.size, 0, none⟩) 1 1 [1] rfl rfl (HC.out.own.alloc _) (ints_one wx _ _) (fun e => by cases e) (by decide) (by simp) (by simp; omega) ?_)
            intro v' w4 hown4 hgr
            have HN := Lib.hid (HC.out.step hsx _ hown4 hgr)
            clear hown4 hgr
            go_wp2_with fail
            go_meet
            rw [HE.out]
            exact ⟨HN.out.2, Lib.hid HN.out.1⟩
        clear HC hsx
        obtain ⟨hsx, HC⟩ := hcut
        obtain ⟨l1, hl1⟩ : ∃ l : List Int, l0 ++ (if v then [4] else []) = l := ⟨_, rfl⟩
        have hn1 : l1.length ≤ 3 := by
          rw [← hl1, List.length_append]
          have : ((if v then [4] else []) : List Int).length ≤ 1 := by split <;> simp
          omega
        have c0 := HC.out.blk.c3
        simp only at c0
        go_upto_if 21 with fail
        clear c0
        go_cut [5] (fun t5 wy => rb + 1 < wy.heap.size ∧ Hid (Part rb ⟨f, b, u, v, i⟩ t5 l1 w wy))
        case first =>
          cases v with
          | false =>
            have e : l1 = l0 := by rw [← hl1]; simp
            have HE := Lib.hid e
            clear hl1 e
            go_wp2_with fail
            go_meet
            rw [HE.out]
            exact ⟨hsx, HC⟩
          | true =>
            have e : l1 = l0 ++ [4] := by rw [← hl1]; simp
            have HE := Lib.hid e
            clear hl1 e
            go_wp2_with (at_builtin; refine wpList_append_ints rfl _ _ rfl rfl (rb + 2) _ l0 (some ⟨wc.heap.size, 0, none⟩) 1 1 [4] rfl rfl (HC.out.own.alloc _) (ints_one wc _ _) (fun e => by cases e) (by omega) (by simp) (by simp; omega) ?_)
            intro v' w4 hown4 hgr
            have HN := Lib.hid (HC.out.step hsx _ hown4 hgr)
            clear hown4 hgr
            go_wp2_with fail
            go_meet
            rw [HE.out]
            exact ⟨HN.out.2, Lib.hid HN.out.1⟩
        clear HC hsx
        obtain ⟨hsx, HC⟩ := hcut
        obtain ⟨l2, hl2⟩ : ∃ l : List Int, l1 ++ (if i then [7] else []) = l := ⟨_, rfl⟩
        have hn2 : l2.length ≤ 4 := by
          rw [← hl2, List.length_append]
          have : ((if i then [7] else []) : List Int).length ≤ 1 := by split <;> simp
          omega
        have c0 := HC.out.blk.c4
        simp only at c0
        go_upto_if 26 with fail
        clear c0
        go_cut [5] (fun t5 wy => rb + 1 < wy.heap.size ∧ Hid (Part rb ⟨f, b, u, v, i⟩ t5 l2 w wy))
        case first =>
          cases i with
          | false =>
            have e : l2 = l1 := by rw [← hl2]; simp
            have HE := Lib.hid e
            clear hl2 e
            go_wp2_with fail
            go_meet
            rw [HE.out]
            exact ⟨hsx, HC⟩
          | true =>
            have e : l2 = l1 ++ [7] := by rw [← hl2]; simp
            have HE := Lib.hid e
            clear hl2 e
            go_wp2_with (at_builtin; refine wpList_append_ints rfl _ _ rfl rfl (rb + 2) _ l1 (some ⟨wc.heap.size, 0, none⟩) 1 1 [7] rfl rfl (HC.out.own.alloc _) (ints_one wc _ _) (fun e => by cases e) (by omega) (by simp) (by simp; omega) ?_)
            intro v' w4 hown4 hgr
            have HN := Lib.hid (HC.out.step hsx _ hown4 hgr)
            clear hown4 hgr
            go_wp2_with fail
            go_meet
            rw [HE.out]
            exact ⟨HN.out.2, Lib.hid HN.out.1⟩
        clear HC hsx
        obtain ⟨hsx, HC⟩ := hcut
        obtain ⟨l3, hl3⟩ : ∃ l : List Int, l2 ++ (if 0 < f then [30 + f - 1] else []) = l := ⟨_, rfl⟩
        have hn3 : l3.length ≤ 5 := by
          rw [← hl3, List.length_append]
          have : ((if 0 < f then [30 + f - 1] else []) : List Int).length ≤ 1 := by split <;> simp
          omega
        have c0 := HC.out.blk.c0
        simp only at c0
        go_upto_if 32 with fail
        clear c0
        go_cut [5] (fun t5 wy => rb + 1 < wy.heap.size ∧ Hid (Part rb ⟨f, b, u, v, i⟩ t5 l3 w wy))
        case first =>
          have c0 := HC.out.blk.c0
          simp only at c0
          by_cases hq : 0 < f
          · skip
            have e : l3 = l2 ++ [30 + f - 1] := by rw [← hl3, if_pos hq]
            have HE := Lib.hid e
            clear hl3 e
            go_wp2_with (at_builtin; refine wpList_append_ints rfl _ _ rfl rfl (rb + 2) _ l2 (some ⟨wc.heap.size, 0, none⟩) 1 1 [30 + f - 1] rfl rfl (HC.out.own.alloc _) (ints_one wc _ _) (fun e => by cases e) (by omega) (by simp) (by simp; omega) ?_)
            intro v' w4 hown4 hgr
            have HN := Lib.hid (HC.out.step hsx _ hown4 hgr)
            clear hown4 hgr
            go_wp2_with fail
            go_meet
            rw [HE.out]
            exact ⟨HN.out.2, Lib.hid HN.out.1⟩
          · have e : l3 = l2 := by rw [← hl3, if_neg hq, List.append_nil]
            have HE := Lib.hid e
            clear hl3 e
            go_wp2_with fail
            go_meet
            rw [HE.out]
            exact ⟨hsx, HC⟩
        clear HC hsx
        obtain ⟨hsx, HC⟩ := hcut
        obtain ⟨l4, hl4⟩ : ∃ l : List Int, l3 ++ (if 0 < b then [40 + b - 1] else []) = l := ⟨_, rfl⟩
        have hn4 : l4.length ≤ 6 := by
          rw [← hl4, List.length_append]
          have : ((if 0 < b then [40 + b - 1] else []) : List Int).length ≤ 1 := by split <;> simp
          omega
        have c0 := HC.out.blk.c1
        simp only at c0
        go_upto_if 42 with fail
        clear c0
        go_cut [5] (fun t5 wy => rb + 1 < wy.heap.size ∧ Hid (Part rb ⟨f, b, u, v, i⟩ t5 l4 w wy))
        case first =>
          have c0 := HC.out.blk.c1
          simp only at c0
          by_cases hq : 0 < b
          · skip
            have e : l4 = l3 ++ [40 + b - 1] := by rw [← hl4, if_pos hq]
            have HE := Lib.hid e
            clear hl4 e
            go_wp2_with (at_builtin; refine wpList_append_ints rfl _ _ rfl rfl (rb + 2) _ l3 (some ⟨wc.heap.size, 0, none⟩) 1 1 [40 + b - 1] rfl rfl (HC.out.own.alloc _) (ints_one wc _ _) (fun e => by cases e) (by omega) (by simp) (by simp; omega) ?_)
            intro v' w4 hown4 hgr
            have HN := Lib.hid (HC.out.step hsx _ hown4 hgr)
            clear hown4 hgr
            go_wp2_with fail
            go_meet
            rw [HE.out]
            exact ⟨HN.out.2, Lib.hid HN.out.1⟩
          · have e : l4 = l3 := by rw [← hl4, if_neg hq, List.append_nil]
            have HE := Lib.hid e
            clear hl4 e
            go_wp2_with fail
            go_meet
            rw [HE.out]
            exact ⟨hsx, HC⟩
        clear HC hsx
        obtain ⟨hsx, HC⟩ := hcut
        have hfin : l4 = ordS ⟨f, b, u, v, i⟩ := by rw [← hl4, ← hl3, ← hl2, ← hl1, ← hl0]; rfl
        have HE := Lib.hid hfin
        clear hfin hl0 hl1 hl2 hl3 hl4
        go_wp2
        rw [← HP.out]
        exact ⟨_, rfl, by rw [← HE.out]; exact Z.OwnI.weaken HC.out.own (by omega), HC.out.below⟩
end Go.Proofs.Ytfapmgecebcfaaa.Z
