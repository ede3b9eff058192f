/- FlowPlaces: where each glyph is: the walk. -/
import Derived.Test.YtjlhinofglokoaaDoorFCoW
import Derived.Test.YtjlhinofglokoaaDoorFAt
namespace Go.Proofs.YtjlhinofglokoaaDoor.F
open Go.RowKit H
open W (Tab ofS refOf refOf_any ofS_ref ofS_le)

/-- the row, and the column behind the first ones -/
def pst (C : Int) (l : List (Int × Int)) : Nat → Nat × Nat
  | 0 => (0, 0)
  | j + 1 => ((place C 0 l j).1, (place C 0 l j).2 + ofS ((l[j]?).getD (0, 0)).1)
theorem pst_succ (C : Int) (l : List (Int × Int)) (j : Nat) : pst C l (j + 1) = ((place C 0 l j).1, (place C 0 l j).2 + ofS ((l[j]?).getD (0, 0)).1) := rfl
theorem pst_next {C : Int} (hC : 2 ≤ C) (l : List (Int × Int)) (j : Nat) (g : Int × Int) (h : l[j]? = some g) : (place C 0 l j = pst C l j ∨ place C 0 l j = ((pst C l j).1 + 1, 0)) ∧ (((place C 0 l j).2 + ofS g.1 : Nat) : Int) ≤ C ∧ pst C l (j + 1) = ((place C 0 l j).1, (place C 0 l j).2 + ofS g.1) := by
  refine ⟨?_, place_in hC l 0 j g (by omega) h, by rw [pst_succ, h]; rfl⟩
  cases j with
  | zero =>
    cases l with
    | nil => cases h
    | cons k l => exact .inl (by rw [place_first hC]; rfl)
  | succ j =>
    have hj := (List.getElem?_eq_some_iff.1 h).1
    obtain ⟨k, hk⟩ : ∃ k, l[j]? = some k := ⟨_, List.getElem?_eq_getElem (by omega)⟩
    have hs := place_step hC l 0 j k g hk h
    have hp : pst C l (j + 1) = ((place C 0 l j).1, (place C 0 l j).2 + ofS k.1) := by rw [pst_succ, hk]; rfl
    rw [hp]
    rw [hs]
    split
    · exact .inr rfl
    · exact .inl rfl
theorem pst_last {C : Int} (l : List (Int × Int)) : (cutR C l).length = (pst C l l.length).1 + 1 := by
  cases hl : l.length with
  | zero =>
    rw [List.length_eq_zero_iff.1 hl]
    rfl
  | succ n => exact brk_last C l [] 0 n hl
theorem pst_le {C : Int} (hC : 2 ≤ C) (l : List (Int × Int)) : ∀ j, j ≤ l.length → (pst C l j).1 ≤ j ∧ ((pst C l j).2 : Int) ≤ C
  | 0, _ => by simp [pst]; omega
  | j + 1, hj => by
    obtain ⟨g, hg⟩ : ∃ g, l[j]? = some g := ⟨_, List.getElem?_eq_getElem (by omega)⟩
    obtain ⟨h1, h2, h3⟩ := pst_next hC l j g hg
    have ih := pst_le hC l j (by omega)
    rw [h3]
    refine ⟨?_, h2⟩
    rcases h1 with h1 | h1
    · rw [h1]; show (pst C l j).1 ≤ j + 1; omega
    · rw [h1]; show (pst C l j).1 + 1 ≤ j + 1; omega
set_option maxRecDepth 100000 in
set_option maxHeartbeats 8000000 in
theorem places_walk (a : Option Addr) (len cap : Nat) (l0 : List (Int × Int)) (W : Int) (w : World) (hT : Tab w) (h : PairsIn .i32 a len cap l0 w) (hr : RngG l0) :
    Calls Tryd.prog 6 #[.slice a len cap, .int .i64 W] w fun e w' => e = .returned (.bool true) ∧ Below w.heap.size w w' := by
  obtain ⟨P, hP⟩ : ∃ P : Ending → World → Prop, (fun e w' => e = .returned (.bool true) ∧ Below w.heap.size w w') = P := ⟨_, rfl⟩
  rw [hP]
  have HP := Lib.hid hP
  have HT := Lib.hid hT
  have HA := Lib.hid (awake_any w hT)
  obtain ⟨M, hM⟩ : ∃ M : Nat, min (len : Int) 40 = (M : Int) := ⟨min len 40, by omega⟩
  have hml : M ≤ len := by omega
  have hm40 : M ≤ 40 := by omega
  have hmc : (M : Int) ≤ cap := by have := h.fit; omega
  have htop := h.top
  obtain ⟨l, hl⟩ : ∃ l, l0.take M = l := ⟨_, rfl⟩
  have hll : l.length = M := by rw [← hl, List.length_take, ← h.len]; omega
  have HG : Hid (PairsIn .i32 a M cap l w) := Lib.hid (by rw [← hl]; exact h.take M hml)
  have HR : Hid (RngG l) := Lib.hid (by rw [← hl]; exact fun g hg => hr g (List.mem_of_mem_take hg))
  have HLl := Lib.hid hll
  obtain ⟨rb, hrb⟩ : ∃ rb, w.heap.size = rb := ⟨_, rfl⟩
  have HRb := Lib.hid hrb
  clear hP hT h hr hl hll hrb
  go_enter Tryd.func6, Tryd.ntmps6
  go_wp2_with fail
  refine HA.out.mono ?_
  rintro e w1 ⟨rfl, hb1⟩
  have hb2 : Below w1.heap.size w1 (w1.alloc (.cells #[] 42)) := (Below.refl _ _).alloc (Nat.le_refl _) _
  have HO := Lib.hid (lit_q w1)
  have HG1 := Lib.hid (HG.out.belowAll (hb1.trans (hb2.mono hb1.size)))
  have HB1 := Lib.hid hb1
  have HB2 := Lib.hid hb2
  clear hb1 hb2 HA
  go_wp2_with (at_builtin; refine wpList_append_q gluT rfl _ _ rfl rfl w1.heap.size _ [] a M cap l rfl rfl HO.out HG1.out (by simp) (by have := HLl.out; omega) HB2.out.size ?_)
  intro v' w3 hg
  have hb3 : Below w1.heap.size w1 w3 := HB2.out.grown hg.grown HB2.out.size (fun q hq => (HO.out.own q hq).1)
  obtain ⟨a3, c3, rfl, hp3, hn3, -⟩ := hg.own.shape
  rw [HLl.out] at hp3
  try simp only [List.nil_append]
  rw [HLl.out]
  have HP3 := Lib.hid hp3
  have HB3 : Hid (Below w.heap.size w w3) := Lib.hid (HB1.out.trans (hb3.mono HB1.out.size))
  have HS3 : Hid (rb ≤ w3.heap.size) := Lib.hid (by rw [← HRb.out]; exact HB3.out.size)
  clear hg hb3 hp3 hn3 HO HG1 HB2
  go_wp2_with fail
  obtain ⟨C, hC⟩ : ∃ C, clampW W = C := ⟨_, rfl⟩
  have hcl := clampW_le W
  have hcw := clamp_go W
  rw [hC] at hcl hcw
  have HC := Lib.hid hC
  have hc2 := hcl.1
  have hc3 := hcl.2
  clear hC hcl
  go_loopw [5, 6, 23] (fun y x i wr => ∃ j Y X : Nat, i = .int .i64 (j : Int) ∧ y = .int .i64 (Y : Int) ∧ x = .int .i64 (X : Int) ∧ j ≤ M ∧ Y ≤ j ∧ (X : Int) ≤ 1000 ∧ Hid (pst C l j = (Y, X) ∧ Below w3.heap.size w3 wr)) (fun _ _ i _ => M - (intOf i).toNat)
  case atStart => exact ⟨0, 0, 0, rfl, rfl, rfl, Nat.zero_le _, Nat.zero_le _, by omega, Lib.hid ⟨rfl, Below.refl _ _⟩⟩
  case round =>
    obtain ⟨j, Y, X, rfl, rfl, rfl, hj, hYj, hX, HF⟩ := hrel
    by_cases hlt : j < M
    · have hd : decide (j < M) = true := decide_eq_true hlt
      have hjI : (j : Int) < M := by omega
      have hjl : j < l.length := by rw [HLl.out]; exact hlt
      obtain ⟨b, off, rfl, hb, hat⟩ := HP3.out.at_.resolve_left (by intro e; rw [e] at hjl; simp at hjl)
      have hrg := HR.out l[j] (List.getElem_mem hjl)
      obtain ⟨⟨z, sty⟩, hg⟩ : ∃ g, l[j] = g := ⟨_, rfl⟩
      have hgg : l[j]? = some (z, sty) := by rw [List.getElem?_eq_getElem hjl, hg]
      have hk := hat j (z, sty) hgg
      rw [hg] at hrg
      have k0 := (HF.out.2.cell (p := ⟨b, off + j * 2, none⟩) hb).trans hk.1
      have k1 := (HF.out.2.cell (p := ⟨b, off + j * 2 + 1, none⟩) hb).trans hk.2
      obtain ⟨hw1, hw2, hw3⟩ := pst_next hc2 l j (z, sty) hgg
      rw [HF.out.1] at hw1
      have hle := pst_le hc2 l (j + 1) (by omega)
      rw [hw3] at hle
      have hof := ofS_le z
      have href := ofS_ref z hrg.1 hrg.2
      obtain ⟨Z, hZ⟩ : ∃ Z, ofS z = Z := ⟨_, rfl⟩
      simp only at hw2 hw3 hle
      rw [hZ] at hw2 hw3 hle hof href
      have hwr : IntKind.i64.wrap z = z := by rw [IntKind.wrap_i64]; have h1 := hrg.1; have h2 := hrg.2; simp only at h1 h2; omega
      have haf : atF C l (j : Int) = place C 0 l j := by unfold atF; rw [if_pos (by omega), Int.toNat_natCast]
      obtain ⟨bb, aa, hp⟩ : ∃ bb aa, place C 0 l j = (bb, aa) := ⟨_, _, rfl⟩
      rw [hp] at hw1 hw2 hw3 hle haf
      simp only at hw2 hw3 hle
      obtain ⟨w4, hw4⟩ : ∃ w4, wr.alloc (.cells #[.int .i32 z, .int .i64 sty] 42) = w4 := ⟨_, rfl⟩
      have hb4 : Below wr.heap.size wr w4 := by rw [← hw4]; exact (Below.refl _ _).alloc (Nat.le_refl _) _
      have c40 : w4.cell? ⟨wr.heap.size, 0, none⟩ = some (.int .i32 z) := by rw [← hw4, World.cell?_alloc_new]; rfl
      have hAt := at_any (some ⟨b, off, none⟩) M c3 l W (j : Int) w4 ((HP3.out.belowAll HF.out.2).belowAll hb4) (((HT.out.belowAll HB3.out).belowAll HF.out.2).belowAll hb4) (by omega)
      rw [HC.out, haf] at hAt
      have HAt := Lib.hid hAt
      have HB4 := Lib.hid hb4
      have HW4 := Lib.hid hw4
      have HW3' := Lib.hid hw3
      have HLt : Hid (wr.heap.size < w4.heap.size) := Lib.hid (by rw [← hw4]; simp)
      have HRf : ∀ w, Calls Tryd.prog 21 #[.int .i64 z] w fun e w' => e = .returned (.int .i64 (Z : Int)) ∧ Below w.heap.size w w' := fun w => by rw [href]; exact refOf_any z w
      have HRf := Lib.hid HRf
      have hway : (bb = Y ∧ aa = X) ∨ (bb = Y + 1 ∧ aa = 0) := by
        rcases hw1 with h | h
        · injection h with h1 h2; exact .inl ⟨h1, h2⟩
        · injection h with h1 h2; exact .inr ⟨h1, h2⟩
      have HWay := Lib.hid hway
      have hbb : (bb : Int) ≤ 41 := by omega
      have haa : (aa : Int) + Z ≤ C := by omega
      clear hat hjl hrg hg hgg hk hw1 hw2 hw3 hle hof href hZ hb haf hp hb4 hw4 hAt hway
      go_wp2_with fail
      rw [HW4.out]
      refine HAt.out.mono ?_
      rintro e w5 ⟨rfl, hb5⟩
      have c50 := (hb5.cell (p := ⟨wr.heap.size, 0, none⟩) HLt.out).trans c40
      have HB5 := Lib.hid hb5
      clear hb5 HAt k0 k1 c40
      simp only
      go_wp2_with fail
      refine (HRf.out w5).mono ?_
      rintro e w6 ⟨rfl, hb6⟩
      have HE : Hid (pst C l (j + 1) = (bb, aa + Z) ∧ Below w3.heap.size w3 w6) := Lib.hid ⟨HW3'.out, HF.out.2.trans ((HB4.out.trans ((HB5.out.trans (hb6.mono HB5.out.size)).mono HB4.out.size)).mono HF.out.2.size)⟩
      clear hb6 c50 HB4 HB5 HF
      have d5 : decide ((aa : Int) + (Z : Int) > C) = false := decide_eq_false (by omega)
      have d5' : decide (C < (aa : Int) + (Z : Int)) = false := decide_eq_false (by omega)
      rcases HWay.out with ⟨rfl, rfl⟩ | ⟨rfl, rfl⟩
      · have d1 : decide ((bb : Int) < (bb : Int)) = false := decide_eq_false (by omega)
        have d1n : decide (bb < bb) = false := decide_eq_false (by omega)
        have d2 : decide ((bb : Int) > (bb : Int) + 1) = false := decide_eq_false (by omega)
        have d2' : decide ((bb : Int) + 1 < (bb : Int)) = false := decide_eq_false (by omega)
        have d3 : ((bb : Int) == (bb : Int)) = true := by simp
        have d4 : ((aa : Int) != (aa : Int)) = false := by simp
        have d6 : decide ((bb : Int) > (bb : Int)) = false := decide_eq_false (by omega)
        have HYj2 : Hid (bb ≤ j + 1) := Lib.hid (by omega)
        have HX2 : Hid (((aa + Z : Nat) : Int) ≤ 1000) := Lib.hid (by omega)
        clear HWay HRf
        go_wp2_with fail
        go_roundw
        case rel => exact ⟨j + 1, bb, aa + Z, by go_num, by go_num, by go_num, by omega, HYj2.out, HX2.out, HE⟩
        case measure => simp [intOf]; omega
      · have d1 : decide ((Y : Int) + 1 < (Y : Int)) = false := decide_eq_false (by omega)
        have d2 : decide ((Y : Int) + 1 > (Y : Int) + 1) = false := decide_eq_false (by omega)
        have d2' : decide ((Y : Int) + 1 < (Y : Int) + 1) = false := decide_eq_false (by omega)
        have d3 : (((Y : Int) + 1) == (Y : Int)) = false := by rw [beq_eq_false_iff_ne]; omega
        have d4 : ((0 : Int) != 0) = false := by simp
        have d6 : decide ((Y : Int) + 1 > (Y : Int)) = true := decide_eq_true (by omega)
        have d6' : decide ((Y : Int) < (Y : Int) + 1) = true := decide_eq_true (by omega)
        have d7 : decide ((Z : Int) > C) = false := decide_eq_false (by omega)
        have d7' : decide (C < (Z : Int)) = false := decide_eq_false (by omega)
        have HYj2 : Hid (Y + 1 ≤ j + 1) := Lib.hid (by omega)
        have HX2 : Hid (((0 + Z : Nat) : Int) ≤ 1000) := Lib.hid (by omega)
        clear HWay HRf
        go_wp2_with fail
        go_roundw
        case rel => exact ⟨j + 1, Y + 1, 0 + Z, by go_num, by go_num, by go_num, by omega, HYj2.out, HX2.out, HE⟩
        case measure => simp [intOf]; omega
    · obtain rfl : j = M := by omega
      have hd : decide (j < j) = false := by simp
      have hw4 := HF.out.2
      have hcn := count_any a3 j c3 l W wr (HP3.out.belowAll hw4) ((HT.out.belowAll HB3.out).belowAll hw4) (by omega)
      rw [HC.out, pst_last, HLl.out, HF.out.1] at hcn
      have hcn2 : (((Y, X).1 + 1 : Nat) : Int) = (Y : Int) + 1 := by simp
      rw [hcn2] at hcn
      have HCn := Lib.hid hcn
      have HB5 : Hid (Below w.heap.size w wr) := Lib.hid (HB3.out.trans (hw4.mono HB3.out.size))
      have HB : Hid (∀ w', Below wr.heap.size wr w' → P (.returned (.bool true)) w') := Lib.hid (fun w' hb => by rw [← HP.out]; exact ⟨rfl, HB5.out.trans (hb.mono HB5.out.size)⟩)
      have d1 : (((Y : Int) + 1) == ((Y : Int) + 1)) = true := by simp
      clear hcn hcn2 hw4 HF hlt
      go_wp2_with fail
      refine HCn.out.mono ?_
      rintro e w5 ⟨rfl, hb5⟩
      have HE := Lib.hid (HB.out w5 hb5)
      clear hb5 HCn
      go_wp2_with fail
      exact HE.out
end Go.Proofs.YtjlhinofglokoaaDoor.F
