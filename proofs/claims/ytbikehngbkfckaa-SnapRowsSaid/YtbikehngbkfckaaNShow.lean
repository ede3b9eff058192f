/- The contract of snap's shows: are there as many rows and cells as the size says, and may each cell be? -/
import Derived.Test.YtbikehngbkfckaaMerged13
import Derived.Test.YtbikehngbkfckaaMerged11
namespace Go.Proofs.Ytbikehngbkfckaa.K
open Go.RowKit Go.Proofs.Ytbikehngbkfckaa.I

theorem okC_draw (c : Cel) : okC c ↔ DrawC c.rune c.style ∧ (0 ≤ c.part ∧ c.part ≤ 3) := by
  unfold okC DrawC
  exact ⟨fun h => ⟨⟨h.1, h.2.1⟩, h.2.2⟩, fun h => ⟨h.1.1, h.1.2, h.2⟩⟩
def RowOk (W : Int) (r : Ro) : Prop := (r.l.length : Int) = W ∧ ∀ c ∈ r.l, okC c
/-- what shows looks at, while it goes through the rows -/
structure ShI (rb : Nat) (vs : Value) (W : Int) (w wr : World) : Prop where
  b : Below rb w wr
  c6 : wr.cell? ⟨rb, 6, none⟩ = some vs
  c1 : wr.cell? ⟨rb, 1, none⟩ = some (.int .i64 W)
  s : rb < wr.heap.size
theorem ShI.below {rb : Nat} {vs : Value} {W : Int} {w wr w' : World} (h : ShI rb vs W w wr) (hb : Below wr.heap.size wr w') : ShI rb vs W w w' :=
  ⟨h.b.trans (hb.mono (Nat.le_of_lt h.s)), (hb.cell (p := ⟨rb, 6, none⟩) h.s).trans h.c6, (hb.cell (p := ⟨rb, 1, none⟩) h.s).trans h.c1, Nat.lt_of_lt_of_le h.s hb.size⟩
set_option maxRecDepth 100000 in
set_option maxHeartbeats 16000000 in
theorem shows_any (s : Sn) (ra : Option Addr) (rn rc : Nat) (ga : Option Addr) (gn gc : Nat) (w : World) (hI : RowsL .i32 [] ra rn rc s.R w) (hr : ∀ r ∈ s.R, AllC Rng r.l) (hl : ∀ r ∈ s.R, r.l.length ≤ 1000000) :
    Calls Try.prog 57 #[.agg (snA s ra rn rc ga gn gc)] w fun e w' => e = .returned (.bool (decide (Shows s))) ∧ Below w.heap.size w w' := by
  obtain ⟨k, W, h, x, y, t, R, n, c, B⟩ := s
  simp only at hI hr hl
  obtain ⟨rb, hrb⟩ : ∃ rb, w.heap.size = rb := ⟨_, rfl⟩
  rw [hrb]
  obtain ⟨D, hD⟩ : ∃ D, decide (Shows ⟨k, W, h, x, y, t, R, n, c, B⟩) = D := ⟨_, rfl⟩
  rw [hD]
  have hdef : Shows ⟨k, W, h, x, y, t, R, n, c, B⟩ ↔ (R.length : Int) = h ∧ ∀ r ∈ R, RowOk W r := Iff.rfl
  obtain ⟨P, hP⟩ : ∃ P : Ending → World → Prop, (fun e w' => e = .returned (.bool D) ∧ Below rb w w') = P := ⟨_, rfl⟩
  rw [hP]
  have HP := Lib.hid hP
  have HD : Hid (∀ b, (Shows ⟨k, W, h, x, y, t, R, n, c, B⟩ ↔ b = true) → D = b) := Lib.hid (fun b hb => by rw [← hD]; cases b <;> simp_all)
  have HDef := Lib.hid hdef
  have hlen := hI.len
  have HLn := Lib.hid hlen
  have HRb := Lib.hid hrb
  have hex := hI.ex
  have HI := Lib.hid hex
  have HRg := Lib.hid hr
  have HLl := Lib.hid hl
  unfold snA
  simp only
  obtain ⟨w1, hw1⟩ : ∃ w1, w.alloc (.cells #[.int .i64 k, .int .i64 W, .int .i64 h, .int .i64 x, .int .i64 y, .string t, .slice ra rn rc, .int .i64 n, .int .i64 c, .slice ga gn gc] 27) = w1 := ⟨_, rfl⟩
  have hb1 : Below rb w w1 := by rw [← hw1, ← hrb]; exact (Below.refl _ _).alloc (Nat.le_refl _) _
  have hk1 : w1.heap[rb]? = some (.cells #[.int .i64 k, .int .i64 W, .int .i64 h, .int .i64 x, .int .i64 y, .string t, .slice ra rn rc, .int .i64 n, .int .i64 c, .slice ga gn gc] 27 (0, 0)) := by rw [← hw1, ← hrb]; exact heap_alloc_new w _
  have c6 : w1.cell? ⟨rb, 6, none⟩ = some (.slice ra rn rc) := by rw [cell_block hk1]; rfl
  have c1 : w1.cell? ⟨rb, 1, none⟩ = some (.int .i64 W) := by rw [cell_block hk1]; rfl
  have c2 : w1.cell? ⟨rb, 2, none⟩ = some (.int .i64 h) := by rw [cell_block hk1]; rfl
  have HS1 : Hid (ShI rb (.slice ra rn rc) W w w1) := Lib.hid ⟨hb1, c6, c1, (Array.getElem?_eq_some_iff.1 hk1).1⟩
  have HW1 := Lib.hid hw1
  have hnI : (rn : Int) ≤ 9223372036854775807 := by obtain ⟨vs, h1, -⟩ := hex; have h2 := h1.fit; have h3 := h1.top; omega
  clear hP hD hdef hI hr hl hex hb1 hk1 hw1 hrb
  by_cases hH : (rn : Int) = h
  rotate_left
  · have q : ((rn : Int) != h) = true := by rw [bne_iff_ne]; exact hH
    have hend : Hid (P (.returned (.bool false)) w1) := Lib.hid (by
      rw [← HP.out, HD.out false (by rw [HDef.out, ← hlen]; exact ⟨fun e => absurd e.1 hH, fun e => by cases e⟩)]
      exact ⟨rfl, HS1.out.b⟩)
    clear hH hlen
    go_enter Try.func57, Try.ntmps57
    go_upto_region 1 with fail
    rw [HW1.out, HRb.out]
    go_wp2_with fail
    exact hend.out
  have q : ((rn : Int) != h) = false := by rw [bne_eq_false_iff_eq]; exact hH
  have HH : Hid ((R.length : Int) = h) := Lib.hid (by rw [← hlen]; exact hH)
  clear hH hlen
  go_enter Try.func57, Try.ntmps57
  go_upto_region 1 with fail
  rw [HW1.out, HRb.out]
  go_wp2_with fail
  clear c6 c1 c2 q
  go_loopw [16] (fun i wr => ∃ j : Nat, i = .int .i64 (j : Int) ∧ j ≤ rn ∧ Hid ((∀ r ∈ R.take j, RowOk W r) ∧ ShI rb (.slice ra rn rc) W w wr)) (fun i _ => rn - (intOf i).toNat)
  case atStart => exact ⟨0, rfl, Nat.zero_le _, Lib.hid ⟨by simp, HS1.out⟩⟩
  case round =>
    obtain ⟨j, rfl, hj, HF⟩ := hrel
    by_cases hlt : j < rn
    · have hd : decide (j < rn) = true := decide_eq_true hlt
      have hjI : (j : Int) < rn := by omega
      have hjl : j < R.length := by rw [← HLn.out]; exact hlt
      obtain ⟨us0, hin, hrv, -⟩ := HI.out
      have hju : j < us0.length := by rw [hrv.1]; exact hjl
      obtain ⟨ab, ao, rfl, hab, hAt⟩ := hin.at_.resolve_left (by intro e; rw [e] at hju; simp at hju)
      have hat := hAt j us0[j] (List.getElem?_eq_getElem hju)
      have hrj := hrv.2 j us0[j] R[j] (List.getElem?_eq_getElem hju) (List.getElem?_eq_getElem hjl)
      have htk := take_all (RowOk W) R j hjl HF.out.1
      have hrg := HRg.out R[j] (List.getElem_mem hjl)
      have hll := HLl.out R[j] (List.getElem_mem hjl)
      have hmem := List.getElem_mem hjl
      obtain ⟨⟨xa, xn, xc, xb⟩, hu⟩ : ∃ u, us0[j] = u := ⟨_, rfl⟩
      obtain ⟨r, hre⟩ : ∃ r, R[j] = r := ⟨_, rfl⟩
      rw [hu] at hat hrj
      rw [hre] at hrj htk hrg hll hmem
      unfold Rv.val at hrj
      simp only at hrj hat
      obtain ⟨hxb, hcl, hnl, hft, htp, hxl⟩ := hrj.of
      have hab' : ab < rb := by rw [← HRb.out]; exact hab
      have k0 : wr.cell? ⟨ab, ao + j * 2, none⟩ = some (.slice xa xn xc) := (HF.out.2.b.cell (p := ⟨ab, ao + j * 2, none⟩) hab').trans hat.1
      have k1 : wr.cell? ⟨ab, ao + j * 2 + 1, none⟩ = some (.bool xb) := (HF.out.2.b.cell (p := ⟨ab, ao + j * 2 + 1, none⟩) hab').trans hat.2
      obtain ⟨gb, hgb⟩ : ∃ gb, wr.heap.size = gb := ⟨_, rfl⟩
      obtain ⟨w5, hw5⟩ : ∃ w5, wr.alloc (.cells #[.slice xa xn xc, .bool xb] 45) = w5 := ⟨_, rfl⟩
      have hnew : w5.heap[gb]? = some (.cells #[.slice xa xn xc, .bool xb] 45 (0, 0)) := by rw [← hw5, ← hgb]; exact heap_alloc_new wr _
      have m0 : w5.cell? ⟨gb, 0, none⟩ = some (.slice xa xn xc) := by rw [cell_block hnew]; rfl
      have hb5 : Below wr.heap.size wr w5 := by rw [← hw5]; exact (Below.refl _ _).alloc (Nat.le_refl _) _
      have hs5 := HF.out.2.below hb5
      have n1 := hs5.c1
      have HW5 := Lib.hid hw5
      have HGb := Lib.hid hgb
      have HTk := Lib.hid htk
      have HS5 := Lib.hid hs5
      have HCl := Lib.hid hcl
      have HRg5 := Lib.hid hrg
      have HMem := Lib.hid hmem
      have HXl := Lib.hid hxl
      have hxI : (xn : Int) ≤ 1000000 := by omega
      have hgs : gb < w5.heap.size := (Array.getElem?_eq_some_iff.1 hnew).1
      have HGs := Lib.hid hgs
      clear hjl hin hrv hju hAt hat hrj htk hu hre hcl hnl hft htp hxl hxb hab hgb hw5 hnew hb5 hs5 hrg hll hmem hab' HF hgs
      by_cases hWl : (xn : Int) = W
      rotate_left
      · have q : ((xn : Int) != W) = true := by rw [bne_iff_ne]; exact hWl
        have hend : Hid (P (.returned (.bool false)) w5) := Lib.hid (by
          rw [← HP.out, HD.out false (by rw [HDef.out]; exact ⟨fun e => absurd (e.2 _ HMem.out).1 (by rw [← HXl.out]; exact hWl), fun e => by cases e⟩)]
          exact ⟨rfl, HS5.out.b⟩)
        clear hWl
        go_upto_region 6 with fail
        rw [HW5.out, HGb.out]
        clear k0 k1
        go_wp2_with fail
        exact hend.out
      have q : ((xn : Int) != W) = false := by rw [bne_eq_false_iff_eq]; exact hWl
      have HWl : Hid ((r.l.length : Int) = W) := Lib.hid (by rw [← HXl.out]; exact hWl)
      clear hWl
      go_upto_region 6 with fail
      rw [HW5.out, HGb.out]
      clear k0 k1
      go_wp2_with fail
      clear m0 n1 q
      go_loopw [29] (fun i wr => ∃ k : Nat, i = .int .i64 (k : Int) ∧ k ≤ xn ∧ Hid ((∀ c ∈ r.l.take k, okC c) ∧ ShI rb (.slice (some ⟨ab, ao, none⟩) rn rc) W w wr ∧ Below w5.heap.size w5 wr)) (fun i _ => xn - (intOf i).toNat)
      case atStart => exact ⟨0, rfl, Nat.zero_le _, Lib.hid ⟨by simp, HS5.out, Below.refl _ _⟩⟩
      case round =>
        obtain ⟨m, rfl, hm, HG⟩ := hrel
        by_cases hlt2 : m < xn
        · have hd2 : decide (m < xn) = true := decide_eq_true hlt2
          have hmI : (m : Int) < xn := by omega
          have hml : m < r.l.length := by rw [← HXl.out]; exact hlt2
          obtain ⟨cb, co, rfl, hcb, hCt⟩ := HCl.out.at_.resolve_left (by intro e; rw [e] at hml; simp at hml)
          have hct := hCt m r.l[m] (List.getElem?_eq_getElem hml)
          have htk2 := take_all okC r.l m hml HG.out.1
          have hcg := HRg5.out r.l[m] (List.getElem_mem hml)
          have hmem2 := List.getElem_mem hml
          obtain ⟨⟨x1, x2, x3⟩, hcc⟩ : ∃ c, r.l[m] = c := ⟨_, rfl⟩
          rw [hcc] at hct htk2 hcg hmem2
          have hcb' : cb < rb := by rw [← HRb.out]; exact hcb
          have l0 : wr.cell? ⟨cb, co + m * 3, none⟩ = some (.int .i32 x1) := (HG.out.2.1.b.cell (p := ⟨cb, co + m * 3, none⟩) hcb').trans hct.c0
          have l1 : wr.cell? ⟨cb, co + m * 3 + 1, none⟩ = some (.int .i64 x2) := (HG.out.2.1.b.cell (p := ⟨cb, co + m * 3 + 1, none⟩) hcb').trans hct.c1
          have l2 : wr.cell? ⟨cb, co + m * 3 + 2, none⟩ = some (.int .i64 x3) := (HG.out.2.1.b.cell (p := ⟨cb, co + m * 3 + 2, none⟩) hcb').trans hct.c2
          obtain ⟨qb, hqb⟩ : ∃ qb, wr.heap.size = qb := ⟨_, rfl⟩
          obtain ⟨w7, hw7⟩ : ∃ w7, wr.alloc (.cells #[.int .i32 x1, .int .i64 x2, .int .i64 x3] 67) = w7 := ⟨_, rfl⟩
          have hnew : w7.heap[qb]? = some (.cells #[.int .i32 x1, .int .i64 x2, .int .i64 x3] 67 (0, 0)) := by rw [← hw7, ← hqb]; exact heap_alloc_new wr _
          have p0 : w7.cell? ⟨qb, 0, none⟩ = some (.int .i32 x1) := by rw [cell_block hnew]; rfl
          have p1 : w7.cell? ⟨qb, 1, none⟩ = some (.int .i64 x2) := by rw [cell_block hnew]; rfl
          have p2 : w7.cell? ⟨qb, 2, none⟩ = some (.int .i64 x3) := by rw [cell_block hnew]; rfl
          have hb7 : Below wr.heap.size wr w7 := by rw [← hw7]; exact (Below.refl _ _).alloc (Nat.le_refl _) _
          have hs7 := HG.out.2.1.below hb7
          have hg7 := HG.out.2.2.trans (hb7.mono HG.out.2.2.size)
          have HN := Lib.hid (drawable_any x1 x2 hcg w7)
          have HN2 := Lib.hid (within_any x3 0 3 w7)
          have HW7 := Lib.hid hw7
          have HQb := Lib.hid hqb
          have HTk2 := Lib.hid htk2
          have HS7 := Lib.hid hs7
          have HG7 := Lib.hid hg7
          have HMem2 := Lib.hid hmem2
          have hbad : Hid (¬ okC ⟨x1, x2, x3⟩ → P (.returned (.bool false)) w7) := Lib.hid (fun hno => by
            rw [← HP.out, HD.out false (by rw [HDef.out]; exact ⟨fun e => absurd ((e.2 _ HMem.out).2 _ HMem2.out) hno, fun e => by cases e⟩)]
            exact ⟨rfl, HS7.out.b⟩)
          clear hml hCt hct htk2 hcg hcc hcb hcb' hqb hw7 hnew hb7 hs7 hg7 hmem2 HG
          by_cases hdr : DrawC x1 x2
          rotate_left
          · rw [decide_eq_false hdr] at HN
            have hend : Hid (P (.returned (.bool false)) w7) := Lib.hid (hbad.out (by rw [okC_draw]; exact fun e => hdr e.1))
            clear hdr
            go_upto_region 11 with fail
            rw [HW7.out, HQb.out]
            clear l0 l1 l2
            go_wp2_with fail
            refine HN.out.mono ?_
            rintro e w8 ⟨rfl, rfl⟩
            go_wp2_with fail
            exact hend.out
          rw [decide_eq_true hdr] at HN
          by_cases hpt : 0 ≤ x3 ∧ x3 ≤ 3
          rotate_left
          · rw [decide_eq_false hpt] at HN2
            have hend : Hid (P (.returned (.bool false)) w7) := Lib.hid (hbad.out (by rw [okC_draw]; exact fun e => hpt e.2))
            clear hdr hpt
            go_upto_region 11 with fail
            rw [HW7.out, HQb.out]
            clear l0 l1 l2
            go_wp2_with fail
            refine HN.out.mono ?_
            rintro e w8 ⟨rfl, rfl⟩
            go_wp2_with fail
            refine HN2.out.mono ?_
            rintro e w8 ⟨rfl, rfl⟩
            go_wp2_with fail
            exact hend.out
          rw [decide_eq_true hpt] at HN2
          have HE : Hid ((∀ c ∈ r.l.take (m + 1), okC c) ∧ ShI rb (.slice (some ⟨ab, ao, none⟩) rn rc) W w w7 ∧ Below w5.heap.size w5 w7) := Lib.hid ⟨HTk2.out ((okC_draw _).2 ⟨hdr, hpt⟩), HS7.out, HG7.out⟩
          clear hdr hpt
          go_upto_region 11 with fail
          rw [HW7.out, HQb.out]
          clear l0 l1 l2
          go_wp2_with fail
          refine HN.out.mono ?_
          rintro e w8 ⟨rfl, rfl⟩
          go_wp2_with fail
          refine HN2.out.mono ?_
          rintro e w8 ⟨rfl, rfl⟩
          go_wp2_with fail
          go_roundw
          case rel => exact ⟨m + 1, by go_num, by omega, HE⟩
          case measure => simp [intOf]; omega
        · obtain rfl : m = xn := by omega
          have hd2 : decide (m < m) = false := by simp
          have HE : Hid ((∀ r ∈ R.take (j + 1), RowOk W r) ∧ ShI rb (.slice (some ⟨ab, ao, none⟩) rn rc) W w wr) := Lib.hid ⟨HTk.out ⟨HWl.out, by have := HG.out.1; rw [HXl.out, List.take_length] at this; exact this⟩, HG.out.2.1⟩
          clear HG hlt2
          go_wp2_with fail
          go_roundw
          case rel => exact ⟨j + 1, by go_num, by omega, HE⟩
          case measure => simp [intOf]; omega
    · obtain rfl : j = rn := by omega
      have hd : decide (j < j) = false := by simp
      have hall : ∀ r ∈ R, RowOk W r := by have := HF.out.1; rw [HLn.out, List.take_length] at this; exact this
      have hend : Hid (P (.returned (.bool true)) wr) := Lib.hid (by
        rw [← HP.out, HD.out true (by rw [HDef.out]; exact ⟨fun _ => rfl, fun _ => ⟨HH.out, hall⟩⟩)]
        exact ⟨rfl, HF.out.2.b⟩)
      clear HF hall hlt
      go_wp2_with fail
      exact hend.out
end Go.Proofs.Ytbikehngbkfckaa.K
