/- The contract of snap's shows: are there as many rows and cells as the size says, and may each cell be? -/
import Derived.Test.YtohhlhnjopbmhaaGreatDoorMerged13
import Derived.Test.YtohhlhnjopbmhaaGreatDoorMerged11
import Derived.Test.YtohhlhnjopbmhaaGreatDoorMerged12
import Derived.Test.YtohhlhnjopbmhaaGreatDoorMerged8
namespace Go.Proofs.YtohhlhnjopbmhaaGreatDoor.K
open Go.RowKit Go.Proofs.YtohhlhnjopbmhaaGreatDoor.I

theorem okC_draw (c : Cel) : okC c ↔ DrawC c.rune c.style ∧ (0 ≤ c.part ∧ c.part ≤ 3) := by
  unfold okC DrawC
  exact ⟨fun h => ⟨⟨h.1, h.2.1⟩, h.2.2⟩, fun h => ⟨h.1.1, h.1.2, h.2⟩⟩
def RowOk (W : Int) (r : Ro) : Prop := (r.l.length : Int) = W ∧ ∀ c ∈ r.l, okC c
/-- what shows looks at, while it goes through the rows -/
structure ShI (rb : Nat) (vs : Value) (W : Int) (w wr : World) : Prop where
  b : Below rb w wr
  c6 : wr.cell? ⟨rb, 6, none⟩ = some vs
  c1 : wr.cell? ⟨rb, 1, none⟩ = some (.int .i64 W)
  s : rb < wr.heap.size
theorem ShI.below {rb : Nat} {vs : Value} {W : Int} {w wr w' : World} (h : ShI rb vs W w wr) (hb : Below wr.heap.size wr w') : ShI rb vs W w w' :=
  ⟨h.b.trans (hb.mono (Nat.le_of_lt h.s)), (hb.cell (p := ⟨rb, 6, none⟩) h.s).trans h.c6, (hb.cell (p := ⟨rb, 1, none⟩) h.s).trans h.c1, Nat.lt_of_lt_of_le h.s hb.size⟩
set_option maxRecDepth 100000 in
set_option maxHeartbeats 16000000 in
theorem shows_any (s : Sn) (ra : Option Addr) (rn rc : Nat) (ga : Option Addr) (gn gc : Nat) (w : World) (hI : RowsL .i32 [] ra rn rc s.R w) (hr : ∀ r ∈ s.R, AllC Rng r.l) (hl : ∀ r ∈ s.R, r.l.length ≤ 1000000) :
    Calls Tryz.prog 33 #[.agg (snA s ra rn rc ga gn gc)] w fun e w' => e = .returned (.bool (decide (Shows s))) ∧ Below w.heap.size w w' := by
  obtain ⟨k, W, h, x, y, t, R, n, c, B⟩ := s
  simp only at hI hr hl
  obtain ⟨rb, hrb⟩ : ∃ rb, w.heap.size = rb := ⟨_, rfl⟩
  rw [hrb]
  obtain ⟨D, hD⟩ : ∃ D, decide (Shows ⟨k, W, h, x, y, t, R, n, c, B⟩) = D := ⟨_, rfl⟩
  rw [hD]
  have hdef : Shows ⟨k, W, h, x, y, t, R, n, c, B⟩ ↔ (R.length : Int) = h ∧ ∀ r ∈ R, RowOk W r := Iff.rfl
  obtain ⟨P, hP⟩ : ∃ P : Ending → World → Prop, (fun e w' => e = .returned (.bool D) ∧ Below rb w w') = P := ⟨_, rfl⟩
  rw [hP]
  have HP := Lib.hid hP
  have HD : Hid (∀ b, (Shows ⟨k, W, h, x, y, t, R, n, c, B⟩ ↔ b = true) → D = b) := Lib.hid (fun b hb => by rw [← hD]; cases b <;> simp_all)
  have HDef := Lib.hid hdef
  have hlen := hI.len
  have HLn := Lib.hid hlen
  have HRb := Lib.hid hrb
  have hex := hI.ex
  have HI := Lib.hid hex
  have HRg := Lib.hid hr
  have HLl := Lib.hid hl
  unfold snA
  simp only
  obtain ⟨w1, hw1⟩ : ∃ w1, w.alloc (.cells #[.int .i64 k, .int .i64 W, .int .i64 h, .int .i64 x, .int .i64 y, .string t, .slice ra rn rc, .int .i64 n, .int .i64 c, .slice ga gn gc] 25) = w1 := ⟨_, rfl⟩
  have hb1 : Below rb w w1 := by rw [← hw1, ← hrb]; exact (Below.refl _ _).alloc (Nat.le_refl _) _
  have hk1 : w1.heap[rb]? = some (.cells #[.int .i64 k, .int .i64 W, .int .i64 h, .int .i64 x, .int .i64 y, .string t, .slice ra rn rc, .int .i64 n, .int .i64 c, .slice ga gn gc] 25 (0, 0)) := by rw [← hw1, ← hrb]; exact heap_alloc_new w _
  have c6 : w1.cell? ⟨rb, 6, none⟩ = some (.slice ra rn rc) := by rw [cell_block hk1]; rfl
  have c1 : w1.cell? ⟨rb, 1, none⟩ = some (.int .i64 W) := by rw [cell_block hk1]; rfl
  have c2 : w1.cell? ⟨rb, 2, none⟩ = some (.int .i64 h) := by rw [cell_block hk1]; rfl
  have HS1 : Hid (ShI rb (.slice ra rn rc) W w w1) := Lib.hid ⟨hb1, c6, c1, (Array.getElem?_eq_some_iff.1 hk1).1⟩
  have HW1 := Lib.hid hw1
  have hnI : (rn : Int) ≤ 9223372036854775807 := by obtain ⟨vs, h1, -⟩ := hex; have h2 := h1.fit; have h3 := h1.top; omega
  clear hP hD hdef hI hr hl hex hb1 hk1 hw1 hrb
  by_cases hH : (rn : Int) = h
  rotate_left
  · have q : ((rn : Int) != h) = true := by rw [bne_iff_ne]; exact hH
    have hend : Hid (P (.returned (.bool false)) w1) := Lib.hid (by
      rw [← HP.out, HD.out false (by rw [HDef.out, ← hlen]; exact ⟨fun e => absurd e.1 hH, fun e => by cases e⟩)]
      exact ⟨rfl, HS1.out.b⟩)
    clear hH hlen
    go_enter Tryz.func33, Tryz.ntmps33
    go_upto_region 1 with fail
    rw [HW1.out, HRb.out]
    go_wp2_with fail
    exact hend.out
  have q : ((rn : Int) != h) = false := by rw [bne_eq_false_iff_eq]; exact hH
  have HH : Hid ((R.length : Int) = h) := Lib.hid (by rw [← hlen]; exact hH)
  clear hH hlen
  go_enter Tryz.func33, Tryz.ntmps33
  go_upto_region 1 with fail
  rw [HW1.out, HRb.out]
  go_wp2_with fail
  clear c6 c1 c2 q
  go_loopw [16] (fun i wr => ∃ j : Nat, i = .int .i64 (j : Int) ∧ j ≤ rn ∧ Hid ((∀ r ∈ R.take j, RowOk W r) ∧ ShI rb (.slice ra rn rc) W w wr)) (fun i _ => rn - (intOf i).toNat)
  case atStart => exact ⟨0, rfl, Nat.zero_le _, Lib.hid ⟨by simp, HS1.out⟩⟩
  case round =>
    obtain ⟨j, rfl, hj, HF⟩ := hrel
    by_cases hlt : j < rn
    · have hd : decide (j < rn) = true := decide_eq_true hlt
      have hjI : (j : Int) < rn := by omega
      have hjl : j < R.length := by rw [← HLn.out]; exact hlt
      obtain ⟨us0, hin, hrv, -⟩ := HI.out
      have hju : j < us0.length := by rw [hrv.1]; exact hjl
      obtain ⟨ab, ao, rfl, hab, hAt⟩ := hin.at_.resolve_left (by intro e; rw [e] at hju; simp at hju)
      have hat := hAt j us0[j] (List.getElem?_eq_getElem hju)
      have hrj := hrv.2 j us0[j] R[j] (List.getElem?_eq_getElem hju) (List.getElem?_eq_getElem hjl)
      have htk := take_all (RowOk W) R j hjl HF.out.1
      have hrg := HRg.out R[j] (List.getElem_mem hjl)
      have hll := HLl.out R[j] (List.getElem_mem hjl)
      have hmem := List.getElem_mem hjl
      obtain ⟨⟨xa, xn, xc, xb⟩, hu⟩ : ∃ u, us0[j] = u := ⟨_, rfl⟩
      obtain ⟨r, hre⟩ : ∃ r, R[j] = r := ⟨_, rfl⟩
      rw [hu] at hat hrj
      rw [hre] at hrj htk hrg hll hmem
      unfold Rv.val at hrj
      simp only at hrj hat
      obtain ⟨hxb, hcl, hnl, hft, htp, hxl⟩ := hrj.of
      have hab' : ab < rb := by rw [← HRb.out]; exact hab
      have k0 : wr.cell? ⟨ab, ao + j * 2, none⟩ = some (.slice xa xn xc) := (HF.out.2.b.cell (p := ⟨ab, ao + j * 2, none⟩) hab').trans hat.1
      have k1 : wr.cell? ⟨ab, ao + j * 2 + 1, none⟩ = some (.bool xb) := (HF.out.2.b.cell (p := ⟨ab, ao + j * 2 + 1, none⟩) hab').trans hat.2
      obtain ⟨gb, hgb⟩ : ∃ gb, wr.heap.size = gb := ⟨_, rfl⟩
      obtain ⟨w5, hw5⟩ : ∃ w5, wr.alloc (.cells #[.slice xa xn xc, .bool xb] 54) = w5 := ⟨_, rfl⟩
      have hnew : w5.heap[gb]? = some (.cells #[.slice xa xn xc, .bool xb] 54 (0, 0)) := by rw [← hw5, ← hgb]; exact heap_alloc_new wr _
      have m0 : w5.cell? ⟨gb, 0, none⟩ = some (.slice xa xn xc) := by rw [cell_block hnew]; rfl
      have hb5 : Below wr.heap.size wr w5 := by rw [← hw5]; exact (Below.refl _ _).alloc (Nat.le_refl _) _
      have hs5 := HF.out.2.below hb5
      have n1 := hs5.c1
      have HW5 := Lib.hid hw5
      have HGb := Lib.hid hgb
      have HTk := Lib.hid htk
      have HS5 := Lib.hid hs5
      have HCl := Lib.hid hcl
      have HRg5 := Lib.hid hrg
      have HMem := Lib.hid hmem
      have HXl := Lib.hid hxl
      have hxI : (xn : Int) ≤ 1000000 := by omega
      have hgs : gb < w5.heap.size := (Array.getElem?_eq_some_iff.1 hnew).1
      have HGs := Lib.hid hgs
      clear hjl hin hrv hju hAt hat hrj htk hu hre hcl hnl hft htp hxl hxb hab hgb hw5 hnew hb5 hs5 hrg hll hmem hab' HF hgs
      by_cases hWl : (xn : Int) = W
      rotate_left
      · have q : ((xn : Int) != W) = true := by rw [bne_iff_ne]; exact hWl
        have hend : Hid (P (.returned (.bool false)) w5) := Lib.hid (by
          rw [← HP.out, HD.out false (by rw [HDef.out]; exact ⟨fun e => absurd (e.2 _ HMem.out).1 (by rw [← HXl.out]; exact hWl), fun e => by cases e⟩)]
          exact ⟨rfl, HS5.out.b⟩)
        clear hWl
        go_upto_region 6 with fail
        rw [HW5.out, HGb.out]
        clear k0 k1
        go_wp2_with fail
        exact hend.out
      have q : ((xn : Int) != W) = false := by rw [bne_eq_false_iff_eq]; exact hWl
      have HWl : Hid ((r.l.length : Int) = W) := Lib.hid (by rw [← HXl.out]; exact hWl)
      clear hWl
      go_upto_region 6 with fail
      rw [HW5.out, HGb.out]
      clear k0 k1
      go_wp2_with fail
      clear m0 n1 q
      go_loopw [29] (fun i wr => ∃ k : Nat, i = .int .i64 (k : Int) ∧ k ≤ xn ∧ Hid ((∀ c ∈ r.l.take k, okC c) ∧ ShI rb (.slice (some ⟨ab, ao, none⟩) rn rc) W w wr ∧ Below w5.heap.size w5 wr)) (fun i _ => xn - (intOf i).toNat)
      case atStart => exact ⟨0, rfl, Nat.zero_le _, Lib.hid ⟨by simp, HS5.out, Below.refl _ _⟩⟩
      case round =>
        obtain ⟨m, rfl, hm, HG⟩ := hrel
        by_cases hlt2 : m < xn
        · have hd2 : decide (m < xn) = true := decide_eq_true hlt2
          have hmI : (m : Int) < xn := by omega
          have hml : m < r.l.length := by rw [← HXl.out]; exact hlt2
          obtain ⟨cb, co, rfl, hcb, hCt⟩ := HCl.out.at_.resolve_left (by intro e; rw [e] at hml; simp at hml)
          have hct := hCt m r.l[m] (List.getElem?_eq_getElem hml)
          have htk2 := take_all okC r.l m hml HG.out.1
          have hcg := HRg5.out r.l[m] (List.getElem_mem hml)
          have hmem2 := List.getElem_mem hml
          obtain ⟨⟨x1, x2, x3⟩, hcc⟩ : ∃ c, r.l[m] = c := ⟨_, rfl⟩
          rw [hcc] at hct htk2 hcg hmem2
          have hcb' : cb < rb := by rw [← HRb.out]; exact hcb
          have l0 : wr.cell? ⟨cb, co + m * 3, none⟩ = some (.int .i32 x1) := (HG.out.2.1.b.cell (p := ⟨cb, co + m * 3, none⟩) hcb').trans hct.c0
          have l1 : wr.cell? ⟨cb, co + m * 3 + 1, none⟩ = some (.int .i64 x2) := (HG.out.2.1.b.cell (p := ⟨cb, co + m * 3 + 1, none⟩) hcb').trans hct.c1
          have l2 : wr.cell? ⟨cb, co + m * 3 + 2, none⟩ = some (.int .i64 x3) := (HG.out.2.1.b.cell (p := ⟨cb, co + m * 3 + 2, none⟩) hcb').trans hct.c2
          obtain ⟨qb, hqb⟩ : ∃ qb, wr.heap.size = qb := ⟨_, rfl⟩
          obtain ⟨w7, hw7⟩ : ∃ w7, wr.alloc (.cells #[.int .i32 x1, .int .i64 x2, .int .i64 x3] 112) = w7 := ⟨_, rfl⟩
          have hnew : w7.heap[qb]? = some (.cells #[.int .i32 x1, .int .i64 x2, .int .i64 x3] 112 (0, 0)) := by rw [← hw7, ← hqb]; exact heap_alloc_new wr _
          have p0 : w7.cell? ⟨qb, 0, none⟩ = some (.int .i32 x1) := by rw [cell_block hnew]; rfl
          have p1 : w7.cell? ⟨qb, 1, none⟩ = some (.int .i64 x2) := by rw [cell_block hnew]; rfl
          have p2 : w7.cell? ⟨qb, 2, none⟩ = some (.int .i64 x3) := by rw [cell_block hnew]; rfl
          have hb7 : Below wr.heap.size wr w7 := by rw [← hw7]; exact (Below.refl _ _).alloc (Nat.le_refl _) _
          have hs7 := HG.out.2.1.below hb7
          have hg7 := HG.out.2.2.trans (hb7.mono HG.out.2.2.size)
          have HN := Lib.hid (drawable_any x1 x2 hcg w7)
          have HN2 := Lib.hid (within_any x3 0 3 w7)
          have HW7 := Lib.hid hw7
          have HQb := Lib.hid hqb
          have HTk2 := Lib.hid htk2
          have HS7 := Lib.hid hs7
          have HG7 := Lib.hid hg7
          have HMem2 := Lib.hid hmem2
          have hbad : Hid (¬ okC ⟨x1, x2, x3⟩ → P (.returned (.bool false)) w7) := Lib.hid (fun hno => by
            rw [← HP.out, HD.out false (by rw [HDef.out]; exact ⟨fun e => absurd ((e.2 _ HMem.out).2 _ HMem2.out) hno, fun e => by cases e⟩)]
            exact ⟨rfl, HS7.out.b⟩)
          clear hml hCt hct htk2 hcg hcc hcb hcb' hqb hw7 hnew hb7 hs7 hg7 hmem2 HG
          by_cases hdr : DrawC x1 x2
          rotate_left
          · rw [decide_eq_false hdr] at HN
            have hend : Hid (P (.returned (.bool false)) w7) := Lib.hid (hbad.out (by rw [okC_draw]; exact fun e => hdr e.1))
            clear hdr
            go_upto_region 11 with fail
            rw [HW7.out, HQb.out]
            clear l0 l1 l2
            go_wp2_with fail
            refine HN.out.mono ?_
            rintro e w8 ⟨rfl, rfl⟩
            go_wp2_with fail
            exact hend.out
          rw [decide_eq_true hdr] at HN
          by_cases hpt : 0 ≤ x3 ∧ x3 ≤ 3
          rotate_left
          · rw [decide_eq_false hpt] at HN2
            have hend : Hid (P (.returned (.bool false)) w7) := Lib.hid (hbad.out (by rw [okC_draw]; exact fun e => hpt e.2))
            clear hdr hpt
            go_upto_region 11 with fail
            rw [HW7.out, HQb.out]
            clear l0 l1 l2
            go_wp2_with fail
            refine HN.out.mono ?_
            rintro e w8 ⟨rfl, rfl⟩
            go_wp2_with fail
            refine HN2.out.mono ?_
            rintro e w8 ⟨rfl, rfl⟩
            go_wp2_with fail
            exact hend.out
          rw [decide_eq_true hpt] at HN2
          have HE : Hid ((∀ c ∈ r.l.take (m + 1), okC c) ∧ ShI rb (.slice (some ⟨ab, ao, none⟩) rn rc) W w w7 ∧ Below w5.heap.size w5 w7) := Lib.hid ⟨HTk2.out ((okC_draw _).2 ⟨hdr, hpt⟩), HS7.out, HG7.out⟩
          clear hdr hpt
          go_upto_region 11 with fail
          rw [HW7.out, HQb.out]
          clear l0 l1 l2
          go_wp2_with fail
          refine HN.out.mono ?_
          rintro e w8 ⟨rfl, rfl⟩
          go_wp2_with fail
          refine HN2.out.mono ?_
          rintro e w8 ⟨rfl, rfl⟩
          go_wp2_with fail
          go_roundw
          case rel => exact ⟨m + 1, by go_num, by omega, HE⟩
          case measure => simp [intOf]; omega
        · obtain rfl : m = xn := by omega
          have hd2 : decide (m < m) = false := by simp
          have HE : Hid ((∀ r ∈ R.take (j + 1), RowOk W r) ∧ ShI rb (.slice (some ⟨ab, ao, none⟩) rn rc) W w wr) := Lib.hid ⟨HTk.out ⟨HWl.out, by have := HG.out.1; rw [HXl.out, List.take_length] at this; exact this⟩, HG.out.2.1⟩
          clear HG hlt2
          go_wp2_with fail
          go_roundw
          case rel => exact ⟨j + 1, by go_num, by omega, HE⟩
          case measure => simp [intOf]; omega
    · obtain rfl : j = rn := by omega
      have hd : decide (j < j) = false := by simp
      have hall : ∀ r ∈ R, RowOk W r := by have := HF.out.1; rw [HLn.out, List.take_length] at this; exact this
      have hend : Hid (P (.returned (.bool true)) wr) := Lib.hid (by
        rw [← HP.out, HD.out true (by rw [HDef.out]; exact ⟨fun _ => rfl, fun _ => ⟨HH.out, hall⟩⟩)]
        exact ⟨rfl, HF.out.2.b⟩)
      clear HF hall hlt
      go_wp2_with fail
      exact hend.out
end Go.Proofs.YtohhlhnjopbmhaaGreatDoor.K

/- The contract of slices.Equal at glyphs. -/
namespace Go.Proofs.YtohhlhnjopbmhaaGreatDoor.K
open Go.RowKit Go.Proofs.YtohhlhnjopbmhaaGreatDoor.I

set_option maxRecDepth 100000 in
set_option maxHeartbeats 8000000 in
theorem equalG_any (a1 : Option Addr) (n1 c1 : Nat) (l1 : List (Int × Int)) (a2 : Option Addr) (n2 c2 : Nat) (l2 : List (Int × Int)) (w : World) (h1 : PairsIn .i32 a1 n1 c1 l1 w) (h2 : PairsIn .i32 a2 n2 c2 l2 w) (hn : n1 ≤ 1000000) (hn2 : n2 ≤ 1000000) :
    Calls Tryz.prog 46 #[.slice a1 n1 c1, .slice a2 n2 c2] w fun e w' => e = .returned (.bool (decide (l1 = l2))) ∧ Below w.heap.size w w' := by
  obtain ⟨P, hP⟩ : ∃ P : Ending → World → Prop, (fun e w' => e = .returned (.bool (decide (l1 = l2))) ∧ Below w.heap.size w w') = P := ⟨_, rfl⟩
  rw [hP]
  have HP := Lib.hid hP
  have HL1 := Lib.hid h1.len
  have HL2 := Lib.hid h2.len
  have H1 := Lib.hid h1
  have H2 := Lib.hid h2
  have hnI : (n1 : Int) ≤ 1000000 := by omega
  clear hP h1 h2
  by_cases hne : n1 = n2
  · subst hne
    have q0 : ((n1 : Int) != (n1 : Int)) = false := by simp
    go_enter Tryz.func46, Tryz.ntmps46
    go_wp2_with fail
    go_loopw [13] (fun i wr => ∃ j : Nat, i = .int .i64 (j : Int) ∧ j ≤ n1 ∧ Hid (l1.take j = l2.take j ∧ Below w.heap.size w wr)) (fun i _ => n1 - (intOf i).toNat)
    case atStart => exact ⟨0, rfl, Nat.zero_le _, Lib.hid ⟨rfl, Below.refl _ _⟩⟩
    case round =>
      obtain ⟨j, rfl, hj, HF⟩ := hrel
      by_cases hlt : j < n1
      · have hd : decide (j < n1) = true := decide_eq_true hlt
        have hjI : (j : Int) < n1 := by omega
        have hj1 : j < l1.length := by rw [← HL1.out]; exact hlt
        have hj2 : j < l2.length := by rw [← HL2.out]; exact hlt
        obtain ⟨b1, o1, rfl, hb1, hA1⟩ := H1.out.at_.resolve_left (by intro e; rw [e] at hj1; simp at hj1)
        obtain ⟨b2, o2, rfl, hb2, hA2⟩ := H2.out.at_.resolve_left (by intro e; rw [e] at hj2; simp at hj2)
        have hat1 := hA1 j l1[j] (List.getElem?_eq_getElem hj1)
        have hat2 := hA2 j l2[j] (List.getElem?_eq_getElem hj2)
        have t1 := List.take_succ_eq_append_getElem hj1
        have t2 := List.take_succ_eq_append_getElem hj2
        have ne : l1[j] ≠ l2[j] → l1 ≠ l2 := fun hh e => hh (by subst e; rfl)
        obtain ⟨⟨x1, s1⟩, e1⟩ : ∃ g, l1[j] = g := ⟨_, rfl⟩
        obtain ⟨⟨x2, s2⟩, e2⟩ : ∃ g, l2[j] = g := ⟨_, rfl⟩
        rw [e1] at hat1 t1 ne
        rw [e2] at hat2 t2 ne
        have k0 : wr.cell? ⟨b1, o1 + j * 2, none⟩ = some (.int .i32 x1) := (HF.out.2.cell (p := ⟨b1, o1 + j * 2, none⟩) hb1).trans hat1.1
        have k1 : wr.cell? ⟨b1, o1 + j * 2 + 1, none⟩ = some (.int .i64 s1) := (HF.out.2.cell (p := ⟨b1, o1 + j * 2 + 1, none⟩) hb1).trans hat1.2
        have k2 : wr.cell? ⟨b2, o2 + j * 2, none⟩ = some (.int .i32 x2) := (HF.out.2.cell (p := ⟨b2, o2 + j * 2, none⟩) hb2).trans hat2.1
        have k3 : wr.cell? ⟨b2, o2 + j * 2 + 1, none⟩ = some (.int .i64 s2) := (HF.out.2.cell (p := ⟨b2, o2 + j * 2 + 1, none⟩) hb2).trans hat2.2
        have HB5 : Hid (Below w.heap.size w wr) := Lib.hid HF.out.2
        have HT : Hid ((x1, s1) = (x2, s2) → l1.take (j + 1) = l2.take (j + 1)) := Lib.hid (fun e => by rw [t1, t2, HF.out.1, e])
        have HNe := Lib.hid ne
        clear hj1 hj2 hA1 hA2 hat1 hat2 t1 t2 ne e1 e2 hb1 hb2 HF
        go_upto_region 6 with fail
        have z0 := fun d os => cell_regrown k0 d os
        have z1' := fun d os => cell_regrown k1 d os
        have z2' := fun d os => cell_regrown k2 d os
        have z3 := fun d os => cell_regrown k3 d os
        clear k0 k1 k2 k3
        by_cases hx : x1 = x2
        · subst hx
          by_cases hs : s1 = s2
          · subst hs
            refine wp_region_quiet_below (by kernel_rfl) (by kernel_rfl) ?_
            repeat (go_big_quiet_step (fail))
            refine wpQuiet_nil ?_
            intro _ hw'
            obtain ⟨⟨dq, osq⟩, hw''⟩ := hw'
            have HE2 : Hid (Below w.heap.size w (Go.Sort.grow (redrawn wr dq) osq)) := Lib.hid (HB5.out.trans ((below_regrown _ _ _).mono HB5.out.size))
            rw [hw'']
            simp only
            obtain ⟨w9, hw9⟩ : ∃ w9, Go.Sort.grow (redrawn wr dq) osq = w9 := ⟨_, rfl⟩
            rw [hw9] at HE2 ⊢
            clear hw'' hw9 z0 z1' z2' z3
            have HE : Hid (l1.take (j + 1) = l2.take (j + 1) ∧ Below w.heap.size w w9) := Lib.hid ⟨HT.out rfl, HE2.out⟩
            go_wp2_with fail
            go_roundw
            case rel => exact ⟨j + 1, by go_num, by omega, HE⟩
            case measure => simp [intOf]; omega
          · refine wp_region_quiet_below (by kernel_rfl) (by kernel_rfl) ?_
            repeat (go_big_quiet_step (fail))
            refine wpQuiet_nil ?_
            intro _ hw'
            obtain ⟨⟨dq, osq⟩, hw''⟩ := hw'
            have HE2 : Hid (Below w.heap.size w (Go.Sort.grow (redrawn wr dq) osq)) := Lib.hid (HB5.out.trans ((below_regrown _ _ _).mono HB5.out.size))
            rw [hw'']
            simp only
            obtain ⟨w9, hw9⟩ : ∃ w9, Go.Sort.grow (redrawn wr dq) osq = w9 := ⟨_, rfl⟩
            rw [hw9] at HE2 ⊢
            clear hw'' hw9 z0 z1' z2' z3
            have hend : Hid (P (.returned (.bool false)) w9) := Lib.hid (by rw [← HP.out, decide_eq_false (HNe.out (fun e => hs (congrArg Prod.snd e)))]; exact ⟨rfl, HE2.out⟩)
            clear hs
            go_wp2_with fail
            exact hend.out
        · refine wp_region_quiet_below (by kernel_rfl) (by kernel_rfl) ?_
          repeat (go_big_quiet_step (fail))
          refine wpQuiet_nil ?_
          intro _ hw'
          obtain ⟨⟨dq, osq⟩, hw''⟩ := hw'
          have HE2 : Hid (Below w.heap.size w (Go.Sort.grow (redrawn wr dq) osq)) := Lib.hid (HB5.out.trans ((below_regrown _ _ _).mono HB5.out.size))
          rw [hw'']
          simp only
          obtain ⟨w9, hw9⟩ : ∃ w9, Go.Sort.grow (redrawn wr dq) osq = w9 := ⟨_, rfl⟩
          rw [hw9] at HE2 ⊢
          clear hw'' hw9 z0 z1' z2' z3
          have hend : Hid (P (.returned (.bool false)) w9) := Lib.hid (by rw [← HP.out, decide_eq_false (HNe.out (fun e => hx (congrArg Prod.fst e)))]; exact ⟨rfl, HE2.out⟩)
          clear hx
          go_wp2_with fail
          exact hend.out
      · obtain rfl : j = n1 := by omega
        have hd : decide (j < j) = false := by simp
        have he : l1 = l2 := by
          have h := HF.out.1
          rw [List.take_of_length_le (by rw [HL1.out]; exact Nat.le_refl _), List.take_of_length_le (by rw [HL2.out]; exact Nat.le_refl _)] at h
          exact h
        have hend : Hid (P (.returned (.bool true)) wr) := Lib.hid (by rw [← HP.out, decide_eq_true he]; exact ⟨rfl, HF.out.2⟩)
        clear he HF hlt
        go_wp2_with fail
        exact hend.out
  · have q0 : ((n1 : Int) != (n2 : Int)) = true := by rw [bne_iff_ne]; omega
    have hend : Hid (P (.returned (.bool false)) w) := Lib.hid (by
      rw [← HP.out, decide_eq_false (fun e => hne (by rw [HL1.out, HL2.out, e]))]
      exact ⟨rfl, Below.refl _ _⟩)
    clear hne
    go_enter Tryz.func46, Tryz.ntmps46
    go_wp2_with fail
    exact hend.out
end Go.Proofs.YtohhlhnjopbmhaaGreatDoor.K

/- The program's grid: how places count, which rows there are. -/
namespace Go.Proofs.YtohhlhnjopbmhaaGreatDoor.K
open Go.RowKit

theorem gnear_any (n lo hi : Int) (w : World) : Calls Tryz.prog 92 #[.int .i64 n, .int .i64 lo, .int .i64 hi] w fun e w' => e = .returned (.int .i64 (nearG n lo hi)) ∧ w = w' := by
  unfold nearG
  obtain ⟨N, hN⟩ : ∃ N, max n lo = N := ⟨_, rfl⟩
  rw [hN]
  obtain ⟨M, hM⟩ : ∃ M, min N hi = M := ⟨_, rfl⟩
  rw [hM]
  go_enter Tryz.func92, Tryz.ntmps92
  go_wp2
  go_ret
  exact ⟨rfl, rfl⟩
theorem gsize_any (n : Int) (w : World) : Calls Tryz.prog 74 #[.int .i64 n] w fun e w' => e = .returned (.int .i64 (szN n : Int)) ∧ w = w' := by
  have hs : nearG n 1 1000 = (szN n : Int) := by unfold nearG szN; omega
  have HN := Lib.hid (gnear_any n 1 1000 w)
  rw [hs] at HN
  clear hs
  go_enter Tryz.func74, Tryz.ntmps74
  go_wp2_with (go_at_call 92; refine HN.out.mono ?_; rintro e w' ⟨rfl, rfl⟩)
  go_ret
  exact ⟨rfl, rfl⟩
theorem GridAt.c0 {g q : Nat} {x : Gd} {us : List Rv} {cap : Nat} {w : World} (h : GridAt g q x us cap w) : w.cell? ⟨g, 0, none⟩ = some (.int .i64 (x.W : Int)) := by simp [World.cell?, h.gb]
theorem GridAt.c1 {g q : Nat} {x : Gd} {us : List Rv} {cap : Nat} {w : World} (h : GridAt g q x us cap w) : w.cell? ⟨g, 1, none⟩ = some (.slice (some ⟨q, 0, none⟩) us.length cap) := by simp [World.cell?, h.gb]
theorem GridAt.fr {g q : Nat} {x : Gd} {us : List Rv} {cap : Nat} {w : World} (h : GridAt g q x us cap w) (o : Nat) : w.frozen? ⟨g, o, none⟩ = false := by simp [World.frozen?, h.gb]
theorem GridAt.fit {g q : Nat} {x : Gd} {us : List Rv} {cap : Nat} {w : World} (h : GridAt g q x us cap w) : us.length ≤ cap ∧ (cap : Int) ≤ 9223372036854775807 := by
  obtain ⟨a, c, e, h1, _⟩ := h.own.shape
  cases e
  exact ⟨h1.fit, h1.top⟩
theorem GridAt.rin {g q : Nat} {x : Gd} {us : List Rv} {cap : Nat} {w : World} (h : GridAt g q x us cap w) : RvsIn (some ⟨q, 0, none⟩) us.length cap us w := by
  obtain ⟨a, c, e, h1, _⟩ := h.own.shape
  cases e
  exact h1
theorem GridAt.few {g q : Nat} {x : Gd} {us : List Rv} {cap : Nat} {w : World} (h : GridAt g q x us cap w) : 1 ≤ us.length ∧ us.length ≤ 1000 := by rw [h.ulen]; exact ⟨h.ok.h1, h.ok.h2⟩

end Go.Proofs.YtohhlhnjopbmhaaGreatDoor.K

/- The program's grid: rows that are answered; New. -/
namespace Go.Proofs.YtohhlhnjopbmhaaGreatDoor.K
open Go.RowKit

/-- rows that are answered: a slice of them, in memory of its own -/
def RowsA (L : List Nat) (rs : List Ro) (w : World) (e : Ending) (w' : World) : Prop := ∃ a n c us, e = .returned (.slice a n c) ∧ RowsL .i32 L a n c rs w' ∧ OwnV 54 w.heap.size (.slice a n c) us w' ∧ RowsV .i32 us rs w' ∧ Below w.heap.size w w'
theorem rowsA_of {L : List Nat} {base : Nat} {rs : List Ro} {w w' : World} {v : Value} {us : List Rv} (hb : w.heap.size ≤ base) (hL : ∀ p ∈ L, p < w.heap.size) (ho : OwnV 54 base v us w') (hr : RowsV .i32 us rs w') (ht : ∀ u ∈ us, TyC base u w') (hB : Below w.heap.size w w') : RowsA L rs w (.returned v) w' := by
  obtain ⟨a, c, rfl, -⟩ := ho.shape
  exact ⟨a, _, c, us, rfl, (ho.weaken hb).rowsL hr (fun u hu => Off.fresh (m := base) (fun b off e => (ht u hu b off e).1) (fun p hp => by have := hL p hp; omega)) hL, ho.weaken hb, hr, hB⟩
theorem copyDown_any {L : List Nat} {a : Option Addr} {n c : Nat} {us : List Rv} {rs : List Ro} (w : World) (h : RvsIn a n c us w) (hr : RowsV .i32 us rs w) (hl : ∀ r ∈ rs, r.l.length ≤ 1000) (hn : us.length ≤ 1000) (hL : ∀ p ∈ L, p < w.heap.size) :
    Calls Tryz.prog 79 #[.func (.func 97) #[] #[.pointer (some ⟨w.heap.size, 0, none⟩)]] (w.alloc (.cells #[.slice a n c] 22)) (RowsA L rs w) := by
  obtain ⟨its, h1, h2⟩ := its_of hr hl
  have hb1 : Below w.heap.size w (w.alloc (.cells #[.slice a n c] 22)) := (Below.refl _ _).alloc (Nat.le_refl _) _
  have hlk := looksV_new h
  have hlen : its.length = us.length := by rw [← h1, List.length_map]
  refine (callsIn_wide (n := 10)).1 ((copied_in w 10 (by decide) _ _ (enters_of Tryz.func97 (by kernel_rfl) rfl) its (by omega) _ hb1 ?_).mono ?_)
  · refine down_own w 9 (by decide) _ w.heap.size a n c its (by omega) _ (by rw [h1]; exact hlk.below ((Below.refl _ _).alloc (Nat.le_refl _) _)) (fun b hb => ?_)
    have hall := hlk.all
    rw [← h1] at hall
    exact hall b (by
      unfold lookV at hb ⊢
      cases a <;> cases its <;> exact hb)
  · rintro e w' ⟨v, us', rfl, ho, hr', ht, hB⟩
    rw [h2] at hr'
    exact rowsA_of (by simp) hL ho hr' ht (hb1.trans (hB.mono (by simp)))
theorem RvsIn.sub {q n c : Nat} {us : List Rv} {w : World} (h : RvsIn (some ⟨q, 0, none⟩) n c us w) (t m : Nat) (hm : t + m ≤ n) : RvsIn (some ⟨q, t * 2, none⟩) m (c - t) ((us.take (t + m)).drop t) w := by
  have hl := h.len
  have hf := h.fit
  refine ⟨by rw [List.length_drop, List.length_take]; omega, by omega, by have := h.top; omega, ?_⟩
  rcases h.at_ with e | ⟨b, off, ha, hb, hi⟩
  · left; rw [e]; simp
  · cases ha
    refine .inr ⟨q, t * 2, rfl, hb, fun i u hu => ?_⟩
    rw [List.getElem?_drop, List.getElem?_take] at hu
    split at hu
    · have := hi (t + i) u hu
      rw [show t * 2 + i * 2 = 0 + (t + i) * 2 by omega]
      exact this
    · cases hu
set_option maxRecDepth 100000 in
set_option maxHeartbeats 4000000 in
theorem rows_any {L : List Nat} {g q : Nat} {x : Gd} {us : List Rv} {cap : Nat} (w : World) (h : GridAt g q x us cap w) (hL : ∀ p ∈ L, p < w.heap.size) :
    Calls Tryz.prog 59 #[.pointer (some ⟨g, 0, none⟩)] w (RowsA L x.rs w) := by
  have HC := Lib.hid (copyDown_any (L := L) w h.rin h.rv (fun r hr => by rw [h.ok.len r hr]; exact h.ok.w2) h.few.2 hL)
  have c1 := h.c1
  go_enter Tryz.func59, Tryz.ntmps59
  go_wp2_with fail
  refine (down_any _ _ _ w).mono ?_
  rintro e w' ⟨rfl, rfl⟩
  go_wp2_with fail
  refine HC.out.mono ?_
  rintro e w' ⟨a, n, c, us', rfl, h1, h2, h3, h4⟩
  have HF := Lib.hid (show RowsA L x.rs w (.returned (.slice a n c)) w' from ⟨a, n, c, us', rfl, h1, h2, h3, h4⟩)
  clear h1 h2 h3 h4 HC
  go_wp2_with fail
  go_ret
  exact HF.out
set_option maxRecDepth 100000 in
set_option maxHeartbeats 4000000 in
theorem gnew_any (W0 H0 : Int) (w : World) :
    Calls Tryz.prog 52 #[.int .i64 W0, .int .i64 H0] w fun e w' => ∃ g q, e = .returned (.pointer (some ⟨g, 0, none⟩)) ∧ w.heap.size ≤ g ∧ w.heap.size ≤ q ∧ Gr g q (newG W0 H0) w' ∧ Below w.heap.size w w' := by
  have hok := newG_ok W0 H0
  unfold newG at hok ⊢
  have H1 := Lib.hid (gsize_any W0 w)
  have H2 := Lib.hid (fun v => gsize_any H0 v)
  have hW1 := szN_pos W0
  have hW2 := szN_le W0
  have hH1 := szN_pos H0
  have hH2 := szN_le H0
  obtain ⟨W, hW⟩ : ∃ W, szN W0 = W := ⟨_, rfl⟩
  obtain ⟨H, hH⟩ : ∃ H, szN H0 = H := ⟨_, rfl⟩
  rw [hW] at H1 hok hW1 hW2 ⊢
  rw [hH] at H2 hok hH1 hH2 ⊢
  have hnW : nearN (W : Int) = W := by unfold nearN; omega
  have H3 := Lib.hid (rowBlank_any (W : Int) 0 w)
  rw [hnW] at H3
  have HOk := Lib.hid hok
  clear hok hW hH hnW
  go_enter Tryz.func52, Tryz.ntmps52
  go_upto_region 2 with (go_at_call 74; refine H1.out.mono ?_; rintro e w' ⟨rfl, rfl⟩)
  go_wp2_with fail
  refine H3.out.mono ?_
  rintro e w1 ⟨v1, rfl, hO1, hb1⟩
  obtain ⟨a1, c1, rfl, -⟩ := hO1.shape
  have hl1 : (blanks W 0).length = W := blanks_length _ _
  rw [hl1] at hO1 ⊢
  obtain ⟨p, hp⟩ : ∃ p, w1.heap.size = p := ⟨_, rfl⟩
  obtain ⟨w2, hw2⟩ : ∃ w2, w1.alloc (.cells #[.slice a1 W c1, .bool false] 54) = w2 := ⟨_, rfl⟩
  have hb2 : Below w1.heap.size w1 w2 := by rw [← hw2]; exact (Below.refl _ _).alloc (Nat.le_refl _) _
  have hs2 : w2.heap.size = p + 1 := by rw [← hw2, World.size_alloc, hp]
  have hc2 : ∀ j u, (vCells ⟨a1, W, c1, false⟩)[j]? = some u → w2.cell? ((⟨p, 0, none⟩ : Addr).add j) = some u := by
    intro j u hj
    have hadd : ((⟨p, 0, none⟩ : Addr).add j) = ⟨p, 0 + j, none⟩ := by unfold Addr.add; split <;> simp_all
    rw [hadd, Nat.zero_add, ← hw2, ← hp, World.cell?_alloc_new]
    simpa [vCells] using hj
  have H4 := Lib.hid (repeat_rows p 0 1 H (vCells ⟨a1, W, c1, false⟩) w2 rfl hc2 (by omega) (fun u hu => flatV_one [⟨a1, W, c1, false⟩] u (by simpa [flatV] using hu)) (by omega))
  rw [hs2] at H4
  have HO1 := Lib.hid hO1
  have HB1 := Lib.hid hb1
  have HB2 := Lib.hid hb2
  have HW2 := Lib.hid hw2
  have HPp := Lib.hid hp
  have hpw : w.heap.size ≤ p := by rw [← hp]; exact hb1.size
  clear hO1 hb1 hl1 hb2 hs2 hc2 hw2 hp H1 H3
  go_wp2_with fail
  first | rw [HW2.out, HPp.out] | rw [HW2.out]
  go_wp2_with (go_at_call 74; refine (H2.out _).mono ?_; rintro e w' ⟨rfl, rfl⟩)
  refine H4.out.mono ?_
  rintro e w3 ⟨rfl, hO3, hb3⟩
  have HO3 := Lib.hid hO3
  have HB3 := Lib.hid hb3
  have hs3 := hb3.size
  clear hO3 hb3 H4 H2
  go_wp2_with fail
  go_ret
  have hlen : (List.replicate H (blankR W 0)).length = H := List.length_replicate ..
  have hB13 : Below w.heap.size w w3 := (HB1.out.trans (HB2.out.mono HB1.out.size)).trans (HB3.out.mono (by omega))
  have hal : Below w3.heap.size w3 (w3.alloc (.cells #[.int .i64 (W : Int), .slice (some ⟨p + 1, 0, none⟩) H H] 137)) := (Below.refl _ _).alloc (Nat.le_refl _) _
  have hO1' := HO1.out.belowAll HB2.out
  have hb3' : Below w2.heap.size w2 w3 := HB3.out.mono (by have := HB3.out.size; have := HW2.out; have := HPp.out; rw [← HW2.out, World.size_alloc, HPp.out]; omega)
  have hO1'' := (hO1'.belowAll hb3').belowAll hal
  have hrv : RowV .i32 (Rv.val ⟨a1, W, c1, false⟩) (blankR W 0) (w3.alloc (.cells #[.int .i64 (W : Int), .slice (some ⟨p + 1, 0, none⟩) H H] 137)) := by
    have h := hO1''.rowV (r := blankR W 0)
    exact h
  have hty : TyC 0 ⟨a1, W, c1, false⟩ (w3.alloc (.cells #[.int .i64 (W : Int), .slice (some ⟨p + 1, 0, none⟩) H H] 137)) := (fun b off e => ⟨Nat.zero_le _, (TyC.of (b := false) hO1'' b off e).2⟩)
  refine ⟨w3.heap.size, p + 1, rfl, hB13.size, by omega, ⟨List.replicate H ⟨a1, W, c1, false⟩, H, HOk.out, ?_, ?_, RowsV.rep hrv H, fun u hu => ?_⟩, hB13.trans (hal.mono (by have := hB13.size; omega))⟩
  · rw [List.length_replicate]; exact World.alloc_heap_new _ _
  · have h := HO3.out
    unfold OwnV
    rw [List.length_replicate, flatV_rep]
    exact (U.weaken (U.belowAll h hal) (Nat.zero_le _))
  · rw [(List.mem_replicate.1 hu).2]; exact hty
end Go.Proofs.YtohhlhnjopbmhaaGreatDoor.K
