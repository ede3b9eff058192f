/- BookStays: what is a line once stays it: the walk. -/
import Derived.Test.YtkggmcnocpgnbaaDoorBAwk
import Derived.Test.YtkggmcnocpgnbaaDoorBRows
import Derived.Lib.QuietBelow
namespace Go.Proofs.YtkggmcnocpgnbaaDoor.K
open Go.RowKit

theorem cutR_len (r : Ro) : (cutR r).l.length ≤ 40 := by show (r.l.take 40).length ≤ 40; rw [List.length_take]; omega
theorem cutR_rng {r : Ro} (h : AllC Rng r.l) : AllC Rng (cutR r).l := fun c hc => h c (List.mem_of_mem_take hc)
/-- numbers of our own in a block: the first i of them are told -/
def IntsAt (T : TypeId) (g n i : Nat) (f : Nat → Int) (w : World) : Prop := ∃ cs, w.heap[g]? = some (.cells cs T (0, 0)) ∧ cs.size = n ∧ ∀ k, k < i → cs[k]? = some (.int .i64 (f k))
theorem IntsAt.lt {T : TypeId} {g n i : Nat} {f : Nat → Int} {w : World} (h : IntsAt T g n i f w) : g < w.heap.size := by
  obtain ⟨cs, h1, -⟩ := h
  exact (Array.getElem?_eq_some_iff.1 h1).1
theorem IntsAt.moved {T : TypeId} {g n i : Nat} {f : Nat → Int} {w w' : World} (h : IntsAt T g n i f w) (hb : w'.heap[g]? = w.heap[g]?) : IntsAt T g n i f w' := by
  obtain ⟨cs, h1, h2, h3⟩ := h
  exact ⟨cs, hb.trans h1, h2, h3⟩
theorem IntsAt.set {T : TypeId} {g n i : Nat} {f : Nat → Int} {w : World} (h : IntsAt T g n i f w) (hi : i < n) : IntsAt T g n (i + 1) f (w.setCell ⟨g, i, none⟩ (.int .i64 (f i))) := by
  obtain ⟨cs, h1, h2, h3⟩ := h
  refine ⟨cs.setIfInBounds i (.int .i64 (f i)), by simp [World.setCell, Array.getElem?_modify, h1], by simp [h2], fun k hk => ?_⟩
  rw [Array.getElem?_setIfInBounds]
  by_cases e : i = k
  · subst e
    rw [if_pos rfl, if_pos (by omega)]
  · rw [if_neg e]
    exact h3 k (by omega)
theorem IntsAt.cell {T : TypeId} {g n i : Nat} {f : Nat → Int} {w : World} (h : IntsAt T g n i f w) {k : Nat} (hk : k < i) : w.cell? ⟨g, k, none⟩ = some (.int .i64 (f k)) := by
  obtain ⟨cs, h1, h2, h3⟩ := h
  rw [cell_block h1]
  exact h3 k hk
theorem IntsAt.there {T : TypeId} {g n i : Nat} {f : Nat → Int} {w : World} (h : IntsAt T g n i f w) {k : Nat} (hk : k < n) : ∃ v, w.cell? ⟨g, k, none⟩ = some v := by
  obtain ⟨cs, h1, h2, h3⟩ := h
  exact ⟨_, by rw [cell_block h1]; exact Array.getElem?_eq_getElem (by omega)⟩
theorem IntsAt.fr {T : TypeId} {g n i : Nat} {f : Nat → Int} {w : World} (h : IntsAt T g n i f w) (k : Nat) : w.frozen? ⟨g, k, none⟩ = false := by
  obtain ⟨cs, h1, -⟩ := h
  exact frozen_block h1 k
theorem info_int : (Tryd.prog.info? 3).map (fun i => (i.zero, i.size, i.bytes)) = some (some (.int .i64 0), 1, 8) := by kernel_rfl
/-- numbers that are made -/
theorem zints (n : Nat) (m : Int) (hm : m = (n : Int)) (hn : n ≤ 1000) : ∃ Z : List Value, Z.length = n ∧ ∀ w : World, (Instr.makeSlice 69 (.int .i64 m) (.int .i64 m)).run Tryd.prog w = .ok (.slice (some ⟨w.heap.size, 0, none⟩) n n) (w.alloc (.cells Z.toArray 3)) := by
  subst hm
  obtain ⟨i0, hi, hz0, hz1, hz2⟩ := info_parts info_int
  refine ⟨(madeCells (Value.int .i64 0).cells (n * 1)).toList, ?_, fun w => ?_⟩
  · simp [madeCells, Value.cells]
  · rw [run_make w 69 3 i0 _ Tryd.underlying69 hi hz0 .i64 .i64 n n (by omega) (by omega) (by rw [hz2]; omega) (by omega)]
    rw [hz1]
    simp
set_option maxRecDepth 100000 in
set_option maxHeartbeats 16000000 in
theorem stays_walk (a1 : Option Addr) (n1 c1 : Nat) (l1 : List Ro) (a2 : Option Addr) (n2 c2 : Nat) (l2 : List Ro) (w : World) (hW : W.Tab w) (hT : S.Tab w) (hA1 : RowsL .i32 [] a1 n1 c1 l1 w) (hR1 : ∀ r ∈ l1, AllC Rng r.l) (hA2 : RowsL .i32 [] a2 n2 c2 l2 w) (hR2 : ∀ r ∈ l2, AllC Rng r.l) :
    Calls Tryd.prog 7 #[.slice a1 n1 c1, .slice a2 n2 c2] w fun e w' => e = .returned (.bool true) ∧ Below w.heap.size w w' := by
  obtain ⟨rb, hrb⟩ : ∃ rb, w.heap.size = rb := ⟨_, rfl⟩
  rw [hrb]
  obtain ⟨P, hP⟩ : ∃ P : Ending → World → Prop, (fun e w' => e = .returned (.bool true) ∧ Below rb w w') = P := ⟨_, rfl⟩
  rw [hP]
  have HP := Lib.hid hP
  have HRb := Lib.hid hrb
  have HT := Lib.hid hT
  have HAw := Lib.hid (bawake_any w hW hT)
  have HHf : Hid (1 < rb) := Lib.hid (by rw [← hrb]; exact S.halfLt hT)
  have HA1 := Lib.hid hA1
  have HA2 := Lib.hid hA2
  have HR1 := Lib.hid hR1
  have HR2 := Lib.hid hR2
  clear hP hrb hW hT hA1 hA2 hR1 hR2
  go_enter Tryd.func7, Tryd.ntmps7
  go_upto_region 3 with (go_at_call 11; refine HAw.out.mono ?_; rintro e w1 ⟨rfl, hb1⟩)
  have HB1 : Hid (Below rb w w1 ∧ rb ≤ w1.heap.size) := Lib.hid ⟨by rw [← HRb.out]; exact hb1, by rw [← HRb.out]; exact hb1.size⟩
  have HN := Lib.hid (bnew_any w1)
  clear hb1 HAw
  go_wp2_with fail
  refine HN.out.mono ?_
  rintro e w2 ⟨b, rfl, hbw, hBo, hb2⟩
  have HBr : Hid (rb ≤ b) := Lib.hid (Nat.le_trans HB1.out.2 hbw)
  have HB2 : Hid (Below rb w w2 ∧ rb ≤ w2.heap.size) := Lib.hid ⟨HB1.out.1.trans (hb2.mono HB1.out.2), Nat.le_trans HB1.out.2 hb2.size⟩
  have HBo := Lib.hid hBo
  have hr := rows12_any a1 n1 c1 l1 12 w2 (HA1.out.below (by rw [HRb.out]; exact HB2.out.1)) (by decide)
  rw [show ((12 : Nat) : Int) = 12 from rfl] at hr
  have HRw := Lib.hid hr
  clear hbw hBo hb2 HN hr
  go_wp2_with fail
  refine HRw.out.mono ?_
  rintro e w3 ⟨v3, rfl, hg3, hb3⟩
  obtain ⟨rs1, hrs1⟩ : ∃ rs, (l1.take 12).map cutR = rs := ⟨_, rfl⟩
  rw [hrs1] at hg3
  obtain ⟨a3, c3, rfl⟩ := hg3.shape
  have hl1 : rs1.length ≤ 12 := by rw [← hrs1, List.length_map, List.length_take]; omega
  have hm1 : ∀ r ∈ rs1, r.l.length ≤ 1024 ∧ AllC Rng r.l := fun r hr => by
    rw [← hrs1] at hr
    obtain ⟨q, hq, rfl⟩ := List.mem_map.1 hr
    have h1 := cutR_len q
    exact ⟨by omega, cutR_rng (HR1.out q (List.mem_of_mem_take hq))⟩
  have HB3 : Hid (Below rb w w3 ∧ rb ≤ w3.heap.size) := Lib.hid ⟨HB2.out.1.trans (hb3.mono HB2.out.2), Nat.le_trans HB2.out.2 hb3.size⟩
  have hadd := badd_any a3 rs1.length c3 rs1 w3 (HBo.out.below hb3) ⟨by decide, fun l hl => by cases hl⟩ (fun g hg => by cases hg) (hg3.rowsL (fun p hp => .inl (HBo.out.lt p hp))) (fun r hr => (hm1 r hr).2) (fun r hr => (hm1 r hr).1) (by show 0 + 2 * rs1.length ≤ 800000; omega) (by omega) (S.tab_of HT.out (by rw [HRb.out]; exact HB3.out.1)) (fun hm => by have h1 := List.mem_singleton.1 hm; have h2 := HBr.out; have h3 := HHf.out; omega)
  obtain ⟨x3, hx3⟩ : ∃ x, addsB ⟨[], []⟩ rs1 = x := ⟨_, rfl⟩
  rw [hx3] at hadd
  have hok3 : BkOk x3 := by rw [← hx3]; exact addsB_ok ⟨by decide, fun l hl => by cases hl⟩ _
  have hrg3 : RngG x3.G := by rw [← hx3]; exact addsB_rng (fun g hg => by cases hg) (fun r hr => (hm1 r hr).2)
  have hct3 : x3.L.length ≤ 24 := by
    have h1 := addsB_count (x := ⟨[], []⟩) ⟨by decide, fun l hl => by cases hl⟩ rs1 (fun r hr => (hm1 r hr).1)
    rw [hx3] at h1
    have h2 : (⟨[], []⟩ : Bk).L.length = 0 := rfl
    omega
  obtain ⟨nr, hnr⟩ : ∃ n, rs1.length = n := ⟨_, rfl⟩
  rw [hnr] at hadd ⊢
  have HAdd := Lib.hid hadd
  have HOk3 := Lib.hid hok3
  have HRg3 := Lib.hid hrg3
  have HCt3 := Lib.hid hct3
  clear hrs1 hg3 hb3 hl1 hm1 hadd hx3 hok3 hrg3 hct3 hnr HRw
  go_wp2_with fail
  refine HAdd.out.mono ?_
  rintro e w4 ⟨rfl, M4, hB4, hk4, hM4⟩
  have HM4 : Hid (∀ p ∈ M4, rb ≤ p) := Lib.hid (fun p hp => by
    rcases hM4 p hp with h | h
    · rw [show p = b by simpa using h]; exact HBr.out
    · exact Nat.le_trans HB3.out.2 h)
  have HB4 : Hid (Below rb w w4 ∧ rb ≤ w4.heap.size) := Lib.hid ⟨hk4.below (fun i hi => by rw [show i = b by simpa using hi]; exact HBr.out) HB3.out.1 HB3.out.2, Nat.le_trans HB3.out.2 hk4.size⟩
  have HBo4 := Lib.hid hB4
  have HLn := Lib.hid (blen_any w4 hB4)
  obtain ⟨nl, hnl⟩ : ∃ n, x3.L.length = n := ⟨_, rfl⟩
  rw [hnl] at HLn
  have HNl := Lib.hid hnl
  have hnlI : (nl : Int) ≤ 24 := by have := HCt3.out; omega
  clear hB4 hk4 hM4 hnl HAdd HBo
  go_wp2_with fail
  refine HLn.out.mono ?_
  rintro e w5 ⟨rfl, rfl⟩
  obtain ⟨Z1, hZ1, mk1⟩ := zints (nl + 1) ((nl : Int) + 1) (by omega) (by omega)
  obtain ⟨Z2, hZ2, mk2⟩ := zints nl (nl : Int) rfl (by omega)
  obtain ⟨gA, hgA⟩ : ∃ g, w4.heap.size = g := ⟨_, rfl⟩
  obtain ⟨w6, hw6⟩ : ∃ w6, (w4.alloc (.cells Z1.toArray 3)).alloc (.cells Z2.toArray 3) = w6 := ⟨_, rfl⟩
  have hb6 : Below w4.heap.size w4 w6 := by rw [← hw6]; exact ((Below.refl _ _).alloc (Nat.le_refl _) _).alloc (by rw [World.size_alloc]; omega) _
  have hIA : IntsAt 3 gA (nl + 1) 0 (fun k => ((chainB (x3.L.take k) : Nat) : Int)) w6 := by
    refine ⟨Z1.toArray, ?_, by simp [hZ1], fun k hk => absurd hk (Nat.not_lt_zero _)⟩
    rw [← hw6, Below.heap_alloc _ _ _ (by rw [World.size_alloc]; omega), ← hgA]
    exact heap_alloc_new w4 _
  have hIB : IntsAt 3 (gA + 1) nl 0 (fun k => (((x3.L[k]?.getD []).length : Nat) : Int)) w6 := by
    refine ⟨Z2.toArray, ?_, by simp [hZ2], fun k hk => absurd hk (Nat.not_lt_zero _)⟩
    have h := heap_alloc_new (w4.alloc (.cells Z1.toArray 3)) (.cells Z2.toArray 3)
    rw [World.size_alloc, hgA, hw6] at h
    exact h
  have H6 := Lib.hid (show Below w4.heap.size w4 w6 ∧ IntsAt 3 gA (nl + 1) 0 (fun k => ((chainB (x3.L.take k) : Nat) : Int)) w6 ∧ IntsAt 3 (gA + 1) nl 0 (fun k => (((x3.L[k]?.getD []).length : Nat) : Int)) w6 from ⟨hb6, hIA, hIB⟩)
  have HW6 := Lib.hid hw6
  have HGA := Lib.hid hgA
  clear hZ1 hZ2 hgA hw6 hb6 hIA hIB HLn
  go_upto_region 10 with fail
  rw [HW6.out, HGA.out]
  clear mk1 mk2
  go_wp2_with fail
  go_loopw [35] (fun i wr => ∃ j : Nat, i = .int .i64 (j : Int) ∧ j ≤ nl + 1 ∧ Hid (Below w4.heap.size w4 wr ∧ IntsAt 3 gA (nl + 1) j (fun k => ((chainB (x3.L.take k) : Nat) : Int)) wr ∧ IntsAt 3 (gA + 1) nl 0 (fun k => (((x3.L[k]?.getD []).length : Nat) : Int)) wr)) (fun i _ => nl + 1 - (intOf i).toNat)
  case atStart => exact ⟨0, rfl, Nat.zero_le _, H6⟩
  case round =>
    obtain ⟨j, rfl, hj, HF⟩ := hrel
    by_cases hlt : j < nl + 1
    · have hd : decide ((j : Int) < (nl : Int) + 1) = true := decide_eq_true (by omega)
      have hd' : decide (j < nl + 1) = true := decide_eq_true hlt
      have hjI : (j : Int) < (nl : Int) + 1 := by omega
      have HC := Lib.hid (bchain_any j wr (HBo4.out.below HF.out.1) (by rw [HNl.out]; omega) (by rw [HNl.out]; omega))
      obtain ⟨v0, s0⟩ := HF.out.2.1.there hlt
      have f0 := HF.out.2.1.fr j
      obtain ⟨cj, hcj⟩ : ∃ c, chainB (x3.L.take j) = c := ⟨_, rfl⟩
      rw [hcj] at HC
      have HE : Hid (Below w4.heap.size w4 (wr.setCell ⟨gA, j, none⟩ (.int .i64 (cj : Int))) ∧ IntsAt 3 gA (nl + 1) (j + 1) (fun k => ((chainB (x3.L.take k) : Nat) : Int)) (wr.setCell ⟨gA, j, none⟩ (.int .i64 (cj : Int))) ∧ IntsAt 3 (gA + 1) nl 0 (fun k => (((x3.L[k]?.getD []).length : Nat) : Int)) (wr.setCell ⟨gA, j, none⟩ (.int .i64 (cj : Int)))) := Lib.hid (by
        rw [← hcj]
        exact ⟨HF.out.1.setCell (p := ⟨gA, j, none⟩) (by rw [HGA.out]; exact Nat.le_refl _) _, HF.out.2.1.set hlt, HF.out.2.2.moved (Below.heap_setCell _ _ _ _ (by show gA + 1 ≠ gA; omega))⟩)
      clear hcj HF hlt
      go_wp2_with fail
      refine HC.out.mono ?_
      rintro e w7 ⟨rfl, rfl⟩
      go_wp2_with fail
      go_roundw
      case rel => exact ⟨j + 1, by go_num, by omega, HE⟩
      case measure => simp [intOf]; omega
    · obtain rfl : j = nl + 1 := by omega
      have hd : decide (((nl + 1 : Nat) : Int) < (nl : Int) + 1) = false := decide_eq_false (by omega)
      have hd' : decide (nl + 1 < nl + 1) = false := by simp
      have hd2 : decide ((nl : Int) + 1 < (nl : Int) + 1) = false := by simp
      have H7 := HF
      clear HF hlt
      go_wp2_with fail
      obtain ⟨wv, hwv⟩ : ∃ wv, wv = wr := ⟨_, rfl⟩
      subst hwv
      go_loopw [46] (fun i wr => ∃ j : Nat, i = .int .i64 (j : Int) ∧ j ≤ nl ∧ Hid (Below w4.heap.size w4 wr ∧ IntsAt 3 gA (nl + 1) (nl + 1) (fun k => ((chainB (x3.L.take k) : Nat) : Int)) wr ∧ IntsAt 3 (gA + 1) nl j (fun k => (((x3.L[k]?.getD []).length : Nat) : Int)) wr)) (fun i _ => nl - (intOf i).toNat)
      case atStart => exact ⟨0, rfl, Nat.zero_le _, H7⟩
      case round =>
        clear hd hd' hd2
        obtain ⟨j, rfl, hj, HF⟩ := hrel
        by_cases hlt : j < nl
        · have hd : decide (j < nl) = true := decide_eq_true hlt
          have hjI : (j : Int) < nl := by omega
          have hjx : j < x3.L.length := by rw [HNl.out]; exact hlt
          obtain ⟨lj, hlj⟩ : ∃ l, x3.L[j]? = some l := ⟨_, List.getElem?_eq_getElem hjx⟩
          have hl := bline_any j lj wr (HBo4.out.below HF.out.1) hlj (by have := HOk3.out.l _ (List.mem_of_getElem? hlj); omega) (by rw [HNl.out]; omega)
          have HL := Lib.hid hl
          obtain ⟨ln, hln⟩ : ∃ n, lj.length = n := ⟨_, rfl⟩
          have HLn : Hid ((x3.L[j]?.getD []).length = ln) := Lib.hid (by rw [hlj]; exact hln)
          have HLn2 := Lib.hid hln
          clear hl hjx hln hlj
          go_wp2_with fail
          refine HL.out.mono ?_
          rintro e w8 ⟨v8, rfl, hq8, hb8⟩
          obtain ⟨a8, c8, rfl, -⟩ := hq8.shape
          rw [HLn2.out]
          have h8 : Below w4.heap.size w4 w8 ∧ IntsAt 3 gA (nl + 1) (nl + 1) (fun k => ((chainB (x3.L.take k) : Nat) : Int)) w8 ∧ IntsAt 3 (gA + 1) nl j (fun k => (((x3.L[k]?.getD []).length : Nat) : Int)) w8 := ⟨HF.out.1.trans (hb8.mono HF.out.1.size), HF.out.2.1.moved (hb8.block _ HF.out.2.1.lt), HF.out.2.2.moved (hb8.block _ HF.out.2.2.lt)⟩
          obtain ⟨v0, s0⟩ := h8.2.2.there hlt
          have f0 := h8.2.2.fr j
          have HE : Hid (Below w4.heap.size w4 (w8.setCell ⟨gA + 1, j, none⟩ (.int .i64 (ln : Int))) ∧ IntsAt 3 gA (nl + 1) (nl + 1) (fun k => ((chainB (x3.L.take k) : Nat) : Int)) (w8.setCell ⟨gA + 1, j, none⟩ (.int .i64 (ln : Int))) ∧ IntsAt 3 (gA + 1) nl (j + 1) (fun k => (((x3.L[k]?.getD []).length : Nat) : Int)) (w8.setCell ⟨gA + 1, j, none⟩ (.int .i64 (ln : Int)))) := Lib.hid (by
            rw [← HLn.out]
            exact ⟨h8.1.setCell (p := ⟨gA + 1, j, none⟩) (by rw [HGA.out]; show gA ≤ gA + 1; omega) _, h8.2.1.moved (Below.heap_setCell _ _ _ _ (by show gA ≠ gA + 1; omega)), h8.2.2.set hlt⟩)
          clear hq8 hb8 h8 HL HF hlt
          go_wp2_with fail
          go_roundw
          case rel => exact ⟨_, _, _, _, _, _, _, _, _, _, _, _, _, _, _, _, _, _, ⟨j + 1, by go_num, by omega, HE⟩, rfl⟩
          case measure => simp [intOf]; omega
        · obtain rfl : j = nl := by omega
          have hd : decide (j < j) = false := by simp
          have H8 := HF
          have HB8 : Hid (Below rb w wr ∧ rb ≤ wr.heap.size) := Lib.hid ⟨HB4.out.1.trans (HF.out.1.mono HB4.out.2), Nat.le_trans HB4.out.2 HF.out.1.size⟩
          have hr := rows12_any a2 n2 c2 l2 12 wr (HA2.out.below (by rw [HRb.out]; exact HB8.out.1)) (by decide)
          rw [show ((12 : Nat) : Int) = 12 from rfl] at hr
          have HRw := Lib.hid hr
          clear hr HF hlt
          go_wp2_with fail
          refine HRw.out.mono ?_
          rintro e w9 ⟨v9, rfl, hg9, hb9⟩
          obtain ⟨rs2, hrs2⟩ : ∃ rs, (l2.take 12).map cutR = rs := ⟨_, rfl⟩
          rw [hrs2] at hg9
          obtain ⟨a9, c9, rfl⟩ := hg9.shape
          have hl2 : rs2.length ≤ 12 := by rw [← hrs2, List.length_map, List.length_take]; omega
          have hm2 : ∀ r ∈ rs2, r.l.length ≤ 1024 ∧ AllC Rng r.l := fun r hr => by
            rw [← hrs2] at hr
            obtain ⟨q, hq, rfl⟩ := List.mem_map.1 hr
            have h1 := cutR_len q
            exact ⟨by omega, cutR_rng (HR2.out q (List.mem_of_mem_take hq))⟩
          have hB9 : Below rb w w9 := HB8.out.1.trans (hb9.mono HB8.out.2)
          have hS9 : rb ≤ w9.heap.size := Nat.le_trans HB8.out.2 hb9.size
          have h49 : Below w4.heap.size w4 w9 := H8.out.1.trans (hb9.mono H8.out.1.size)
          have hadd := badd_any a9 rs2.length c9 rs2 w9 (HBo4.out.below h49) HOk3.out HRg3.out (hg9.rowsL (fun p hp => .inl (Nat.lt_of_lt_of_le (HBo4.out.lt p hp) H8.out.1.size))) (fun r hr => (hm2 r hr).2) (fun r hr => (hm2 r hr).1) (by have := HCt3.out; omega) (by omega) (S.tab_of HT.out (by rw [HRb.out]; exact hB9)) (fun hm => by have h2 := HM4.out _ hm; have h3 := HHf.out; omega)
          obtain ⟨x5, hx5⟩ : ∃ x, addsB x3 rs2 = x := ⟨_, rfl⟩
          obtain ⟨t5, ht5⟩ := addsB_pre x3 rs2
          have hct5 := addsB_count HOk3.out rs2 (fun r hr => (hm2 r hr).1)
          have hok5 := addsB_ok HOk3.out rs2
          rw [hx5] at hadd ht5 hct5 hok5
          obtain ⟨nr2, hnr2⟩ : ∃ n, rs2.length = n := ⟨_, rfl⟩
          rw [hnr2] at hadd ⊢
          have HAdd := Lib.hid hadd
          have HT5 := Lib.hid ht5
          have HCt5 : Hid (x5.L.length ≤ 48) := Lib.hid (by have := HCt3.out; omega)
          have HOk5 := Lib.hid hok5
          have HI9 : Hid (IntsAt 3 gA (j + 1) (j + 1) (fun k => ((chainB (x3.L.take k) : Nat) : Int)) w9 ∧ IntsAt 3 (gA + 1) j j (fun k => (((x3.L[k]?.getD []).length : Nat) : Int)) w9) := Lib.hid ⟨H8.out.2.1.moved (hb9.block _ H8.out.2.1.lt), H8.out.2.2.moved (hb9.block _ H8.out.2.2.lt)⟩
          have HB9 : Hid (Below rb w w9 ∧ rb ≤ w9.heap.size) := Lib.hid ⟨hB9, hS9⟩
          clear hrs2 hg9 hb9 hl2 hm2 hB9 hS9 h49 hadd hx5 ht5 hct5 hok5 hnr2 HRw
          go_wp2_with fail
          refine HAdd.out.mono ?_
          rintro e wA ⟨rfl, M5, hB5, hk5, -⟩
          have hnM : ∀ p, gA ≤ p → p ∉ M4 := fun p hp hm => by have h1 := HBo4.out.lt p hm; have h2 := HGA.out; omega
          have HIA : Hid (IntsAt 3 gA (j + 1) (j + 1) (fun k => ((chainB (x3.L.take k) : Nat) : Int)) wA ∧ IntsAt 3 (gA + 1) j j (fun k => (((x3.L[k]?.getD []).length : Nat) : Int)) wA) := Lib.hid ⟨HI9.out.1.moved (hk5.block _ HI9.out.1.lt (hnM _ (Nat.le_refl _))), HI9.out.2.moved (hk5.block _ HI9.out.2.lt (hnM _ (by omega)))⟩
          have HBA : Hid (Below rb w wA ∧ rb ≤ wA.heap.size) := Lib.hid ⟨hk5.below (fun i hi => HM4.out i hi) HB9.out.1 HB9.out.2, Nat.le_trans HB9.out.2 hk5.size⟩
          have HBo5 := Lib.hid hB5
          have HLn5 := Lib.hid (blen_any wA hB5)
          obtain ⟨n5, hn5⟩ : ∃ n, x5.L.length = n := ⟨_, rfl⟩
          rw [hn5] at HLn5
          have hn5j : j ≤ n5 := by rw [← hn5, HT5.out, List.length_append, HNl.out]; omega
          have HN5 := Lib.hid hn5
          have dA : decide (n5 < j) = false := decide_eq_false (by omega)
          clear hB5 hk5 hnM hn5 HAdd HI9 H8
          go_wp2_with fail
          refine HLn5.out.mono ?_
          rintro e wB ⟨rfl, rfl⟩
          go_wp2_with fail
          obtain ⟨wv, hwv⟩ : ∃ wv, wv = wA := ⟨_, rfl⟩
          subst hwv
          clear hd
          go_loopw [71] (fun i wr => ∃ k : Nat, i = .int .i64 (k : Int) ∧ k ≤ j + 1 ∧ Hid (Below wv.heap.size wv wr)) (fun i _ => j + 1 - (intOf i).toNat)
          case atStart => exact ⟨0, rfl, Nat.zero_le _, Lib.hid (Below.refl _ _)⟩
          case round =>
            obtain ⟨k, rfl, hk, HF⟩ := hrel
            by_cases hlt : k < j + 1
            · have hd : decide ((k : Int) < (j : Int) + 1) = true := decide_eq_true (by omega)
              have hd' : decide (k < j + 1) = true := decide_eq_true hlt
              have hkI : (k : Int) < (j : Int) + 1 := by omega
              have hcx : chainB (x5.L.take k) = chainB (x3.L.take k) := by rw [HT5.out, List.take_append_of_le_length (by rw [HNl.out]; omega)]
              obtain ⟨ck, hck⟩ : ∃ c, chainB (x3.L.take k) = c := ⟨_, rfl⟩
              have k0 : wr.cell? ⟨gA, k, none⟩ = some (.int .i64 (ck : Int)) := by rw [← hck]; exact (HIA.out.1.moved (HF.out.block _ HIA.out.1.lt)).cell hlt
              have cS : ∀ d os, Calls Tryd.prog 33 #[.pointer (some ⟨b, 0, none⟩), .int .i64 (k : Int)] (Go.Sort.grow (redrawn wr d) os) fun en w'' => en = .returned (.int .i64 (ck : Int)) ∧ ∃ p : Regrown, w'' = Go.Sort.grow (redrawn wr p.d) p.os := fun d os => by
                have hb := below_regrown wr d os
                have h := bchain_any k (Go.Sort.grow (redrawn wr d) os) ((HBo5.out.below HF.out).below hb) (by rw [HN5.out]; omega) (by have := HCt5.out; omega)
                rw [hcx, hck] at h
                exact Calls.regrown_of (h.mono (fun e w' ⟨h1, h2⟩ => ⟨h1, by subst h2; exact Below.refl _ _⟩))
              have z0 := fun d os => cell_regrown k0 d os
              have CS := Lib.hid cS
              have q1 : ((ck : Int) != (ck : Int)) = false := by simp
              clear hcx hck k0 cS
              go_upto_region 27 with fail
              refine wp_region_quiet_below (by kernel_rfl) (by kernel_rfl) ?_
              repeat (go_big_quiet_step (first | exact CS.out _ _))
              refine wpQuiet_nil ?_
              intro _ hw'
              obtain ⟨⟨dq, osq⟩, hw''⟩ := hw'
              have HE : Hid (Below wv.heap.size wv (Go.Sort.grow (redrawn wr dq) osq)) := Lib.hid (HF.out.trans ((below_regrown _ _ _).mono HF.out.size))
              rw [hw'']
              simp only
              obtain ⟨wC, hwC⟩ : ∃ wC, Go.Sort.grow (redrawn wr dq) osq = wC := ⟨_, rfl⟩
              rw [hwC] at HE ⊢
              clear hw'' hwC z0 CS hlt HF
              go_wp2
              go_roundw
              case rel => exact ⟨k + 1, by go_num, by omega, HE⟩
              case measure => simp [intOf]; omega
            · obtain rfl : k = j + 1 := by omega
              have hd : decide (((j + 1 : Nat) : Int) < (j : Int) + 1) = false := decide_eq_false (by omega)
              have hd' : decide (j + 1 < j + 1) = false := by simp
              have hd2 : decide ((j : Int) + 1 < (j : Int) + 1) = false := by simp
              have HD : Hid (Below wv.heap.size wv wr) := HF
              clear HF hlt
              go_wp2_with fail
              obtain ⟨wu, hwu⟩ : ∃ wu, wu = wr := ⟨_, rfl⟩
              subst hwu
              clear hd hd' hd2
              go_loopw [84] (fun i wr => ∃ k : Nat, i = .int .i64 (k : Int) ∧ k ≤ j ∧ Hid (Below wv.heap.size wv wr)) (fun i _ => j - (intOf i).toNat)
              case atStart => exact ⟨0, rfl, Nat.zero_le _, HD⟩
              case round =>
                obtain ⟨k, rfl, hk, HF⟩ := hrel
                by_cases hlt : k < j
                · have hd : decide (k < j) = true := decide_eq_true hlt
                  have hkI : (k : Int) < j := by omega
                  have hkx : k < x3.L.length := by rw [HNl.out]; exact hlt
                  obtain ⟨lk, hlk⟩ : ∃ l, x3.L[k]? = some l := ⟨_, List.getElem?_eq_getElem hkx⟩
                  have hlk5 : x5.L[k]? = some lk := by rw [HT5.out, List.getElem?_append_left hkx]; exact hlk
                  have hl := bline_any k lk wr (HBo5.out.below HF.out) hlk5 (by have := HOk5.out.l _ (List.mem_of_getElem? hlk5); omega) (by have := HCt5.out; omega)
                  have HL := Lib.hid hl
                  obtain ⟨ln, hln⟩ : ∃ n, lk.length = n := ⟨_, rfl⟩
                  have HSz : Hid ((((x3.L[k]?.getD []).length : Nat) : Int) = (ln : Int)) := Lib.hid (by rw [hlk]; exact congrArg Nat.cast hln)
                  have HLn2 := Lib.hid hln
                  clear hl hkx hln hlk hlk5
                  go_wp2_with fail
                  refine HL.out.mono ?_
                  rintro e w8 ⟨v8, rfl, hq8, hb8⟩
                  obtain ⟨a8, c8, rfl, -⟩ := hq8.shape
                  rw [HLn2.out]
                  have k0 : w8.cell? ⟨gA + 1, k, none⟩ = some (.int .i64 (ln : Int)) := by
                    rw [← HSz.out]
                    exact (HIA.out.2.moved ((hb8.block _ (Nat.lt_of_lt_of_le HIA.out.2.lt HF.out.size)).trans (HF.out.block _ HIA.out.2.lt))).cell hlt
                  have q1 : ((ln : Int) != (ln : Int)) = false := by simp
                  have HE : Hid (Below wv.heap.size wv w8) := Lib.hid (HF.out.trans (hb8.mono HF.out.size))
                  clear hq8 hb8 HL HF hlt
                  go_wp2_with fail
                  go_roundw
                  case rel => exact ⟨_, _, _, _, _, _, _, _, _, _, _, _, _, _, _, _, _, _, _, _, _, _, _, _, _, ⟨k + 1, by go_num, by omega, HE⟩, rfl⟩
                  case measure => simp [intOf]; omega
                · obtain rfl : k = j := by omega
                  have hd : decide (k < k) = false := by simp
                  have hend : Hid (P (.returned (.bool true)) wr) := Lib.hid (by rw [← HP.out]; exact ⟨rfl, HBA.out.1.trans (HF.out.mono HBA.out.2)⟩)
                  clear HF hlt
                  go_wp2_with fail
                  exact hend.out
end Go.Proofs.YtkggmcnocpgnbaaDoor.K
