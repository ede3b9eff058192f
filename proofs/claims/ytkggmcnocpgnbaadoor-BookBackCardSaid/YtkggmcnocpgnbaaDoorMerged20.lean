/- BookBack: a line that may be is read from its bytes: the walk. -/
import Derived.Test.YtkggmcnocpgnbaaDoorMerged19
import Derived.Test.YtkggmcnocpgnbaaDoorMerged15
import Derived.Test.YtkggmcnocpgnbaaDoorMerged9
import Derived.Lib.LaidTab
namespace Go.Proofs.YtkggmcnocpgnbaaDoor.K
open Go.RowKit Go.Proofs.YtkggmcnocpgnbaaDoor.I

/-- may a glyph be? -/
def mayB (g : Int × Int) : Bool := decide (0 ≤ g.1) && decide (g.1 ≤ 1114111) && decide (0 ≤ g.2) && decide (g.2 ≤ 647)
theorem mayB_of {g : Int × Int} (h : mayB g = true) : (0 ≤ g.1 ∧ g.1 ≤ 1114111) ∧ 0 ≤ g.2 ∧ g.2 ≤ 647 := by
  unfold mayB at h
  simp only [Bool.and_eq_true, decide_eq_true_eq] at h
  obtain ⟨⟨⟨h1, h2⟩, h3⟩, h4⟩ := h
  exact ⟨⟨h1, h2⟩, h3, h4⟩
theorem PairsIn.apart {rk : IntKind} {a : Option Addr} {n c p : Nat} {gs : List (Int × Int)} {w4 w5 w6 : World} (h : PairsIn rk a n c gs w4) (hb : Below w4.heap.size w4 w5) (hg : w5.grownBy w6 (some p)) (hp : w4.heap.size ≤ p) : PairsIn rk a n c gs w6 := by
  refine ⟨h.len, h.fit, h.top, h.at_.imp id ?_⟩
  rintro ⟨b, off, ha, hl, hi⟩
  have hk : w6.heap[b]? = w4.heap[b]? := (hg.block b (Nat.lt_of_lt_of_le hl hb.size) (fun e => by have := Option.some.inj e; omega)).trans (hb.block b hl)
  exact ⟨b, off, ha, Nat.lt_of_lt_of_le hl (Nat.le_trans hb.size hg.size), fun i u hu => ⟨(World.cell?_of_block (a := ⟨b, off + i * 2, none⟩) hk).trans (hi i u hu).1, (World.cell?_of_block (a := ⟨b, off + i * 2 + 1, none⟩) hk).trans (hi i u hu).2⟩⟩
set_option maxRecDepth 100000 in
set_option maxHeartbeats 16000000 in
theorem back_walk (aa : Option Addr) (na ca : Nat) (l0 : List (Int × Int)) (w : World) (hW : W.Tab w) (hT : S.Tab w) (hA : PairsIn .i32 aa na ca l0 w) (hR : RngG l0) : Calls Tryd.prog 5 #[.slice aa na ca] w fun e w' => e = .returned (.bool true) ∧ Below w.heap.size w w' := by
  obtain ⟨rb, hrb⟩ : ∃ rb, w.heap.size = rb := ⟨_, rfl⟩
  rw [hrb]
  obtain ⟨P, hP⟩ : ∃ P : Ending → World → Prop, (fun e w' => e = .returned (.bool true) ∧ Below rb w w') = P := ⟨_, rfl⟩
  rw [hP]
  have HP := Lib.hid hP
  have HRb := Lib.hid hrb
  have HAw := Lib.hid (bawake_any w hW hT)
  obtain ⟨n, hn⟩ : ∃ n, min na 60 = n := ⟨_, rfl⟩
  have hnI : min (na : Int) 60 = (n : Int) := by omega
  have hfit := hA.fit
  have htop := hA.top
  have hnc : (n : Int) ≤ ca := by omega
  have hn60 : n ≤ 60 := by omega
  have hA1 := hA.take n (by omega)
  obtain ⟨l, hl⟩ : ∃ l, l0.take n = l := ⟨_, rfl⟩
  rw [hl] at hA1
  have HR : Hid (RngG l) := Lib.hid (fun g hg => hR g (List.mem_of_mem_take (by rw [hl]; exact hg)))
  have HLn := Lib.hid hA1.len
  have HA := Lib.hid hA1
  have HN60 := Lib.hid hn60
  clear hP hrb hW hT hA hR hn hA1 hl hn60
  go_enter Tryd.func5, Tryd.ntmps5
  go_upto_region 3 with (go_at_call 11; refine HAw.out.mono ?_; rintro e w1 ⟨rfl, hb1⟩)
  have HB1 : Hid (Below rb w w1 ∧ rb ≤ w1.heap.size) := Lib.hid ⟨by rw [← HRb.out]; exact hb1, by rw [← HRb.out]; exact hb1.size⟩
  have HA1 : Hid (PairsIn .i32 aa n ca l w1) := Lib.hid (HA.out.belowAll (by rw [HRb.out]; exact HB1.out.1))
  clear hb1 HAw
  go_upto_region 6 with fail
  try rw [hnI]
  clear hnI
  have hnI : (n : Int) ≤ 60 := by have := HN60.out; omega
  go_wp2_with fail
  go_loopw [3, 4, 19] (fun u m i wr => ∃ j : Nat, i = .int .i64 (j : Int) ∧ m = .bool ((l.take j).all mayB) ∧ j ≤ n ∧ Hid (OwnP .i64 63 rb u (l.take j) wr ∧ Below rb w wr ∧ rb ≤ wr.heap.size)) (fun _ _ i _ => n - (intOf i).toNat)
  case atStart => exact ⟨0, rfl, rfl, Nat.zero_le _, Lib.hid ⟨OwnP.nil _ _ _ _, HB1.out.1, HB1.out.2⟩⟩
  case round =>
    obtain ⟨j, rfl, rfl, hj, HF⟩ := hrel
    by_cases hlt : j < n
    · have hd : decide (j < n) = true := decide_eq_true hlt
      have hjI : (j : Int) < n := by omega
      have hjl : j < l.length := by rw [← HLn.out]; exact hlt
      obtain ⟨b, off, rfl, hbl, hAt⟩ := HA.out.at_.resolve_left (by intro e; rw [e] at hjl; simp at hjl)
      have hat := hAt j l[j] (List.getElem?_eq_getElem hjl)
      have hrg := HR.out l[j] (List.getElem_mem hjl)
      have htk := List.take_succ_eq_append_getElem hjl
      obtain ⟨⟨x, s⟩, hx⟩ : ∃ g, l[j] = g := ⟨_, rfl⟩
      rw [hx] at hat hrg htk
      have hlj : (l.take j).length = j := by rw [List.length_take]; omega
      obtain ⟨ua, uc, hue, -⟩ := HF.out.1.shape
      have hbr : b < rb := by rw [← HRb.out]; exact hbl
      have k0 : wr.cell? ⟨b, off + j * 2, none⟩ = some (.int .i32 x) := (HF.out.2.1.cell (p := ⟨b, off + j * 2, none⟩) hbr).trans hat.1
      have k1 : wr.cell? ⟨b, off + j * 2 + 1, none⟩ = some (.int .i64 s) := (HF.out.2.1.cell (p := ⟨b, off + j * 2 + 1, none⟩) hbr).trans hat.2
      have hwr : IntKind.i64.wrap x = x := by rw [IntKind.wrap_i64]; have h1 := hrg.1; have h2 := hrg.2; simp only at h1 h2; omega
      obtain ⟨gb, hgb⟩ : ∃ gb, wr.heap.size = gb := ⟨_, rfl⟩
      obtain ⟨w5, hw5⟩ : ∃ w5, wr.alloc (.cells #[.int .i32 x, .int .i64 s] 61) = w5 := ⟨_, rfl⟩
      have hb5 : Below wr.heap.size wr w5 := by rw [← hw5]; exact (Below.refl _ _).alloc (Nat.le_refl _) _
      have hnew : w5.heap[gb]? = some (.cells #[.int .i32 x, .int .i64 s] 61 (0, 0)) := by rw [← hw5, ← hgb]; exact heap_alloc_new wr _
      have m0 : w5.cell? ⟨gb, 0, none⟩ = some (.int .i32 x) := by rw [cell_block hnew]; rfl
      have m1 : w5.cell? ⟨gb, 1, none⟩ = some (.int .i64 s) := by rw [cell_block hnew]; rfl
      have hB5 : Below rb w w5 := HF.out.2.1.trans (hb5.mono HF.out.2.2)
      have hR5 : rb ≤ w5.heap.size := Nat.le_trans HF.out.2.2 hb5.size
      have hO5 := HF.out.1.belowAll hb5
      obtain ⟨g6, hg6⟩ : ∃ g, w5.heap.size = g := ⟨_, rfl⟩
      obtain ⟨w6, hw6⟩ : ∃ w6, w5.alloc (.cells #[.int .i64 x, .int .i64 s] 63) = w6 := ⟨_, rfl⟩
      have hb6 : Below w5.heap.size w5 w6 := by rw [← hw6]; exact (Below.refl _ _).alloc (Nat.le_refl _) _
      have hnb : w6.heap[g6]? = some (.cells #[.int .i64 x, .int .i64 s] 63 (0, 0)) := by rw [← hw6, ← hg6]; exact heap_alloc_new w5 _
      have HO6 := Lib.hid (hO5.belowAll hb6)
      have HC0 : Hid (w6.cell? ⟨g6, 0, none⟩ = some (.int .i64 x)) := Lib.hid (by rw [cell_block hnb]; rfl)
      have HC1 : Hid (w6.cell? ⟨g6, 1, none⟩ = some (.int .i64 s)) := Lib.hid (by rw [cell_block hnb]; rfl)
      have HLl : Hid (((l.take j).length : Int) ≤ 1000000) := Lib.hid (by rw [hlj]; have := HN60.out; omega)
      have HS6 : Hid (rb ≤ w6.heap.size) := Lib.hid (Nat.le_trans hR5 hb6.size)
      have HB6 : Hid (Below rb w w6) := Lib.hid (hB5.trans (hb6.mono hR5))
      have HGb : Hid (gb < w6.heap.size ∧ rb ≤ gb ∧ w6.heap[gb]? = some (.cells #[.int .i32 x, .int .i64 s] 61 (0, 0))) := Lib.hid ⟨Nat.lt_of_lt_of_le (Array.getElem?_eq_some_iff.1 hnew).1 hb6.size, by rw [← hgb]; exact HF.out.2.2, (hb6.block gb (Array.getElem?_eq_some_iff.1 hnew).1).trans hnew⟩
      have HTk := Lib.hid htk
      have HW5 := Lib.hid hw5
      have HW6 := Lib.hid hw6
      have HG5 := Lib.hid hgb
      have HG6 := Lib.hid hg6
      have HRx : Hid (-2147483648 ≤ x ∧ x ≤ 2147483647) := Lib.hid hrg
      rw [hlj] at hue
      clear hjl hAt hat hrg htk hx hlj hbl hbr hgb hw5 hb5 hnew hB5 hR5 hO5 hg6 hw6 hb6 hnb HF
      subst hue
      go_upto_region 9 with fail
      rw [HW5.out, HG5.out]
      clear k0 k1
      go_wp2_with (at_builtin; (try rw [HW6.out, HG6.out]); refine wpList_append_pair lineT rfl _ _ rfl rfl rb _ (l.take j) (x, s) g6 rfl rfl HO6.out HC0.out HC1.out HLl.out HS6.out ?_)
      intro v' w7 hown hgr
      have hk : Below rb w6 w7 := (Below.refl _ _).grown hgr HS6.out (fun q hq => (HO6.out.ownBlock q hq).1)
      have hty : w7.heap[gb]? = some (.cells #[.int .i32 x, .int .i64 s] 61 (0, 0)) := (hgr.block gb HGb.out.1 (fun e => by
        obtain ⟨cs, h1, -⟩ := U.own_type HO6.out e.symm
        rw [HGb.out.2.2] at h1
        injection h1 with h1
        injection h1 with h1 h2
        exact absurd h2 (by decide))).trans HGb.out.2.2
      have m0 : w7.cell? ⟨gb, 0, none⟩ = some (.int .i32 x) := by rw [cell_block hty]; rfl
      have m1 : w7.cell? ⟨gb, 1, none⟩ = some (.int .i64 s) := by rw [cell_block hty]; rfl
      have HE : Hid (OwnP .i64 63 rb v' (l.take (j + 1)) w7 ∧ Below rb w w7 ∧ rb ≤ w7.heap.size) := Lib.hid ⟨by rw [HTk.out]; exact hown, HB6.out.trans (hk.mono (Nat.le_refl _)), Nat.le_trans HS6.out hgr.size⟩
      have hall : (l.take (j + 1)).all mayB = ((l.take j).all mayB && mayB (x, s)) := by rw [HTk.out, List.all_append]; simp
      have HAll := Lib.hid hall
      obtain ⟨bm, hbm⟩ : ∃ b, (l.take j).all mayB = b := ⟨_, rfl⟩
      rw [hbm]
      have hmm : (mayB (x, s) = (decide (0 ≤ x) && decide (x ≤ 1114111) && decide (0 ≤ s) && decide (s ≤ 647))) := rfl
      have HBm := Lib.hid hbm
      obtain ⟨p1, hp1⟩ : ∃ b, decide (0 ≤ x) = b := ⟨_, rfl⟩
      obtain ⟨p2, hp2⟩ : ∃ b, decide (x ≤ 1114111) = b := ⟨_, rfl⟩
      obtain ⟨p3, hp3⟩ : ∃ b, decide (0 ≤ s) = b := ⟨_, rfl⟩
      obtain ⟨p4, hp4⟩ : ∃ b, decide (s ≤ 647) = b := ⟨_, rfl⟩
      rw [hp1, hp2, hp3, hp4] at hmm
      have HMm := Lib.hid hmm
      have hq1 : decide (x ≥ 0) = p1 := hp1
      have hq3 : decide (s ≥ 0) = p3 := hp3
      clear hown hgr hk hty hall hbm hmm HO6 HC0 HC1
      have hway : (bm = false) ∨ (bm = true ∧ p1 = false) ∨ (bm = true ∧ p1 = true ∧ p2 = false) ∨ (bm = true ∧ p1 = true ∧ p2 = true ∧ p3 = false) ∨ (bm = true ∧ p1 = true ∧ p2 = true ∧ p3 = true) := by
        cases bm <;> cases p1 <;> cases p2 <;> cases p3 <;> simp
      rcases hway with rfl | ⟨rfl, rfl⟩ | ⟨rfl, rfl, rfl⟩ | ⟨rfl, rfl, rfl, rfl⟩ | ⟨rfl, rfl, rfl, rfl⟩
      all_goals
        go_wp2_with fail
        go_roundw
        case rel => exact ⟨j + 1, by go_num, by rw [HAll.out, HBm.out, HMm.out]; simp, by omega, HE⟩
        case measure => simp [intOf]; omega
    · obtain rfl : j = n := by omega
      have hd : decide (j < j) = false := by simp
      have hta : l.take j = l := List.take_of_length_le (by rw [← HLn.out]; exact Nat.le_refl _)
      rw [hta] at HF ⊢
      obtain ⟨ua, uc, rfl, hxa, -⟩ := HF.out.1.shape
      rw [← HLn.out] at hxa ⊢
      have HXa := Lib.hid hxa
      have HBw : Hid (Below rb w wr ∧ rb ≤ wr.heap.size) := Lib.hid HF.out.2
      have HPk := Lib.hid (pack_any aa j ca l wr (HA.out.belowAll (by rw [HRb.out]; exact HF.out.2.1)) HR.out (by have := HN60.out; omega))
      obtain ⟨may, hmay⟩ : ∃ b, l.all mayB = b := ⟨_, rfl⟩
      rw [hmay]
      have HMay := Lib.hid hmay
      clear hta hxa hmay HF hlt
      go_wp2_with fail
      refine HPk.out.mono ?_
      rintro e w3 ⟨pk, rfl, hpk, hb3⟩
      have HXa3 := Lib.hid (HXa.out.belowAll hb3)
      have HB3 : Hid (Below rb w w3 ∧ rb ≤ w3.heap.size) := Lib.hid ⟨HBw.out.1.trans (hb3.mono HBw.out.2), Nat.le_trans HBw.out.2 hb3.size⟩
      have HRp := Lib.hid (refPack_any ua j uc l w3 HXa3.out (by have := HN60.out; omega))
      have HPkL := Lib.hid hpk
      clear hpk hb3 HPk
      go_wp2_with fail
      refine HRp.out.mono ?_
      rintro e w4 ⟨pr, rfl, hpr, hb4⟩
      have heq : (pk.toList == pr.toList) = true := beq_lists (by rw [HPkL.out, hpr])
      have hneq : (pk.toList != pr.toList) = false := by rw [bne, heq]; rfl
      have hneq2 : (!(pk.toList == pr.toList)) = false := by rw [heq]; rfl
      have HXa4 := Lib.hid (HXa3.out.belowAll hb4)
      have HB4 : Hid (Below rb w w4 ∧ rb ≤ w4.heap.size) := Lib.hid ⟨HB3.out.1.trans (hb4.mono HB3.out.2), Nat.le_trans HB3.out.2 hb4.size⟩
      have hpz : (pk.size : Int) ≤ 1000000 := by
        have e1 : pk.size = (packG l).length := by rw [← HPkL.out]; rfl
        have e2 := packG_len l
        have e3 := HLn.out
        have e4 := HN60.out
        omega
      have HOf := Lib.hid (of_any pk hpz w4)
      clear hpr hb4 HRp hpz heq
      go_wp2_with fail
      refine HOf.out.mono ?_
      rintro e w5 ⟨rfl, hi5, hw5⟩
      obtain ⟨p, hp⟩ : ∃ p, w4.heap.size = p := ⟨_, rfl⟩
      rw [hp] at hi5 ⊢
      have hb5 : Below w4.heap.size w4 w5 := by rw [hw5]; exact (Below.refl _ _).alloc (Nat.le_refl _) _
      have HB5 : Hid (Below rb w w5 ∧ rb ≤ w5.heap.size) := Lib.hid ⟨HB4.out.1.trans (hb5.mono HB4.out.2), Nat.le_trans HB4.out.2 hb5.size⟩
      have HB45 := Lib.hid hb5
      have HPr : Hid (rb ≤ p) := Lib.hid (by have := HB4.out.2; omega)
      obtain ⟨R, hR⟩ : ∃ R, readS (pk.data.toList, 0) = R := ⟨_, rfl⟩
      have HRd := Lib.hid (bread_any p (pk.data.toList, 0) w5 hi5)
      have HRr := Lib.hid hR
      have HPl : Hid (p = w4.heap.size) := Lib.hid hp.symm
      clear hi5 hw5 hp hb5 hR HOf
      go_wp2_with fail
      refine HRd.out.mono ?_
      rintro e w6 ⟨v6, rfl, ho6, hi6, hg6⟩
      rw [HRr.out] at ho6 hi6
      obtain ⟨ga, gc, rfl, hga, -⟩ := ho6.shape
      have HB6 : Hid (Below rb w w6 ∧ rb ≤ w6.heap.size) := Lib.hid ⟨below_of_grown HB5.out.1 hg6 HB5.out.2 HPr.out, Nat.le_trans HB5.out.2 hg6.size⟩
      have hxa6 : PairsIn .i64 ua j uc l w6 := HXa4.out.apart HB45.out hg6 (by rw [HPl.out]; exact Nat.le_refl _)
      cases may with
      | false =>
        have hend : Hid (P (.returned (.bool true)) w6) := Lib.hid (by rw [← HP.out]; exact ⟨rfl, HB6.out.1⟩)
        obtain ⟨gn, hgn⟩ : ∃ n, R.2.length = n := ⟨_, rfl⟩
        rw [hgn]
        clear ho6 hi6 hg6 hga hxa6 hgn HRd
        go_wp2_with fail
        exact hend.out
      | true =>
        have hml : MayL l := fun g hg => mayB_of (List.all_eq_true.1 HMay.out g hg)
        have hrb := readS_back hml (by rw [← HLn.out]; have := HN60.out; omega) []
        rw [List.append_nil, ← HPkL.out, HRr.out] at hrb
        subst hrb
        simp only at hga hi6 ⊢
        have HEn := end_any p [] 0 w6 hi6
        rw [show endS [] 0 = 0 by unfold endS; simp, show ((0 : Nat) : Int) = 0 from rfl] at HEn
        have HEn := Lib.hid HEn
        rw [← HLn.out] at hga ⊢
        have hgl := lawGlyphs_any ga j gc l ua j uc l w6 hga hxa6 HR.out (by have := HN60.out; omega) (by have := HN60.out; omega)
        rw [decide_eq_true rfl] at hgl
        have HGl := Lib.hid hgl
        clear ho6 hi6 hg6 hga hxa6 hml hgl HRd
        go_wp2_with fail
        refine HEn.out.mono ?_
        rintro e w7 ⟨rfl, rfl⟩
        go_wp2_with fail
        refine HGl.out.mono ?_
        rintro e w8 ⟨rfl, hb8⟩
        have hend : Hid (P (.returned (.bool true)) w8) := Lib.hid (by rw [← HP.out]; exact ⟨rfl, HB6.out.1.trans (hb8.mono HB6.out.2)⟩)
        clear hb8 HGl HEn
        go_wp2_with fail
        exact hend.out
end Go.Proofs.YtkggmcnocpgnbaaDoor.K

/- What the rows of books list: the table of the sum, then the spans. -/
namespace Go.Proofs.YtkggmcnocpgnbaaDoor.K

theorem gHalf : Tryd.prog.globalNamed "tidewrack/sum.half" = some 1 := by kernel_rfl
theorem gHalfType : (Tryd.prog.globals[1]?).map (·.type) = some 191 := by kernel_rfl
theorem cells16 : Tryd.prog.cellsOf 191 = 16 := by kernel_rfl
theorem cells1 : Tryd.prog.cellsOf 175 = 1 := by kernel_rfl
def halfInts : List Int := [0, 498536548, 997073096, 651767980, 1994146192, 1802195444, 1303535960, 1342533948, 3988292384, 4027552580, 3604390888, 3412177804, 2607071920, 2262029012, 2685067896, 3183342108]
theorem halfInts_tbl : ∀ j, j < 16 → j < halfInts.length ∧ halfInts.getD j 0 = (S.tbl j : Int) := by decide
theorem half_of {rest : List (String × DataW Unit)} {w : World} (h : laidMet Tryd.prog (("tidewrack/sum.half", Rows.laid_tidewrack_sum_half) :: rest) w) : S.Tab w := by
  have ht : Lib.TabIs Tryd.prog w "tidewrack/sum.half" .u32 halfInts := Lib.tabIs_of_head (rest := rest) gHalf gHalfType Tryd.underlying191 Tryd.underlying175 cells1 cells16 h
  intro j hj
  rw [← (halfInts_tbl j hj).2]
  exact ht.cell gHalf j (halfInts_tbl j hj).1
end Go.Proofs.YtkggmcnocpgnbaaDoor.K
