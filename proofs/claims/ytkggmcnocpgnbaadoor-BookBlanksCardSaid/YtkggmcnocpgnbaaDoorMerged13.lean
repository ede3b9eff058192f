/- A mask of small numbers. -/
import Derived.Test.YtkggmcnocpgnbaaDoorMerged1
import Derived.Test.YtkggmcnocpgnbaaDoorBAwk
import Derived.Test.YtkggmcnocpgnbaaDoorMerged11
import Derived.Test.YtkggmcnocpgnbaaDoorMerged7
import Derived.Lib.LaidTab
namespace Go.Proofs.YtkggmcnocpgnbaaDoor.K
open Go.RowKit

theorem and_small (n : Int) (m : Nat) (hm : m < 4294967296) : ∃ t : Nat, bits .and .i64 n (m : Int) = (t : Int) ∧ t ≤ m := by
  refine ⟨(BitVec.ofInt 64 n &&& BitVec.ofInt 64 (m : Int)).toNat, ?_, ?_⟩
  · show IntKind.i64.wrap ((BitVec.ofInt 64 n &&& BitVec.ofInt 64 (m : Int)).toNat : Int) = _
    have h2 : (BitVec.ofInt 64 (m : Int)).toNat = m := by
      rw [BitVec.ofInt_natCast, BitVec.toNat_ofNat]; exact Nat.mod_eq_of_lt (by omega)
    have h3 : (BitVec.ofInt 64 n &&& BitVec.ofInt 64 (m : Int)).toNat ≤ m := by
      rw [BitVec.toNat_and, h2]; exact Nat.and_le_right
    rw [IntKind.wrap_i64]
    omega
  · rw [BitVec.toNat_and, BitVec.ofInt_natCast, BitVec.toNat_ofNat, Nat.mod_eq_of_lt (by omega : m < 2 ^ 64)]
    exact Nat.and_le_right
end Go.Proofs.YtkggmcnocpgnbaaDoor.K

/- BookBlanks: rows of blanks are lines without glyphs: the walk. -/
namespace Go.Proofs.YtkggmcnocpgnbaaDoor.K
open Go.RowKit

theorem trimG_rep0 : ∀ n : Nat, trimG (List.replicate n (blk 0)) = []
  | 0 => rfl
  | n + 1 => by rw [List.replicate_succ]; unfold trimG; rw [if_pos rfl]; exact trimG_rep0 n
theorem trimG_rep {s : Int} (h : s ≠ 0) : ∀ n : Nat, trimG (List.replicate n (blk s)) = List.replicate n (blk s)
  | 0 => rfl
  | n + 1 => by
    rw [List.replicate_succ]
    unfold trimG
    rw [if_neg (fun e => h (congrArg Cel.style e))]
theorem blanks_glyphs (n : Nat) (s : Int) : (glyphs ⟨blanks n s, false⟩).length = if s = 0 then 0 else n := by
  rw [glyphs_glF]
  unfold trimS
  rw [if_neg (by simp)]
  show (glF ((trimG (blanks n s).reverse).reverse)).length = _
  unfold blanks
  rw [List.reverse_replicate]
  split
  · rename_i h
    subst h
    rw [trimG_rep0]
    rfl
  · rename_i h
    rw [trimG_rep h, List.reverse_replicate]
    unfold glF
    rw [List.length_map, List.filter_eq_self.2 (fun c hc => by rw [(List.mem_replicate.1 hc).2]; rfl), List.length_replicate]
/-- one row more that doesn't go on, where nothing is begun -/
theorem add_one {L : List (List (Int × Int))} {r : Ro} (hr : r.wrapped = false) (hl : (glyphs r).length < 1024) : addsB ⟨L, []⟩ [r] = ⟨L ++ [glyphs r], []⟩ := by
  unfold addsB
  simp only [List.foldl_cons, List.foldl_nil]
  unfold addB
  rw [if_neg (by rw [hr]; decide), List.nil_append, cutB_done (by show ¬ 1024 ≤ (glyphs r).length; omega)]
  unfold endB
  simp
/-- a slice of one row, just built -/
theorem rows_one {rk : IntKind} {M : List Nat} {a : Option Addr} {n c : Nat} {b : Bool} {r : Ro} {T : TypeId} (u : World) (h : RowV rk (.agg #[.slice a n c, .bool b]) r u) (ho : Off M ⟨a, n, c, b⟩) (hM : ∀ p ∈ M, p < u.heap.size) : RowsL rk M (some ⟨u.heap.size, 0, none⟩) 1 1 [r] (u.alloc (.cells #[.slice a n c, .bool b] T)) := by
  have hb : Below u.heap.size u (u.alloc (.cells #[.slice a n c, .bool b] T)) := (Below.refl _ _).alloc (Nat.le_refl _) _
  refine ⟨⟨[⟨a, n, c, b⟩], rvs_one u ⟨a, n, c, b⟩ T, ⟨rfl, fun i d q hd hq => ?_⟩, fun d hd => ?_⟩, (fun e => by cases e), fun _ b' o e hm => by cases e; have := hM _ hm; omega⟩
  · match i, hd, hq with
    | 0, hd, hq => cases hd; cases hq; exact h.belowAll hb
    | i + 1, hd, _ => simp at hd
  · rw [List.mem_singleton.1 hd]; exact ho
set_option maxRecDepth 100000 in
set_option maxHeartbeats 16000000 in
theorem blanks_walk (n0 w0 s0 : Int) (w : World) (hW : W.Tab w) (hT : S.Tab w) : Calls Tryd.prog 8 #[.int .i64 n0, .int .i64 w0, .int .i64 s0] w fun e w' => e = .returned (.bool true) ∧ Below w.heap.size w w' := by
  obtain ⟨rb, hrb⟩ : ∃ rb, w.heap.size = rb := ⟨_, rfl⟩
  rw [hrb]
  obtain ⟨P, hP⟩ : ∃ P : Ending → World → Prop, (fun e w' => e = .returned (.bool true) ∧ Below rb w w') = P := ⟨_, rfl⟩
  rw [hP]
  have HP := Lib.hid hP
  have HRb := Lib.hid hrb
  have HT := Lib.hid hT
  have HAw := Lib.hid (bawake_any w hW hT)
  have HHf : Hid (1 < rb) := Lib.hid (by rw [← hrb]; exact S.halfLt hT)
  obtain ⟨nn, hnn, hnl⟩ := and_small n0 31 (by decide)
  obtain ⟨ww, hww, hwl⟩ := and_small w0 63 (by decide)
  obtain ⟨ss, hss, hsl⟩ := and_small s0 3 (by decide)
  have hnn : bits .and .i64 n0 31 = (nn : Int) := hnn
  have hww : bits .and .i64 w0 63 = (ww : Int) := hww
  have hss : bits .and .i64 s0 3 = (ss : Int) := hss
  obtain ⟨gl, hgl⟩ : ∃ g, glyphs ⟨blanks (nearN (ww : Int)) (ss : Int), false⟩ = g := ⟨_, rfl⟩
  have hnw : nearN (ww : Int) = ww := by unfold nearN; omega
  have hgn : gl.length = if ss = 0 then 0 else ww := by
    rw [← hgl, hnw, blanks_glyphs]
    by_cases h : ss = 0
    · rw [if_pos h, if_pos (by omega)]
    · rw [if_neg h, if_neg (by omega)]
  have HGl := Lib.hid hgl
  have HGn := Lib.hid hgn
  have HNw := Lib.hid hnw
  have HNl := Lib.hid hnl
  have HWl := Lib.hid hwl
  have HSl := Lib.hid hsl
  clear hP hrb hW hT hgl hgn hnw hnl hwl hsl
  go_enter Tryd.func8, Tryd.ntmps8
  go_upto_region 3 with (go_at_call 11; refine HAw.out.mono ?_; rintro e w1 ⟨rfl, hb1⟩)
  have HB1 : Hid (Below rb w w1) := Lib.hid (by rw [← HRb.out]; exact hb1)
  have HR1 : Hid (rb ≤ w1.heap.size) := Lib.hid (by rw [← HRb.out]; exact hb1.size)
  have HN := Lib.hid (bnew_any w1)
  clear hb1 HAw
  go_upto_region 4 with fail
  try rw [hnn]
  try rw [hww]
  try rw [hss]
  clear hnn hww hss
  go_wp2_with fail
  refine HN.out.mono ?_
  rintro e w2 ⟨b, rfl, hbw, hBo, hb2⟩
  have HBr : Hid (rb ≤ b) := Lib.hid (Nat.le_trans HR1.out hbw)
  have HB2 : Hid (Below rb w w2 ∧ rb ≤ w2.heap.size) := Lib.hid ⟨HB1.out.trans (hb2.mono HR1.out), Nat.le_trans HR1.out hb2.size⟩
  have HBo := Lib.hid hBo
  clear hbw hBo hb2 HN
  go_wp2_with fail
  go_loopw [24] (fun i wr => ∃ j : Nat, i = .int .i64 (j : Int) ∧ j ≤ nn ∧ Hid (∃ M, Bo b M ⟨List.replicate j gl, []⟩ wr ∧ Below rb w wr ∧ rb ≤ wr.heap.size ∧ ∀ p ∈ M, rb ≤ p)) (fun i _ => nn - (intOf i).toNat)
  case atStart => exact ⟨0, rfl, Nat.zero_le _, Lib.hid ⟨[b], HBo.out, HB2.out.1, HB2.out.2, fun p hp => by rw [show p = b by simpa using hp]; exact HBr.out⟩⟩
  case round =>
    obtain ⟨j, rfl, hj, HF⟩ := hrel
    by_cases hlt : j < nn
    · have hd : decide (j < nn) = true := decide_eq_true hlt
      have hjI : (j : Int) < nn := by omega
      have hj31 : (j : Int) < 31 := by have := HNl.out; omega
      obtain ⟨M, hBo, hBw, hRw, hMr⟩ := HF.out
      have HRb1 := Lib.hid (rowBlank_any (ww : Int) (ss : Int) wr)
      have HBo1 := Lib.hid hBo
      have HBw1 := Lib.hid hBw
      have HRw1 := Lib.hid hRw
      have HMr1 := Lib.hid hMr
      clear hBo hBw hRw hMr HF
      go_wp2_with fail
      refine HRb1.out.mono ?_
      rintro e w5 ⟨v5, rfl, hO, hb5⟩
      obtain ⟨a5, c5, rfl, hi5, hlo5, hn5, hf5, hx5⟩ := hO.shape
      have hrow : RowV .i32 (.agg #[.slice a5 (blanks (nearN (ww : Int)) (ss : Int)).length c5, .bool false]) ⟨blanks (nearN (ww : Int)) (ss : Int), false⟩ w5 := ⟨a5, c5, rfl, hi5, hn5, hf5, hx5⟩
      obtain ⟨n5, hn5'⟩ : ∃ n, (blanks (nearN (ww : Int)) (ss : Int)).length = n := ⟨_, rfl⟩
      rw [hn5'] at hrow ⊢
      have hBo5 := HBo1.out.below hb5
      obtain ⟨p6, hp6⟩ : ∃ p, w5.heap.size = p := ⟨_, rfl⟩
      obtain ⟨w6, hw6⟩ : ∃ w6, w5.alloc (.cells #[.slice a5 n5 c5, .bool false] 27) = w6 := ⟨_, rfl⟩
      have hb6 : Below w5.heap.size w5 w6 := by rw [← hw6]; exact (Below.refl _ _).alloc (Nat.le_refl _) _
      have hR6 : RowsL .i32 M (some ⟨p6, 0, none⟩) 1 1 [⟨blanks (nearN (ww : Int)) (ss : Int), false⟩] w6 := by
        rw [← hw6, ← hp6]
        exact rows_one w5 hrow (fun _ b' o e hm => by have h1 := (hlo5 b' o e).1; have h2 := HBo1.out.lt b' hm; omega) (fun p hp => Nat.lt_of_lt_of_le (HBo1.out.lt p hp) hb5.size)
      have hBw6 : Below rb w w6 := (HBw1.out.trans (hb5.mono HRw1.out)).trans (hb6.mono (Nat.le_trans HRw1.out hb5.size))
      have hRw6 : rb ≤ w6.heap.size := Nat.le_trans (Nat.le_trans HRw1.out hb5.size) hb6.size
      have hn63 : n5 ≤ 63 := by rw [← hn5', HNw.out, blanks_length]; exact HWl.out
      have hadd := badd_any (some ⟨p6, 0, none⟩) 1 1 [⟨blanks (nearN (ww : Int)) (ss : Int), false⟩] w6 (hBo5.below hb6) ⟨by show 0 < 1024; decide, fun l hl => by
        rw [(List.mem_replicate.1 hl).2, HGn.out]
        have := HWl.out
        split <;> omega⟩ (fun g hg => by cases hg) hR6 (fun r hr => by rw [List.mem_singleton.1 hr]; exact all_blanks rng_blk _ _) (fun r hr => by rw [List.mem_singleton.1 hr]; show (blanks _ _).length ≤ 1024; rw [hn5']; omega) (by show (List.replicate j gl).length + 2 * 1 ≤ 800000; rw [List.length_replicate]; have := HNl.out; omega) (by show 1 ≤ 1000; decide) (S.tab_of HT.out (by rw [HRb.out]; exact hBw6)) (fun hm => by have h1 := HMr1.out _ hm; have h2 := HHf.out; omega)
      rw [add_one rfl (by rw [HGl.out, HGn.out]; have := HWl.out; split <;> omega), HGl.out] at hadd
      rw [show (⟨List.replicate j gl ++ [gl], []⟩ : Bk) = ⟨List.replicate (j + 1) gl, []⟩ by rw [List.replicate_succ']] at hadd
      have hlen : (((⟨List.replicate (j + 1) gl, []⟩ : Bk).L.length : Int) - ((⟨List.replicate j gl, []⟩ : Bk).L.length : Int)) = 1 := by
        show ((List.replicate (j + 1) gl).length : Int) - ((List.replicate j gl).length : Int) = 1
        rw [List.length_replicate, List.length_replicate]
        omega
      rw [hlen] at hadd
      have HAdd := Lib.hid hadd
      have HBw6 := Lib.hid hBw6
      have HRw6 := Lib.hid hRw6
      have HW6 := Lib.hid hw6
      have HP6 := Lib.hid hp6
      clear hO hb5 hi5 hlo5 hn5 hf5 hx5 hrow hn5' hBo5 hp6 hw6 hb6 hR6 hBw6 hRw6 hn63 hadd hlen HRb1 HBo1
      go_wp2_with fail
      rw [HW6.out, HP6.out]
      refine HAdd.out.mono ?_
      rintro e w7 ⟨rfl, M7, hB7, hk7, hM7⟩
      have hln := blen_any w7 hB7
      rw [show ((⟨List.replicate (j + 1) gl, []⟩ : Bk).L.length : Int) = (j : Int) + 1 by show ((List.replicate (j + 1) gl).length : Int) = _; rw [List.length_replicate]; omega] at hln
      have HLn := Lib.hid hln
      have HE : Hid (∃ M, Bo b M ⟨List.replicate (j + 1) gl, []⟩ w7 ∧ Below rb w w7 ∧ rb ≤ w7.heap.size ∧ ∀ p ∈ M, rb ≤ p) := Lib.hid ⟨M7, hB7, hk7.below (fun i hi => HMr1.out i hi) HBw6.out HRw6.out, Nat.le_trans HRw6.out hk7.size, fun p hp => by
        rcases hM7 p hp with h | h
        · exact HMr1.out p h
        · exact Nat.le_trans HRw6.out h⟩
      have q1 : (((j : Int) + 1) != ((j : Int) + 1)) = false := by simp
      clear hln hB7 hk7 hM7 HAdd HW6 HP6
      go_wp2_with fail
      refine HLn.out.mono ?_
      rintro e w8 ⟨rfl, rfl⟩
      go_wp2_with fail
      go_roundw
      case rel => exact ⟨j + 1, by go_num, by omega, HE⟩
      case measure => simp [intOf]; omega
    · obtain rfl : j = nn := by omega
      have hd : decide (j < j) = false := by simp
      obtain ⟨M, hBo, hBw, hRw, hMr⟩ := HF.out
      have HBo1 := Lib.hid hBo
      have HBw1 := Lib.hid hBw
      have HRw1 := Lib.hid hRw
      clear hBo hBw hRw hMr HF hlt
      go_wp2_with fail
      obtain ⟨wv, hwv⟩ : ∃ wv, wv = wr := ⟨_, rfl⟩
      subst hwv
      go_loopw [43] (fun i wr => ∃ k : Nat, i = .int .i64 (k : Int) ∧ k ≤ j ∧ Hid (Below wv.heap.size wv wr)) (fun i _ => j - (intOf i).toNat)
      case atStart => exact ⟨0, rfl, Nat.zero_le _, Lib.hid (Below.refl _ _)⟩
      case round =>
        obtain ⟨k, rfl, hk, HF⟩ := hrel
        have hBk := HBo1.out.below HF.out
        by_cases hlt : k < j
        · have hd2 : decide (k < j) = true := decide_eq_true hlt
          have hkI : (k : Int) < j := by omega
          have hk31 : (k : Int) < 31 := by have := HNl.out; omega
          have hgl64 : gl.length ≤ 63 := by rw [HGn.out]; have := HWl.out; split <;> omega
          have hl := bline_any k gl wr hBk (by show (List.replicate j gl)[k]? = _; rw [List.getElem?_replicate, if_pos hlt]) (by omega) (by show (List.replicate j gl).length ≤ _; rw [List.length_replicate]; have := HNl.out; omega)
          have HL := Lib.hid hl
          clear hl hBk hgl64
          go_wp2_with fail
          refine HL.out.mono ?_
          rintro e w8 ⟨v8, rfl, hq8, hb8⟩
          obtain ⟨a8, c8, rfl, -⟩ := hq8.shape
          have HE : Hid (Below wv.heap.size wv w8) := Lib.hid (HF.out.trans (hb8.mono HF.out.size))
          clear hq8 hb8 HL HF
          by_cases hs : ss = 0
          · have hg0 : gl.length = 0 := by rw [HGn.out, if_pos hs]
            rw [hg0]
            have q1 : ((ss : Int) == 0) = true := by rw [beq_iff_eq]; omega
            have q2 : ((ss : Int) != 0) = false := by rw [bne_eq_false_iff_eq]; omega
            clear hg0 hs
            go_wp2_with fail
            go_roundw
            case rel => exact ⟨k + 1, by go_num, by omega, HE⟩
            case measure => simp [intOf]; omega
          · have hg0 : gl.length = ww := by rw [HGn.out, if_neg hs]
            rw [hg0]
            have q1 : ((ss : Int) == 0) = false := by rw [beq_eq_false_iff_ne]; omega
            have q2 : ((ss : Int) != 0) = true := by rw [bne_iff_ne]; omega
            have q3 : ((ww : Int) != (ww : Int)) = false := by simp
            clear hg0 hs
            go_wp2_with fail
            go_roundw
            case rel => exact ⟨k + 1, by go_num, by omega, HE⟩
            case measure => simp [intOf]; omega
        · obtain rfl : k = j := by omega
          have hd2 : decide (k < k) = false := by simp
          have HBg := Lib.hid (bbegun_any wr hBk (Nat.zero_le _))
          have HBk := Lib.hid hBk
          have HBr2 : Hid (Below rb w wr ∧ rb ≤ wr.heap.size) := Lib.hid ⟨HBw1.out.trans (HF.out.mono HRw1.out), Nat.le_trans HRw1.out HF.out.size⟩
          clear hBk hlt HF
          go_wp2_with fail
          refine HBg.out.mono ?_
          rintro e w8 ⟨v8, rfl, hq8, hb8⟩
          obtain ⟨a8, c8, rfl, -⟩ := hq8.shape
          rw [show ((⟨List.replicate k gl, []⟩ : Bk).G.length) = 0 from rfl]
          have hln := blen_any w8 (HBk.out.below hb8)
          rw [show ((⟨List.replicate k gl, []⟩ : Bk).L.length : Int) = (k : Int) by show ((List.replicate k gl).length : Int) = _; rw [List.length_replicate]] at hln
          have HLn := Lib.hid hln
          have hend : Hid (P (.returned (.bool true)) w8) := Lib.hid (by rw [← HP.out]; exact ⟨rfl, HBr2.out.1.trans (hb8.mono HBr2.out.2)⟩)
          clear hq8 hb8 hln HBg
          have hway : k = 0 ∨ ((k : Int) == 0) = false := by
            by_cases h : k = 0
            · exact .inl h
            · exact .inr (by rw [beq_eq_false_iff_ne]; omega)
          rcases hway with rfl | q1
          all_goals
            go_wp2_with fail
            refine HLn.out.mono ?_
            rintro e w9 ⟨rfl, rfl⟩
            go_wp2_with fail
            exact hend.out
end Go.Proofs.YtkggmcnocpgnbaaDoor.K

/- What the rows of books list: the table of the sum, then the spans. -/
namespace Go.Proofs.YtkggmcnocpgnbaaDoor.K

theorem gHalf : Tryd.prog.globalNamed "tidewrack/sum.half" = some 1 := by kernel_rfl
theorem gHalfType : (Tryd.prog.globals[1]?).map (·.type) = some 191 := by kernel_rfl
theorem cells16 : Tryd.prog.cellsOf 191 = 16 := by kernel_rfl
theorem cells1 : Tryd.prog.cellsOf 175 = 1 := by kernel_rfl
def halfInts : List Int := [0, 498536548, 997073096, 651767980, 1994146192, 1802195444, 1303535960, 1342533948, 3988292384, 4027552580, 3604390888, 3412177804, 2607071920, 2262029012, 2685067896, 3183342108]
theorem halfInts_tbl : ∀ j, j < 16 → j < halfInts.length ∧ halfInts.getD j 0 = (S.tbl j : Int) := by decide
theorem half_of {rest : List (String × DataW Unit)} {w : World} (h : laidMet Tryd.prog (("tidewrack/sum.half", Rows.laid_tidewrack_sum_half) :: rest) w) : S.Tab w := by
  have ht : Lib.TabIs Tryd.prog w "tidewrack/sum.half" .u32 halfInts := Lib.tabIs_of_head (rest := rest) gHalf gHalfType Tryd.underlying191 Tryd.underlying175 cells1 cells16 h
  intro j hj
  rw [← (halfInts_tbl j hj).2]
  exact ht.cell gHalf j (halfInts_tbl j hj).1
end Go.Proofs.YtkggmcnocpgnbaaDoor.K
