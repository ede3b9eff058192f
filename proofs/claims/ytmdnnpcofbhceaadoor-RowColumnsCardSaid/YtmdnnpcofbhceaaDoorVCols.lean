/- RowColumns: the runes of a row that these calls make have as many columns as cells, but for a filler: the walk. -/
import Derived.Test.YtmdnnpcofbhceaaDoorVPlays
import Derived.Test.YtmdnnpcofbhceaaDoorKCols
namespace Go.Proofs.YtmdnnpcofbhceaaDoor.K
open Go.RowKit

theorem of_space : W.ofS 32 = 1 := by decide
/-- rows that these calls make -/
structure Col (n : Nat) (r : Ro) : Prop where
  len : r.l.length = n
  rng : AllC Rng r.l
  whole : Whole r.l
  fits : Fits W.ofS r.l
  plain : Plain r.l
theorem Col.next {n : Nat} {r : Ro} (h : Col n r) {A : ActR} (hA : RngA A) (h0 : 0 ≤ A.kind) (h4 : A.kind < 4) : Col n (doS W.ofS r A) := by
  have hl : (doS W.ofS r A).l.length = n := by
    unfold doS
    split
    · rw [put_length]; exact h.len
    · split
      · rw [erase_length]; exact h.len
      · split
        · rw [insert_length]; exact h.len
        · split
          · rw [delete_length]; exact h.len
          · omega
  refine ⟨hl, do_rng h.rng hA, whole_do h.whole, ?_, ?_⟩
  · unfold doS
    split
    · exact fits_put of_space h.fits _ _ _ (W.ofS_le _)
    · split
      · exact fits_erase of_space h.fits _ _ _
      · split
        · exact fits_insert of_space h.fits _ _ _
        · split
          · exact fits_delete of_space h.fits _ _ _
          · omega
  · unfold doS
    split
    · exact plain_put _ h.plain _ _ _
    · split
      · exact plain_erase h.plain _ _ _
      · split
        · exact plain_insert h.plain _ _ _
        · split
          · exact plain_delete h.plain _ _ _
          · omega
def sumG (gs : List (Int × Int)) : Nat := (gs.map fun g => W.ofS g.1).sum
theorem sumG_succ {gs : List (Int × Int)} {j : Nat} (h : j < gs.length) : sumG (gs.take (j + 1)) = sumG (gs.take j) + W.ofS gs[j].1 := by
  unfold sumG
  rw [List.take_succ_eq_append_getElem h, List.map_append, List.sum_append]
  simp
theorem sumG_le : ∀ gs : List (Int × Int), sumG gs ≤ 2 * gs.length
  | [] => by simp [sumG]
  | g :: gs => by
    have := sumG_le gs
    have := W.ofS_le g.1
    unfold sumG at *
    simp only [List.map_cons, List.sum_cons, List.length_cons]
    omega
theorem Col.sum {n : Nat} {r : Ro} (h : Col n r) : sumG (glyphs ⟨r.l, true⟩) = n := by
  unfold sumG
  have h1 := glyphs_cols W.ofS r.l
  have h2 := cols_whole W.ofS r.l h.whole h.fits
  rw [fillers_none _ h.plain, h.len] at h2
  rw [h1]
  omega
theorem Col.fill {n : Nat} {r : Ro} (h : Col n r) : sumG (glyphs ⟨fillS r.l 0, true⟩) = n - 1 := by
  unfold sumG
  have h1 := glyphs_cols W.ofS (fillS r.l 0)
  have h2 := cols_whole W.ofS (fillS r.l 0) (whole_fill _ _) (fits_fill of_space h.fits 0)
  rw [fillers_fill _ _ h.plain, fill_length, h.len] at h2
  rw [h1]
  split at h2
  · rename_i e
    have := h.len
    rw [e] at this
    simp at this
    omega
  · omega
theorem glyphs_length (r : Ro) : (glyphs r).length ≤ r.l.length := by
  unfold glyphs
  rw [List.length_map]
  refine Nat.le_trans (List.length_filter_le _ _) ?_
  unfold trimS
  split
  · exact Nat.le_refl _
  · rw [List.length_reverse]
    have : ∀ l : List Cel, (trimG l).length ≤ l.length := fun l => by
      induction l with
      | nil => exact Nat.le_refl _
      | cons c t ih =>
        unfold trimG
        split
        · simp only [List.length_cons]; omega
        · exact Nat.le_refl _
    refine Nat.le_trans (this _) ?_
    rw [List.length_reverse]
    exact Nat.le_refl _
theorem i64_and5 (n : Int) : bits .and .i64 n 31 = n % 32 := by
  have h127 : (BitVec.ofInt 64 31).toNat = 2 ^ 5 - 1 := by decide
  have key : (BitVec.ofInt 64 n &&& BitVec.ofInt 64 31).toNat = (n % ((2 ^ 64 : Nat) : Int)).toNat % 2 ^ 5 := by
    rw [BitVec.toNat_and, BitVec.toNat_ofInt, h127, Nat.and_two_pow_sub_one_eq_mod]
  show IntKind.i64.wrap ((BitVec.ofInt 64 n &&& BitVec.ofInt 64 31).toNat : Nat) = n % 32
  rw [key, IntKind.wrap_i64]
  omega

set_option maxRecDepth 100000 in
set_option maxHeartbeats 16000000 in
theorem columns_walk (w0 : Int) (a : Option Addr) (n c : Nat) (l : List ActR) (w : World) (hT : W.Tab w) (hA : ActsIn a n c l w) :
    Calls Tryd.prog 6 #[.int .i64 w0, .slice a n c] w fun e w' => e = .returned (.bool true) ∧ Below w.heap.size w w' := by
  obtain ⟨rb, hrb⟩ : ∃ rb, w.heap.size = rb := ⟨_, rfl⟩
  rw [hrb]
  obtain ⟨M, hM⟩ : ∃ M : Nat, bits .and .i64 w0 31 = (M : Int) := ⟨(w0 % 32).toNat, by rw [i64_and5]; omega⟩
  have hM31 : M ≤ 31 := by have := i64_and5 w0; omega
  obtain ⟨r0, hr0⟩ : ∃ r0 : Ro, r0 = ⟨blanks M 0, false⟩ := ⟨_, rfl⟩
  have hcol0 : Col M r0 := by
    rw [hr0]
    exact ⟨blanks_length _ _, all_blanks rng_blk _ _, whole_blanks _ _, fits_blanks of_space _ _, plain_blanks _ _⟩
  have HCol0 := Lib.hid hcol0
  have HR0 := Lib.hid hr0
  have HRb := Lib.hid hrb
  have HT0 := Lib.hid hT
  have HA0 := Lib.hid hA
  have HLn := Lib.hid hA.len
  have hfit : (n : Int) ≤ c := by have := hA.fit; omega
  have htop := hA.top
  have HAw := Lib.hid (awake_any w hT)
  clear hrb hT hA hr0 hcol0
  go_enter Tryd.func6, Tryd.ntmps6
  go_upto_region 3 with (go_at_call 13; refine HAw.out.mono ?_; rintro e w1 ⟨rfl, hb1⟩)
  have HB1 : Hid (Below rb w w1) := Lib.hid (by rw [← HRb.out]; exact hb1)
  have H1 := Lib.hid (rowBlank_any (M : Int) 0 w1)
  have hnn : nearN (M : Int) = M := by unfold nearN; omega
  rw [hnn] at H1
  clear hb1 HAw hnn
  go_wp2_with fail
  refine H1.out.mono ?_
  intro e w2 hp2
  obtain ⟨x1, y1, rfl, hV2, hb2⟩ := RowPost.row hp2 (r := r0) (by rw [HR0.out]) (by rw [HR0.out])
  have hs1 : rb ≤ w1.heap.size := by have := HB1.out.size; have := HRb.out; omega
  have HB2 := Lib.hid (HB1.out.trans (hb2.mono hs1))
  have hs2 : rb ≤ w2.heap.size := Nat.le_trans hs1 hb2.size
  have hl0 : r0.l.length = M := HCol0.out.len
  have hg0 : r0.wrapped = false := by rw [HR0.out]
  rw [hl0, hg0] at hV2 ⊢
  obtain ⟨b, hb⟩ : ∃ b, w2.heap.size = b := ⟨_, rfl⟩
  obtain ⟨w3, hw3⟩ : ∃ w3, w2.alloc (.cells #[.slice x1 M y1, .bool false] 26) = w3 := ⟨_, rfl⟩
  have hb23 : Below w2.heap.size w2 w3 := by rw [← hw3]; exact (Below.refl _ _).alloc (Nat.le_refl _) _
  have hR3 : RoB 26 b (.slice x1 M y1) false w3 := by rw [← hw3, ← hb]; exact RoB.new _ _ _ _
  have hs3 : b + 1 ≤ w3.heap.size := hR3.lt
  have hrbb : rb ≤ b := by omega
  have HB3 := Lib.hid (HB2.out.trans (hb23.mono hs2))
  have HV3 := Lib.hid (hV2.belowAll hb23)
  have HR3 := Lib.hid hR3
  have HW3 := Lib.hid hw3
  have HBb := Lib.hid hb
  clear hp2 hb2 hs1 hs2 hV2 hb23 hR3 hw3 hb H1 hl0 hg0
  go_upto_region 4 with fail
  rw [HW3.out, HBb.out]
  go_wp2_with fail
  go_loopw [6] (fun i wr => ∃ j : Nat, i = .int .i64 (j : Int) ∧ j ≤ n ∧ b + 1 ≤ wr.heap.size ∧ Hid (Below rb w wr ∧ ∃ r x y, Col M r ∧ RoB 26 b (.slice x M y) r.wrapped wr ∧ RowV .i32 (.agg #[.slice x M y, .bool r.wrapped]) r wr)) (fun i _ => n - (intOf i).toNat)
  case atStart => exact ⟨0, rfl, by omega, hs3, Lib.hid ⟨HB3.out, r0, x1, y1, HCol0.out, by rw [show r0.wrapped = false by rw [HR0.out]]; exact HR3.out, by rw [show r0.wrapped = false by rw [HR0.out]]; exact HV3.out⟩⟩
  case round =>
    obtain ⟨j, rfl, hj, hlw, HF⟩ := hrel
    obtain ⟨hbw, r, x, y, hcol, hR, hV⟩ := HF.out
    obtain ⟨g, hg⟩ : ∃ g, r.wrapped = g := ⟨_, rfl⟩
    rw [hg] at hR hV
    have HCol := Lib.hid hcol
    have HR := Lib.hid hR
    have HV := Lib.hid hV
    have HBw := Lib.hid hbw
    have HG := Lib.hid hg
    by_cases hlt : j < n ∧ j < 20
    · have d1 : decide (j < n) = true := decide_eq_true hlt.1
      have d2 : decide ((j : Int) < 20) = true := decide_eq_true (by omega)
      have hjn : (j : Int) < n := by omega
      have hjl : j < l.length := by rw [← HLn.out]; exact hlt.1
      obtain ⟨ab, ao, rfl, hab, hAt⟩ := HA0.out.at_.resolve_left (by intro e; rw [e] at hjl; simp at hjl)
      have hat := (hAt j l[j] (List.getElem?_eq_getElem hjl)).block (hbw.block ab (by rw [← HRb.out]; exact hab))
      have hrg := HA0.out.ok l[j] (List.getElem_mem hjl)
      obtain ⟨Aj, hAj⟩ : ∃ A, l[j] = A := ⟨_, rfl⟩
      rw [hAj] at hat hrg
      obtain ⟨KD, AT, N, S, X⟩ := Aj
      have a0 := hat.c0
      have a1 := hat.c1
      have a2 := hat.c2
      have a3 := hat.c3
      have a4 := hat.c4
      simp only at a0 a1 a2 a3 a4
      obtain ⟨nb, hnb⟩ : ∃ nb, wr.heap.size = nb := ⟨_, rfl⟩
      obtain ⟨w5, hw5⟩ : ∃ w5, wr.alloc (.cells #[.int .i64 KD, .int .i64 AT, .int .i64 N, .int .i64 S, .int .i32 X] 35) = w5 := ⟨_, rfl⟩
      have hblk5 : w5.heap[nb]? = some (.cells #[.int .i64 KD, .int .i64 AT, .int .i64 N, .int .i64 S, .int .i32 X] 35 (0, 0)) := by rw [← hw5, ← hnb]; exact World.alloc_heap_new _ _
      have hb5 : Below wr.heap.size wr w5 := by rw [← hw5]; exact (Below.refl _ _).alloc (Nat.le_refl _) _
      have e0 : w5.cell? ⟨nb, 0, none⟩ = some (.int .i64 KD) := by simp [World.cell?, hblk5]
      have e1 : w5.cell? ⟨nb, 1, none⟩ = some (.int .i64 AT) := by simp [World.cell?, hblk5]
      have e2 : w5.cell? ⟨nb, 2, none⟩ = some (.int .i64 N) := by simp [World.cell?, hblk5]
      have e3 : w5.cell? ⟨nb, 3, none⟩ = some (.int .i64 S) := by simp [World.cell?, hblk5]
      have e4 : w5.cell? ⟨nb, 4, none⟩ = some (.int .i32 X) := by simp [World.cell?, hblk5]
      have HRg : Hid (RngA ⟨KD, AT, N, S, X⟩) := Lib.hid hrg
      have HB5 := Lib.hid (hbw.trans (hb5.mono (by omega)))
      have HR5 := Lib.hid (hR.belowAll hb5)
      have HV5 := Lib.hid (hV.belowAll hb5)
      have hs5 : b + 1 ≤ w5.heap.size := HR5.out.lt
      have HW5 := Lib.hid hw5
      have HNb := Lib.hid hnb
      have t0 := HR5.out.c0
      have t1 := HR5.out.c1
      clear hlt hAt hat hrg hAj hab hw5 hnb hblk5 hb5 hbw hcol hR hV hg
      go_upto_region 8 with fail
      rw [HW5.out, HNb.out]
      clear a0 a1 a2 a3 a4
      by_cases hk : 0 ≤ KD ∧ KD < 4
      · have d3 : decide (KD ≥ 0) = true := decide_eq_true hk.1
        have d3' : decide (0 ≤ KD) = true := decide_eq_true hk.1
        have d4 : decide (KD < 4) = true := decide_eq_true hk.2
        have HD := Lib.hid (do_any (.agg #[.slice x M y, .bool g]) (.agg #[.slice none 0 0, .bool false]) r ⟨[], false⟩ ⟨KD, AT, N, S, X⟩ w5 (HT0.out.belowAll (by rw [HRb.out]; exact HB5.out)) HV5.out ⟨none, 0, rfl, ⟨rfl, .inl rfl⟩, fun _ => rfl, Nat.le_refl _, by decide⟩ (by rw [HCol.out.len]; omega) (Nat.zero_le _) HRg.out)
        unfold actV at HD
        simp only at HD
        have HK := Lib.hid hk
        clear hk
        go_wp2_with fail
        refine HD.out.mono ?_
        rintro e w6 ⟨v1, v2, rfl, k1, k2, k3⟩
        have hcol' := HCol.out.next HRg.out HK.out.1 HK.out.2
        obtain ⟨q, hq⟩ : ∃ q, doS W.ofS r ⟨KD, AT, N, S, X⟩ = q := ⟨_, rfl⟩
        rw [hq] at k1 hcol'
        obtain ⟨x3, y3, rfl⟩ := k1.shape
        rw [hcol'.len] at k1 ⊢
        obtain ⟨g3, hg3⟩ : ∃ g3, q.wrapped = g3 := ⟨_, rfl⟩
        rw [hg3] at k1 ⊢
        have hR6 := HR5.out.belowAll k3
        have hb6 : Below rb w w6 := HB5.out.trans (k3.mono (by omega))
        have HNx : Hid (Below rb w ((w6.setCell ⟨b, 0, none⟩ (.slice x3 M y3)).setCell ⟨b, 1, none⟩ (.bool g3)) ∧ ∃ r x y, Col M r ∧ RoB 26 b (.slice x M y) r.wrapped ((w6.setCell ⟨b, 0, none⟩ (.slice x3 M y3)).setCell ⟨b, 1, none⟩ (.bool g3)) ∧ RowV .i32 (.agg #[.slice x M y, .bool r.wrapped]) r ((w6.setCell ⟨b, 0, none⟩ (.slice x3 M y3)).setCell ⟨b, 1, none⟩ (.bool g3))) := Lib.hid ⟨(hb6.setCell (p := ⟨b, 0, none⟩) hrbb _).setCell (p := ⟨b, 1, none⟩) hrbb _, q, x3, y3, hcol', by rw [hg3]; exact (hR6.set0).set1, by rw [hg3]; exact (k1.setAt hR6 _).setAt (hR6.set0 (v' := .slice x3 M y3)) _⟩
        have s0 := hR6.c0
        have s1 := hR6.c1
        have f0 := hR6.fr 0
        have f1 := hR6.fr 1
        have hl6 : b + 1 ≤ ((w6.setCell ⟨b, 0, none⟩ (.slice x3 M y3)).setCell ⟨b, 1, none⟩ (.bool g3)).heap.size := by
          obtain ⟨-, _, _, _, -, h, -⟩ := HNx.out
          exact h.lt
        clear k1 k2 k3 hcol' hq hg3 hR6 hb6 e0 e1 e2 e3 e4 t0 t1 HD
        go_wp2_with fail
        obtain ⟨w7, hw7⟩ : ∃ w7, (w6.setCell ⟨b, 0, none⟩ (.slice x3 M y3)).setCell ⟨b, 1, none⟩ (.bool g3) = w7 := ⟨_, rfl⟩
        rw [hw7] at HNx hl6
        try rw [hw7]
        go_roundw
        case rel => exact ⟨j + 1, by go_num, by omega, hl6, HNx⟩
        case measure => simp [intOf]; omega
      · have hway : decide (KD ≥ 0) = false ∨ (decide (KD ≥ 0) = true ∧ decide (KD < 4) = false) := by
          by_cases h1 : 0 ≤ KD
          · right; exact ⟨decide_eq_true h1, decide_eq_false (by omega)⟩
          · left; exact decide_eq_false h1
        clear hk
        rcases hway with d3 | ⟨d3, d4⟩
        all_goals
          go_wp2_with fail
          go_roundw
          case rel => exact ⟨j + 1, by go_num, by omega, hs5, Lib.hid ⟨HB5.out, r, x, y, HCol.out, by rw [HG.out]; exact HR5.out, by rw [HG.out]; exact HV5.out⟩⟩
          case measure => simp [intOf]; omega
    · have hway : decide (j < n) = false ∨ (decide (j < n) = true ∧ decide ((j : Int) < 20) = false) := by
        by_cases h1 : j < n
        · right; exact ⟨decide_eq_true h1, decide_eq_false (by omega)⟩
        · left; exact decide_eq_false h1
      have t0 := hR.c0
      have t1 := hR.c1
      have f1 := hR.fr 1
      clear hlt hbw hcol hR hV hg
      rcases hway with d1 | ⟨d1, d2⟩
      all_goals
        go_upto_region 11 with fail
        have hV7 : RowV .i32 (.agg #[.slice x M y, .bool true]) ⟨r.l, true⟩ (wr.setCell ⟨b, 1, none⟩ (.bool true)) := by
          obtain ⟨e1, e2, e3, e4, e5, e6⟩ := (HV.out.setAt HR.out (o := 1) (.bool true)).of
          subst e6
          exact ⟨_, _, rfl, e2, e3, e4, e5⟩
        have hR7 : RoB 26 b (.slice x M y) true (wr.setCell ⟨b, 1, none⟩ (.bool true)) := HR.out.set1
        have hB7 : Below rb w (wr.setCell ⟨b, 1, none⟩ (.bool true)) := HBw.out.setCell (p := ⟨b, 1, none⟩) hrbb _
        obtain ⟨w7, hw7⟩ : ∃ w7, wr.setCell ⟨b, 1, none⟩ (.bool true) = w7 := ⟨_, rfl⟩
        rw [hw7] at hV7 hR7 hB7
        rw [hw7]
        have HV7 := Lib.hid hV7
        have HR7 := Lib.hid hR7
        have HB7 := Lib.hid hB7
        obtain ⟨-, i7, n7, f7, m7, -⟩ := hV7.of
        have HGl := Lib.hid (glyphs_any x M y true r.l w7 i7 (by omega) f7 m7)
        have u0 := hR7.c0
        have u1 := hR7.c1
        have hs7 : rb ≤ w7.heap.size := by have := hR7.lt; omega
        clear hV7 hR7 hB7 hw7 i7 n7 f7 m7 t0 t1 f1
        go_wp2_with fail
        refine HGl.out.mono ?_
        intro e w8 hp8
        obtain ⟨a8, n8, c8, rfl, hGI, hb8⟩ := hp8
        have hn8 : n8 ≤ 31 := by
          have h1 := hGI.len
          have h2 := glyphs_length ⟨r.l, true⟩
          have h3 : (⟨r.l, true⟩ : Ro).l.length = M := HCol.out.len
          omega
        have hf8 : (n8 : Int) ≤ c8 := by have := hGI.fit; omega
        have ht8 := hGI.top
        have HG1 : Hid (True ∧ True ∧ Below w7.heap.size w7 w8) := Lib.hid ⟨trivial, trivial, hb8⟩
        have HSm1 := Lib.hid HCol.out.sum
        obtain ⟨gs1, hgs1⟩ : ∃ gs1, glyphs ⟨r.l, true⟩ = gs1 := ⟨_, rfl⟩
        rw [hgs1] at hGI HSm1
        have HG1s := Lib.hid hGI
        have HTa : Hid (∀ u, Below w8.heap.size w8 u → W.Tab u) := Lib.hid (fun u hu => HT0.out.belowAll (by rw [HRb.out]; exact (HB7.out.trans (hb8.mono hs7)).trans (hu.mono (Nat.le_trans hs7 hb8.size))))
        clear hGI hb8 hgs1 HGl u0 u1
        go_wp2_with fail
        go_loopw [8, 52] (fun z i wv => ∃ k t : Nat, i = .int .i64 (k : Int) ∧ z = .int .i64 (t : Int) ∧ k ≤ n8 ∧ (t : Int) ≤ 100 ∧ w8.heap.size ≤ wv.heap.size ∧ Hid (t = sumG (gs1.take k) ∧ Below w8.heap.size w8 wv)) (fun _ i _ => n8 - (intOf i).toNat)
        case atStart => exact ⟨0, 0, rfl, rfl, by omega, by omega, Nat.le_refl _, Lib.hid ⟨by simp [sumG], Below.refl _ _⟩⟩
        case round =>
          obtain ⟨wv, hwv⟩ : ∃ wv, wv = wr := ⟨_, rfl⟩
          subst hwv
          obtain ⟨k, t, rfl, rfl, hk, ht, hwv, HFk⟩ := hrel
          by_cases hkn : k < n8
          · have d5 : decide (k < n8) = true := decide_eq_true hkn
            have hkl : k < gs1.length := by rw [← HG1s.out.len]; exact hkn
            obtain ⟨gb, go, hga, hgb, hGA⟩ := HG1s.out.at_.resolve_left (by intro e; rw [e] at hkl; simp at hkl)
            subst hga
            have hcell := hGA k gs1[k] (List.getElem?_eq_getElem hkl)
            have hsum := sumG_succ hkl
            have hle : t + W.ofS gs1[k].1 ≤ 2 * (k + 1) := by
              rw [HFk.out.1, ← hsum]
              refine Nat.le_trans (sumG_le _) ?_
              rw [List.length_take]; omega
            obtain ⟨⟨X, S⟩, hXS⟩ : ∃ p, gs1[k] = p := ⟨_, rfl⟩
            rw [hXS] at hcell hsum hle
            simp only at hcell hsum hle
            have hblk := HFk.out.2.block gb hgb
            have x0 := (World.cell?_of_block (a := ⟨gb, go + k * 2, none⟩) hblk).trans hcell.1
            have x1 := (World.cell?_of_block (a := ⟨gb, go + k * 2 + 1, none⟩) hblk).trans hcell.2
            obtain ⟨nb, hnb⟩ : ∃ nb, wv.heap.size = nb := ⟨_, rfl⟩
            obtain ⟨wq, hwq⟩ : ∃ wq, wv.alloc (.cells #[.int .i32 X, .int .i64 S] 50) = wq := ⟨_, rfl⟩
            have hblkq : wq.heap[nb]? = some (.cells #[.int .i32 X, .int .i64 S] 50 (0, 0)) := by rw [← hwq, ← hnb]; exact World.alloc_heap_new _ _
            have hbq : Below wv.heap.size wv wq := by rw [← hwq]; exact (Below.refl _ _).alloc (Nat.le_refl _) _
            have e0 : wq.cell? ⟨nb, 0, none⟩ = some (.int .i32 X) := by simp [World.cell?, hblkq]
            have HBq := Lib.hid (HFk.out.2.trans (hbq.mono hwv))
            have HOf := Lib.hid (W.of_any X wq ((HTa.out _ HBq.out)))
            obtain ⟨co, hco⟩ : ∃ co, W.ofS X = co := ⟨_, rfl⟩
            rw [hco] at HOf hsum hle
            have hco2 : co ≤ 2 := by rw [← hco]; exact W.ofS_le X
            have HSum : Hid (t + co = sumG (gs1.take (k + 1))) := Lib.hid (by rw [hsum, ← HFk.out.1])
            have ht' : ((t + co : Nat) : Int) ≤ 100 := by omega
            have ht2 : (t : Int) + (co : Int) ≤ 100 := by omega
            have hkc : (k : Int) < n8 := by omega
            have HWq := Lib.hid hwq
            have HNb := Lib.hid hnb
            have HLq := Lib.hid hbq.size
            clear hkn hkl hgb hGA hcell hsum hle hXS hblk hwq hnb hblkq hbq hco
            go_upto_region 15 with fail
            rw [HWq.out, HNb.out]
            clear x0 x1
            go_wp2_with (go_at_call 28; refine HOf.out.mono ?_; rintro e wz ⟨rfl, hbz⟩)
            have HBz : Hid (Below w8.heap.size w8 wz) := Lib.hid (HBq.out.trans (hbz.mono HBq.out.size))
            have hlz : w8.heap.size ≤ wz.heap.size := HBz.out.size
            clear hbz HOf e0
            go_roundw
            case rel => exact ⟨k + 1, t + co, by go_num, by go_num, by omega, ht', hlz, Lib.hid ⟨HSum.out, HBz.out⟩⟩
            case measure => simp [intOf]; omega
          · obtain rfl : k = n8 := by omega
            have d5 : decide ((k : Int) < (k : Int)) = false := by simp
            have htk : t = sumG gs1 := by
              have h := HFk.out.1
              rw [List.take_of_length_le (Nat.le_of_eq HG1s.out.len.symm)] at h
              exact h
            have HBv := Lib.hid HFk.out.2
            clear hkn HFk
            have htM : M = t := by rw [htk, HSm1.out]
            clear htk
            subst htM
            have HBr := Lib.hid ((HR7.out.below HG1.out.2.2 HR7.out.lt).below HBv.out (Nat.lt_of_lt_of_le HR7.out.lt HG1.out.2.2.size))
            have HVr := Lib.hid ((HV7.out.belowAll HG1.out.2.2).belowAll HBv.out)
            have HBw2 : Hid (Below rb w wv) := Lib.hid ((HB7.out.trans (HG1.out.2.2.mono hs7)).trans (HBv.out.mono (Nat.le_trans hs7 HG1.out.2.2.size)))
            obtain ⟨-, i8, n8', -, -, -⟩ := HVr.out.of
            have HFi := Lib.hid (rowFill_any x M y true r.l 0 wv i8 n8' (by omega))
            have u0 := HBr.out.c0
            have u1 := HBr.out.c1
            have hsv : rb ≤ wv.heap.size := Nat.le_trans hs7 (Nat.le_trans HG1.out.2.2.size HBv.out.size)
            clear i8 n8'
            go_wp2_with fail
            refine HFi.out.mono ?_
            intro e wf hpf
            obtain ⟨xf, yf, rfl, hVf, hbf⟩ := RowPost.row hpf (r := ⟨fillS r.l 0, true⟩) rfl rfl
            have hlf : (⟨fillS r.l 0, true⟩ : Ro).l.length = M := by show (fillS r.l 0).length = M; rw [fill_length]; exact HCol.out.len
            rw [hlf] at hVf ⊢
            have hwf : (⟨fillS r.l 0, true⟩ : Ro).wrapped = true := rfl
            rw [hwf] at hVf ⊢
            obtain ⟨bf, hbfe⟩ : ∃ bf, wf.heap.size = bf := ⟨_, rfl⟩
            obtain ⟨wh, hwh⟩ : ∃ wh, wf.alloc (.cells #[.slice xf M yf, .bool true] 26) = wh := ⟨_, rfl⟩
            have hbfh : Below wf.heap.size wf wh := by rw [← hwh]; exact (Below.refl _ _).alloc (Nat.le_refl _) _
            have hRh : RoB 26 bf (.slice xf M yf) true wh := by rw [← hwh, ← hbfe]; exact RoB.new _ _ _ _
            have hVh := hVf.belowAll hbfh
            obtain ⟨-, ih, nh, fh, mh, -⟩ := hVh.of
            have HGy := Lib.hid (glyphs_any xf M yf true (fillS r.l 0) wh ih (by omega) fh mh)
            have HBh : Hid (Below rb w wh) := Lib.hid ((HBw2.out.trans (hbf.mono hsv)).trans (hbfh.mono (Nat.le_trans hsv hbf.size)))
            have hsh : rb ≤ wh.heap.size := Nat.le_trans hsv (Nat.le_trans hbf.size hbfh.size)
            have v0 := hRh.c0
            have v1 := hRh.c1
            have HWh := Lib.hid hwh
            have HBfe := Lib.hid hbfe
            clear hpf hVf hbf hlf hwf hwh hbfe hbfh hRh hVh ih nh HFi u0 u1
            go_upto_region 20 with fail
            rw [HWh.out, HBfe.out]
            go_wp2_with fail
            refine HGy.out.mono ?_
            intro e wg hpg
            obtain ⟨ag, ng, cg, rfl, hGI, hbg⟩ := hpg
            have HG2 := Lib.hid hGI
            have HBg := Lib.hid (HBh.out.trans (hbg.mono hsh))
            have hsg : rb ≤ wg.heap.size := Nat.le_trans hsh hbg.size
            have hng : ng ≤ 31 := by
              have h1 := hGI.len
              have h2 := glyphs_length ⟨fillS r.l 0, true⟩
              have h3 : (⟨fillS r.l 0, true⟩ : Ro).l.length = M := by show (fillS r.l 0).length = M; rw [fill_length]; exact HCol.out.len
              omega
            have hfg : (ng : Int) ≤ cg := by have := hGI.fit; omega
            have htg := hGI.top
            have HSm2 := Lib.hid HCol.out.fill
            obtain ⟨gs2, hgs2⟩ : ∃ gs2, glyphs ⟨fillS r.l 0, true⟩ = gs2 := ⟨_, rfl⟩
            rw [hgs2] at HG2 HSm2
            have HTa : Hid (∀ u, Below wg.heap.size wg u → W.Tab u) := Lib.hid (fun u hu => HT0.out.belowAll (by rw [HRb.out]; exact HBg.out.trans (hu.mono hsg)))
            clear hGI hbg hgs2 HGy v0 v1
            go_wp2_with fail
            go_loopw [8, 71] (fun z i wv => ∃ k t : Nat, i = .int .i64 (k : Int) ∧ z = .int .i64 (t : Int) ∧ k ≤ ng ∧ (t : Int) ≤ 100 ∧ wg.heap.size ≤ wv.heap.size ∧ Hid (t = sumG (gs2.take k) ∧ Below wg.heap.size wg wv)) (fun _ i _ => ng - (intOf i).toNat)
            case atStart => exact ⟨0, 0, rfl, rfl, by omega, by omega, Nat.le_refl _, Lib.hid ⟨by simp [sumG], Below.refl _ _⟩⟩
            case round =>
              obtain ⟨wv, hwv⟩ : ∃ wv, wv = wr := ⟨_, rfl⟩
              subst hwv
              obtain ⟨k, t, rfl, rfl, hk, ht, hwv, HFk⟩ := hrel
              by_cases hkn : k < ng
              · have d5 : decide (k < ng) = true := decide_eq_true hkn
                have hkl : k < gs2.length := by rw [← HG2.out.len]; exact hkn
                obtain ⟨gb, go, hga, hgb, hGA⟩ := HG2.out.at_.resolve_left (by intro e; rw [e] at hkl; simp at hkl)
                subst hga
                have hcell := hGA k gs2[k] (List.getElem?_eq_getElem hkl)
                have hsum := sumG_succ hkl
                have hle : t + W.ofS gs2[k].1 ≤ 2 * (k + 1) := by
                  rw [HFk.out.1, ← hsum]
                  refine Nat.le_trans (sumG_le _) ?_
                  rw [List.length_take]; omega
                obtain ⟨⟨X, S⟩, hXS⟩ : ∃ p, gs2[k] = p := ⟨_, rfl⟩
                rw [hXS] at hcell hsum hle
                simp only at hcell hsum hle
                have hblk := HFk.out.2.block gb hgb
                have x0 := (World.cell?_of_block (a := ⟨gb, go + k * 2, none⟩) hblk).trans hcell.1
                have x1 := (World.cell?_of_block (a := ⟨gb, go + k * 2 + 1, none⟩) hblk).trans hcell.2
                obtain ⟨nb, hnb⟩ : ∃ nb, wv.heap.size = nb := ⟨_, rfl⟩
                obtain ⟨wq, hwq⟩ : ∃ wq, wv.alloc (.cells #[.int .i32 X, .int .i64 S] 50) = wq := ⟨_, rfl⟩
                have hblkq : wq.heap[nb]? = some (.cells #[.int .i32 X, .int .i64 S] 50 (0, 0)) := by rw [← hwq, ← hnb]; exact World.alloc_heap_new _ _
                have hbq : Below wv.heap.size wv wq := by rw [← hwq]; exact (Below.refl _ _).alloc (Nat.le_refl _) _
                have e0 : wq.cell? ⟨nb, 0, none⟩ = some (.int .i32 X) := by simp [World.cell?, hblkq]
                have HBq := Lib.hid (HFk.out.2.trans (hbq.mono hwv))
                have HOf := Lib.hid (W.of_any X wq ((HTa.out _ HBq.out)))
                obtain ⟨co, hco⟩ : ∃ co, W.ofS X = co := ⟨_, rfl⟩
                rw [hco] at HOf hsum hle
                have hco2 : co ≤ 2 := by rw [← hco]; exact W.ofS_le X
                have HSum : Hid (t + co = sumG (gs2.take (k + 1))) := Lib.hid (by rw [hsum, ← HFk.out.1])
                have ht' : ((t + co : Nat) : Int) ≤ 100 := by omega
                have ht2 : (t : Int) + (co : Int) ≤ 100 := by omega
                have hkc : (k : Int) < ng := by omega
                have HWq := Lib.hid hwq
                have HNb := Lib.hid hnb
                have HLq := Lib.hid hbq.size
                clear hkn hkl hgb hGA hcell hsum hle hXS hblk hwq hnb hblkq hbq hco
                go_upto_region 24 with fail
                rw [HWq.out, HNb.out]
                clear x0 x1
                go_wp2_with (go_at_call 28; refine HOf.out.mono ?_; rintro e wz ⟨rfl, hbz⟩)
                have HBz : Hid (Below wg.heap.size wg wz) := Lib.hid (HBq.out.trans (hbz.mono HBq.out.size))
                have hlz : wg.heap.size ≤ wz.heap.size := HBz.out.size
                clear hbz HOf e0
                go_roundw
                case rel => exact ⟨k + 1, t + co, by go_num, by go_num, by omega, ht', hlz, Lib.hid ⟨HSum.out, HBz.out⟩⟩
                case measure => simp [intOf]; omega
              · obtain rfl : k = ng := by omega
                have d5 : decide ((k : Int) < (k : Int)) = false := by simp
                have htk : t = sumG gs2 := by
                  have h := HFk.out.1
                  rw [List.take_of_length_le (Nat.le_of_eq HG2.out.len.symm)] at h
                  exact h
                have HBv := Lib.hid HFk.out.2
                clear hkn HFk
                rw [HSm2.out] at htk
                have hmax : max 0 ((M : Int) - 1) = (t : Int) := by omega
                clear htk
                go_wp2_with fail
                go_ret
                exact ⟨by simp, HBg.out.trans (HBv.out.mono hsg)⟩

end Go.Proofs.YtmdnnpcofbhceaaDoor.K
