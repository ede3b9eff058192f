/- The contract of the document's own At. -/
import Derived.Test.YtjlhinofglokoaaDoorFWiW
import Derived.Test.YtjlhinofglokoaaDoorFAt
namespace Go.Proofs.YtjlhinofglokoaaDoor.F
open Go.RowKit H
open W (ofS refOf refOf_any ofS_ref ofS_le)

theorem results_tmp2 {fn : Func} {p q : Tmp} (h : fn.results = #[.tmp p, .tmp q]) (tmps : Array Value) (P : Program) (w : World) : (results fn tmps).run P w = .ok (.tuple #[tmps.getD p undef, tmps.getD q undef]) w := by
  simp [results, h, Sem.run_bind, Result.andThen]
set_option maxRecDepth 100000 in
set_option maxHeartbeats 8000000 in
theorem refAt_any (a : Option Addr) (n c : Nat) (l : List (Int × Int)) (W i : Int) (w : World) (h : PairsIn .i64 a n c l w) (hr : RngG l) (hn : n ≤ 90) :
    Calls Tryd.prog 13 #[.slice a n c, .int .i64 W, .int .i64 i] w (AtPost (atF (clampW W) l i) w) := by
  obtain ⟨P, hP⟩ : ∃ P, AtPost (atF (clampW W) l i) w = P := ⟨_, rfl⟩
  rw [hP]
  have HP := Lib.hid hP
  have HL := Lib.hid h.len
  by_cases hin : 0 ≤ i ∧ i < (n : Int)
  · obtain ⟨k, hk⟩ : ∃ k : Nat, i = (k : Int) := ⟨i.toNat, by omega⟩
    subst hk
    have hkn : k < n := by omega
    have d1 : decide ((k : Int) < 0) = false := decide_eq_false (by omega)
    have d2 : decide ((k : Int) ≥ (n : Int)) = false := decide_eq_false (by omega)
    have d2' : decide ((n : Int) ≤ (k : Int)) = false := decide_eq_false (by omega)
    have d2'' : decide (n ≤ k) = false := decide_eq_false (by omega)
    have hcu := refCut_any a n c l W w h hr hn
    have hcl := clampW_le W
    obtain ⟨C, hC⟩ : ∃ C, clampW W = C := ⟨_, rfl⟩
    rw [hC] at hcu hcl
    have HC := Lib.hid hC
    obtain ⟨L, hLL⟩ : ∃ L, cutR C l = L := ⟨_, rfl⟩
    rw [hLL] at hcu
    have HLL := Lib.hid hLL
    have HAt : Hid (∀ j r, L[j]? = some r → (L.take j).flatten.length ≤ k → k < (L.take j).flatten.length + r.length → P = AtPost (j, sumG (r.take (k - (L.take j).flatten.length))) w) := Lib.hid (fun j r h1 h2 h3 => by
      have h4 := atB_snoc L k j r h1 h2 h3
      rw [← hLL, atB_cut C l k (by rw [← h.len]; exact hkn)] at h4
      rw [← hP]
      unfold atF
      rw [if_pos (by have := h.len; omega), Int.toNat_natCast, hC, Option.some.inj h4, hLL])
    have HFl : Hid (L.flatten.length = n) := Lib.hid (by rw [← hLL, cutR_join, h.len])
    have HRr : Hid (∀ r ∈ L, RngG r) := Lib.hid (by rw [← hLL]; exact fun r h => row_rng hr h)
    have HRl : Hid (∀ r ∈ L, r.length ≤ 90) := Lib.hid (by rw [← hLL]; intro r hm; have := row_len l hm; have := h.len; omega)
    have HKl : Hid (L.length ≤ 91) := Lib.hid (by rw [← hLL]; have := cut_short C hcl.1 l; have := h.len; omega)
    have HCu := Lib.hid hcu
    clear hP h hr hcu hcl hC hLL hin
    go_enter Tryd.func13, Tryd.ntmps13
    go_wp2_with fail
    refine HCu.out.mono ?_
    rintro e w1 ⟨v1, us1, rfl, hus1, hsv1, hb1⟩
    obtain ⟨a1, c1, rfl, hr1⟩ := own_rows hus1 hsv1
    obtain ⟨K, hK⟩ : ∃ K, L.length = K := ⟨_, rfl⟩
    have hK91 : K ≤ 91 := by rw [← hK]; exact HKl.out
    rw [hK] at hr1 ⊢
    have HK := Lib.hid hK
    have HR1 := Lib.hid hr1
    have HB1 := Lib.hid hb1
    clear hus1 hsv1 hr1 hK hb1 HCu
    go_wp2_with fail
    go_loopw [2, 25] (fun s i wr => ∃ j m : Nat, i = .int .i64 (j : Int) ∧ s = .int .i64 (m : Int) ∧ j ≤ K ∧ m ≤ k ∧ Hid (m + (L.take j).flatten.length = k ∧ Below w1.heap.size w1 wr)) (fun _ i _ => K - (intOf i).toNat)
    case atStart => exact ⟨0, k, rfl, rfl, Nat.zero_le _, Nat.le_refl _, Lib.hid ⟨by simp, Below.refl _ _⟩⟩
    case round =>
      obtain ⟨j, m, rfl, rfl, hj, hm, HF⟩ := hrel
      have hlt : j < K := by
        rcases Nat.lt_or_ge j K with h | h
        · exact h
        · have h1 := HF.out.1
          rw [List.take_of_length_le (by rw [HK.out]; exact h), HFl.out] at h1
          omega
      have hd : decide (j < K) = true := decide_eq_true hlt
      have hjI : (j : Int) < K := by omega
      obtain ⟨us, hs, hv⟩ := HR1.out.belowAll HF.out.2
      obtain ⟨u, hu⟩ : ∃ u, us[j]? = some u := ⟨_, List.getElem?_eq_getElem (by rw [← hs.len]; exact hlt)⟩
      obtain ⟨r, hr⟩ : ∃ r, L[j]? = some r := ⟨_, List.getElem?_eq_getElem (by rw [HK.out]; exact hlt)⟩
      obtain ⟨b, off, rfl, hb, hat⟩ := hs.at_.resolve_left (by rintro rfl; cases hu)
      have c0 := hat j u hu
      have hrow := (hv.2 j u r hu hr).1
      have hrm := List.mem_of_getElem? hr
      obtain ⟨ua, un, uc⟩ := u
      simp only at c0 hrow
      have hul := hrow.len
      have hun : un ≤ 90 := by rw [hul]; exact HRl.out r hrm
      have huc := hrow.fit
      have hutop := hrow.top
      have HRow := Lib.hid hrow
      have HUl := Lib.hid hul
      have HRg := Lib.hid (HRr.out r hrm)
      have HHr := Lib.hid hr
      clear hat hu hrow hul hr hs hv hb hrm
      by_cases hmr : m < un
      · have d3 : decide ((m : Int) < (un : Int)) = true := decide_eq_true (by omega)
        have d3' : decide (m < un) = true := decide_eq_true hmr
        have hmc : (m : Int) ≤ uc := by omega
        go_wp2_with fail
        obtain ⟨wv, hwv⟩ : ∃ wv, wv = wr := ⟨_, rfl⟩
        subst hwv
        go_loopw [10, 38] (fun s i wr => ∃ q A : Nat, i = .int .i64 (q : Int) ∧ s = .int .i64 (A : Int) ∧ q ≤ m ∧ A ≤ 2 * q ∧ Hid (A = sumG (r.take q) ∧ Below wv.heap.size wv wr)) (fun _ i _ => m - (intOf i).toNat)
        case atStart => exact ⟨0, 0, rfl, rfl, Nat.zero_le _, Nat.zero_le _, Lib.hid ⟨rfl, Below.refl _ _⟩⟩
        case round =>
          obtain ⟨q, A, rfl, rfl, hq, hA, HI⟩ := hrel
          by_cases hlq : q < m
          · have hdq : decide (q < m) = true := decide_eq_true hlq
            have hqI : (q : Int) < m := by omega
            have hql : q < r.length := by rw [← HUl.out]; omega
            obtain ⟨b2, off2, rfl, hb2, hat⟩ := HRow.out.at_.resolve_left (by intro e; rw [e] at hql; simp at hql)
            have htk := List.take_succ_eq_append_getElem hql
            have hrg := HRg.out r[q] (List.getElem_mem hql)
            obtain ⟨⟨z, sty⟩, hg⟩ : ∃ g, r[q] = g := ⟨_, rfl⟩
            have hk := hat q (z, sty) (by rw [List.getElem?_eq_getElem hql, hg])
            rw [hg] at htk hrg
            have k0 := (HI.out.2.cell (p := ⟨b2, off2 + q * 2, none⟩) hb2).trans hk.1
            have k1 := (HI.out.2.cell (p := ⟨b2, off2 + q * 2 + 1, none⟩) hb2).trans hk.2
            have hsz : A + ofS z = sumG (r.take (q + 1)) := by rw [htk, sumG_append, ← HI.out.1, sumG_cons, sumG_nil]; rfl
            have hof := ofS_le z
            have href := ofS_ref z hrg.1 hrg.2
            obtain ⟨Z, hZ⟩ : ∃ Z, ofS z = Z := ⟨_, rfl⟩
            rw [hZ] at hsz hof href
            have HSz := Lib.hid hsz
            have HOf := Lib.hid (refOf_any z (wr.alloc (.cells #[.int .i64 z, .int .i64 sty] 65)))
            rw [← href] at HOf
            clear hat hql htk hrg hg hk hsz hZ href hb2 c0
            go_wp2_with fail
            refine HOf.out.mono ?_
            rintro e w9 ⟨rfl, hb9⟩
            have hb49 : Below wr.heap.size wr w9 := ((Below.refl _ _).alloc (Nat.le_refl _) (.cells #[.int .i64 z, .int .i64 sty] 65)).trans (hb9.mono (by simp))
            have HE : Hid (A + Z = sumG (r.take (q + 1)) ∧ Below wv.heap.size wv w9) := Lib.hid ⟨HSz.out, HI.out.2.trans (hb49.mono HI.out.2.size)⟩
            clear hb9 hb49 HOf k0 k1
            go_wp2_with fail
            go_roundw
            case rel => exact ⟨q + 1, A + Z, by go_num, by go_num, by omega, by omega, HE⟩
            case measure => simp [intOf]; omega
          · obtain rfl : q = m := by omega
            have hdq : decide (q < q) = false := by simp
            have hend : Hid (P (.returned (.tuple #[.int .i64 (j : Int), .int .i64 (A : Int)])) wr) := Lib.hid (by
              have h1 := HF.out.1
              have h2 := HAt.out j r HHr.out (by omega) (by rw [← HUl.out]; omega)
              rw [show k - (L.take j).flatten.length = q by omega, ← HI.out.1] at h2
              rw [h2]
              exact ⟨rfl, HB1.out.trans ((HF.out.2.trans (HI.out.2.mono HF.out.2.size)).mono HB1.out.size)⟩)
            clear HI HRow HF c0
            go_wp2_with fail
            first | exact hend.out | exact bodyPost_ret (a := { tmps := _, defers := [] }) (results_tmp2 rfl _ _ _) rfl hend.out
      · have d3 : decide ((m : Int) < (un : Int)) = false := decide_eq_false (by omega)
        have d3' : decide (m < un) = false := decide_eq_false hmr
        have HE : Hid (m - un + (L.take (j + 1)).flatten.length = k ∧ Below w1.heap.size w1 wr) := Lib.hid ⟨by
          rw [totS_succ HHr.out, List.length_append, ← HUl.out]
          have := HF.out.1
          omega, HF.out.2⟩
        have hsub : (m : Int) - (un : Int) = ((m - un : Nat) : Int) := by omega
        have HSub := Lib.hid hsub
        clear HF HRow hsub
        go_wp2_with fail
        go_roundw
        case rel => exact ⟨j + 1, m - un, by go_num, by rw [HSub.out], by omega, by omega, HE⟩
        case measure => simp [intOf]; omega
  · have hz : atF (clampW W) l i = (0, 0) := by unfold atF; rw [if_neg (by rw [← h.len]; exact hin)]
    have hend : Hid (P (.returned (.tuple #[.int .i64 0, .int .i64 0])) w) := Lib.hid (by rw [← hP, hz]; exact ⟨rfl, Below.refl _ _⟩)
    have hway : decide (i < 0) = true ∨ (decide (i < 0) = false ∧ decide (i ≥ (n : Int)) = true ∧ decide ((n : Int) ≤ i) = true) := by
      by_cases h0 : i < 0
      · exact .inl (decide_eq_true h0)
      · exact .inr ⟨decide_eq_false h0, decide_eq_true (by omega), decide_eq_true (by omega)⟩
    clear hP h hr hz hin
    rcases hway with d1 | ⟨d1, d2, d3⟩
    all_goals
      go_enter Tryd.func13, Tryd.ntmps13
      go_wp2_with fail
      first | exact hend.out | exact bodyPost_ret (a := { tmps := _, defers := [] }) (results_tmp2 rfl _ _ _) rfl hend.out
end Go.Proofs.YtjlhinofglokoaaDoor.F
