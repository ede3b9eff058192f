/- GridSteps: some rows at once, or one by one: the walk. -/
import Derived.Test.YtkggmcnocpgnbaaDoorMerged22
namespace Go.Proofs.YtkggmcnocpgnbaaDoor.K
open Go.RowKit

def SpOk (g ab ao na ca j : Nat) (xj : Gd) (A : ActG) (a : Option Addr) (n c : Nat) : Nat → Value → World → Prop
  | 0, u, _ => u = .pointer (some ⟨g, 0, none⟩)
  | 1, u, _ => u = .agg #[.int .i64 (xj.W : Int), .slice a n c]
  | 2, u, _ => u = .slice (some ⟨ab, ao, none⟩) na ca
  | 3, u, _ => u = .int .i64 (j : Int)
  | 4, u, _ => u = .pointer (some ⟨ab, ao + j * 13, none⟩)
  | 5, u, _ => u = .agg (actC A)
  | 6, _, _ => True
  | 7, u, w => ∃ a, u = .tuple #[a, .bool true]
  | 8, _, _ => True
  | 9, u, _ => u = .bool true
  | 10, _, _ => True
  | _, _, _ => True
set_option maxRecDepth 100000 in
set_option maxHeartbeats 16000000 in
theorem steps_walk (aa : Option Addr) (na ca : Nat) (la : List ActG) (A0 : ActG) (n0 : Int) (w : World) (hT : W.Tab w) (hA : GActsIn aa na ca la w) (hR0 : RngA A0.row) :
    Calls Tryd.prog 10 #[.slice aa na ca, .agg (actC A0), .int .i64 n0] w fun e w' => e = .returned (.bool true) ∧ Below w.heap.size w w' := by
  obtain ⟨rb, hrb⟩ : ∃ rb, w.heap.size = rb := ⟨_, rfl⟩
  rw [hrb]
  obtain ⟨P, hP⟩ : ∃ P : Ending → World → Prop, (fun e w' => e = .returned (.bool true) ∧ Below rb w w') = P := ⟨_, rfl⟩
  rw [hP]
  have HP := Lib.hid hP
  have HRb := Lib.hid hrb
  have HT0 := Lib.hid hT
  have HA0 := Lib.hid hA
  have HLn := Lib.hid hA.len
  have hfit : (na : Int) ≤ ca := by have := hA.fit; omega
  have htop := hA.top
  obtain ⟨wb, hwb⟩ : ∃ wb, w.alloc (.cells (actC A0) 77) = wb := ⟨_, rfl⟩
  have hbb : Below w.heap.size w wb := by rw [← hwb]; exact (Below.refl _ _).alloc (Nat.le_refl _) _
  have hab : ActB rb A0 wb := by rw [← hwb, ← hrb]; exact World.alloc_heap_new w _
  have HWb := Lib.hid hwb
  have HAb := Lib.hid hab
  have HBb : Hid (Below rb w wb) := Lib.hid (by rw [← hrb]; exact hbb)
  have HAw := Lib.hid (gawake_any wb (hT.belowAll hbb))
  clear hwb hab hbb
  clear hP hrb hT hA hR0
  go_enter Tryd.func10, Tryd.ntmps10
  go_upto_region 1 with fail
  try rw [HWb.out]
  try rw [HRb.out]
  go_upto_region 3 with (go_at_call 34; refine HAw.out.mono ?_; rintro e w1 ⟨rfl, hb1⟩)
  have HB1 : Hid (Below rb w w1) := Lib.hid (HBb.out.trans (hb1.mono (Nat.le_of_lt HAb.out.lt)))
  have HA1 : Hid (ActB rb A0 w1) := Lib.hid (HAb.out.kept (hb1.block rb HAb.out.lt))
  clear hb1 HAw HWb
  have HN := Lib.hid (gnew_any 4 5 w1)
  go_wp2_with fail
  refine HN.out.mono ?_
  rintro e w2 ⟨g, q, rfl, hg, hq, hG, hb2⟩
  have hs1 : rb ≤ w1.heap.size := Nat.le_of_lt HA1.out.lt
  have HGq : Hid (rb ≤ g ∧ rb ≤ q) := Lib.hid (by omega)
  have HG := Lib.hid hG
  have HA2 : Hid (ActB rb A0 w2) := Lib.hid (HA1.out.kept (hb2.block rb HA1.out.lt))
  have HB2 : Hid (Below rb w w2) := Lib.hid (HB1.out.trans (hb2.mono hs1))
  have HS2 : Hid (rb ≤ w2.heap.size) := Lib.hid (by have := hb2.size; omega)
  clear hg hq hG hb2 hs1 HN
  have HN := Lib.hid (refNew_any (L := [g, q]) 4 5 w2 (fun p hp => by
    have h2 : p = g ∨ p = q := by simpa using hp
    have := HG.out.lt
    omega))
  obtain ⟨x0, hx0⟩ : ∃ x0, newG 4 5 = x0 := ⟨_, rfl⟩
  rw [hx0] at HN HG
  have HX0 := Lib.hid hx0
  clear hx0
  go_wp2_with fail
  refine HN.out.mono ?_
  rintro e w3 ⟨v3, rfl, hR3, hb3⟩
  obtain ⟨a3, n3, c3, rfl, hl3⟩ := hR3
  unfold refV
  obtain ⟨px, hpx⟩ : ∃ p, w3.heap.size = p := ⟨_, rfl⟩
  obtain ⟨w4, hw4⟩ : ∃ w4, w3.alloc (.cells #[.int .i64 (x0.W : Int), .slice a3 n3 c3] 82) = w4 := ⟨_, rfl⟩
  have hS := SynQ.init (m := rb) (oa := some (rb, A0)) (w0 := w) (L := [g, q]) HGq.out.1 HGq.out.2 (fun p hp => by
    have h2 : p = g ∨ p = q := by simpa using hp
    have := HG.out.lt
    have := hb3.size
    omega) (HG.out.below hb3) ⟨a3, n3, c3, rfl, hl3⟩ (by simp) (by simp) (HB2.out.trans (hb3.mono HS2.out)) (Nat.le_trans HS2.out hb3.size) (fun p A' e => by cases e; exact HA2.out.kept (hb3.block rb HA2.out.lt))
  rw [hpx, hw4] at hS
  have HS := Lib.hid hS
  have HPx := Lib.hid hpx
  have HW4 := Lib.hid hw4
  clear hS hl3 hb3 hpx hw4 HG HN
  go_upto_region 4 with fail
  rw [HPx.out, HW4.out]
  go_wp2_with fail
  go_loopw [9] (fun i wr => ∃ j : Nat, i = .int .i64 (j : Int) ∧ j ≤ na ∧ Hid (∃ x a n c, True ∧ SynQ rb g px (some (rb, A0)) x (refV x.W a n c) x.W (.slice a n c) w wr)) (fun i _ => na - (intOf i).toNat)
  case atStart => exact ⟨0, rfl, by omega, Lib.hid ⟨x0, a3, n3, c3, trivial, HS.out⟩⟩
  case round =>
    obtain ⟨j, rfl, hj, HF⟩ := hrel
    clear HS
    obtain ⟨xj, a, n, c, hI, hS⟩ := HF.out
    have HI := Lib.hid hI
    clear hI
    have HB : Hid (Below rb w wr ∧ rb ≤ wr.heap.size) := Lib.hid ⟨hS.b, hS.m⟩
    by_cases hlt : j < na ∧ j < 10
    · have d1 : decide (j < na) = true := decide_eq_true hlt.1
      have d2 : decide ((j : Int) < 10) = true := decide_eq_true (by omega)
      have hjn : (j : Int) < na := by omega
      have hjl : j < la.length := by rw [← HLn.out]; exact hlt.1
      obtain ⟨ab, ao, rfl, hab, hAt⟩ := HA0.out.at_.resolve_left (by intro e; rw [e] at hjl; simp at hjl)
      have hat := hAt j la[j] (List.getElem?_eq_getElem hjl)
      have hrg := HA0.out.ok la[j] (List.getElem_mem hjl)
      obtain ⟨A, hAj⟩ : ∃ A, la[j] = A := ⟨_, rfl⟩
      rw [hAj] at hat hrg
      have HAl : Hid (ab < rb) := Lib.hid (by rw [← HRb.out]; exact hab)
      have hK := (hat.block (hS.b.block ab HAl.out)).c0
      obtain ⟨KD, hKD⟩ : ∃ k, A.kind = k := ⟨_, rfl⟩
      rw [hKD] at hK
      have HKD := Lib.hid hKD
      have HAt := Lib.hid hat
      have HRg := Lib.hid hrg
      clear hlt hAt hat hrg hAj hab hKD hjl
      by_cases h0 : 0 ≤ KD
      · have d3 : decide (0 ≤ KD) = true := decide_eq_true h0
        have d3' : decide (KD ≥ 0) = true := decide_eq_true h0
        by_cases h3 : KD < 3
        · have d4 : decide (KD < 3) = true := decide_eq_true h3
          obtain ⟨y, hy⟩ : ∃ y, stepG xj A = y := ⟨_, rfl⟩
          have HIy : Hid True := Lib.hid trivial
          have HS := Lib.hid hS
          have HY := Lib.hid hy
          have hc0 := hS.xb.c0
          have hc1 := hS.xb.c1
          clear hy hS HF h0 h3
          go_upto_region 10 with fail
          clear d3 d3' d4 hK
          refine Go.Proofs.YtkggmcnocpgnbaaDoor.R.wp_region_prog [1, 6, 7, 8, 10] (by kernel_rfl) (StG rb g px (some (rb, A0)) xj y a n c w 51 44 52) (fun _ _ => True) (SpOk g ab ao na ca j xj A a n c) (by rfl) (by kernel_rfl) (by kernel_rfl) (by kernel_rfl) ?hcong ?hOk ?hop ?hdone ?h0
          case hcong => exact fun k f f2 u hs hst => StG.cong (fun hk => hs 51 (Go.Proofs.YtkggmcnocpgnbaaDoor.R.mem_slots (by subst hk; kernel_rfl))) (fun hk => hs 44 (Go.Proofs.YtkggmcnocpgnbaaDoor.R.mem_slots (by subst hk; kernel_rfl))) (fun hk => hs 52 (Go.Proofs.YtkggmcnocpgnbaaDoor.R.mem_slots (by subst hk; kernel_rfl))) hst
          case hOk => intro i u w1 w2 h hr; unfold SpOk at h ⊢; split <;> first | exact True.intro | exact h
          case h0 => exact SynQ.below HS.out ((Below.refl _ _).drew)
          case hop =>
            refine ⟨?_, ?_, ?_, ?_, ?_, ?_, ?_, ?_, ?_, ?_, ?_, trivial⟩
            · intro k z v hst hag hdep
              refine .inl ⟨rfl, fun K hK => ?_⟩
              have d7 : z.tmps.getD 7 undef = .pointer (some ⟨g, 0, none⟩) := hag.2.2 7 (by kernel_rfl)
              have e7 := d7
              rw [Array.getD_eq_getD_getElem?] at e7
              have HSt := Lib.hid hst
              clear hdep hag hst
              go_simp
              exact hK _ _ trivial rfl HSt.out
            · intro z v hst hag hdep
              refine ⟨rfl, fun K hK => ?_⟩
              have d8 : z.tmps.getD 8 undef = .pointer (some ⟨px, 0, none⟩) := hag.2.2 8 (by kernel_rfl)
              have e8 := d8
              rw [Array.getD_eq_getD_getElem?] at e8
              have l0 := (SynQ.xb hst).c0
              have l1 := (SynQ.xb hst).c1
              have HSt := Lib.hid hst
              clear hdep hag hst
              go_simp
              exact hK _ _ trivial rfl HSt.out
            · intro k z v hst hag hdep
              refine .inl ⟨rfl, fun K hK => ?_⟩
              have d0 : z.tmps.getD 0 undef = .slice (some ⟨ab, ao, none⟩) na ca := hag.2.2 0 (by kernel_rfl)
              have e0 := d0
              rw [Array.getD_eq_getD_getElem?] at e0
              have HSt := Lib.hid hst
              clear hdep hag hst
              go_simp
              exact hK _ _ trivial rfl HSt.out
            · intro k z v hst hag hdep
              refine .inl ⟨rfl, fun K hK => ?_⟩
              have d9 : z.tmps.getD 9 undef = .int .i64 (j : Int) := hag.2.2 9 (by kernel_rfl)
              have e9 := d9
              rw [Array.getD_eq_getD_getElem?] at e9
              have HSt := Lib.hid hst
              clear hdep hag hst
              go_simp
              exact hK _ _ trivial rfl HSt.out
            · intro k z v hst hag hdep
              refine .inl ⟨rfl, fun K hK => ?_⟩
              have d47 : z.tmps.getD 47 undef = .slice (some ⟨ab, ao, none⟩) na ca := hdep { on := 2, ground := .data } (by simp) rfl _ _ rfl rfl
              have e47 := d47
              rw [Array.getD_eq_getD_getElem?] at e47
              have d48 : z.tmps.getD 48 undef = .int .i64 (j : Int) := hdep { on := 3, ground := .data } (by simp) rfl _ _ rfl rfl
              have e48 := d48
              rw [Array.getD_eq_getD_getElem?] at e48
              have HSt := Lib.hid hst
              clear hdep hag hst
              go_simp
              exact hK _ _ trivial rfl HSt.out
            · intro k z v hst hag hdep
              refine .inl ⟨rfl, fun K hK => ?_⟩
              have d49 : z.tmps.getD 49 undef = .pointer (some ⟨ab, ao + j * 13, none⟩) := hdep { on := 4, ground := .data } (by simp) rfl _ _ rfl rfl
              have e49 := d49
              rw [Array.getD_eq_getD_getElem?] at e49
              have hA := HAt.out.block (hst.xb.1.block ab HAl.out)
              have l0 := hA.c0
              have l1 := hA.c1
              have l2 := hA.c2
              have l3 := hA.c3
              have l4 := hA.c4
              have l5 := hA.c5
              have l6 := hA.c6
              have l7 := hA.c7
              have l8 := hA.c8
              have l9 := hA.c9
              have l10 := hA.c10
              have l11 := hA.c11
              have l12 := hA.c12
              have HSt := Lib.hid hst
              clear hdep hag hst
              go_simp
              exact hK _ _ trivial rfl HSt.out
            · intro z v hst hag hdep
              refine ⟨rfl, fun K hK => ?_⟩
              have d45 : z.tmps.getD 45 undef = .pointer (some ⟨g, 0, none⟩) := hdep { on := 0, ground := .data } (by simp) rfl _ _ rfl rfl
              have e45 := d45
              rw [Array.getD_eq_getD_getElem?] at e45
              have d46 : z.tmps.getD 46 undef = .agg #[.int .i64 (xj.W : Int), .slice a n c] := hdep { on := 1, ground := .data } (by simp) rfl _ _ rfl rfl
              have e46 := d46
              rw [Array.getD_eq_getD_getElem?] at e46
              have d50 : z.tmps.getD 50 undef = .agg (actC A) := hdep { on := 5, ground := .data } (by simp) rfl _ _ rfl rfl
              have e50 := d50
              rw [Array.getD_eq_getD_getElem?] at e50
              have HC := Lib.hid (SynQ.call (A := A) hst (HT0.out.belowAll (by rw [HRb.out]; exact (SynQ.b hst))) HRg.out)
              rw [HY.out] at HC
              unfold refV actC at HC
              have hsz : 51 < z.tmps.size := by rw [hag.2.1]; show 51 < 119; decide
              clear hdep hag hst
              try unfold actC at e50
              go_simp
              refine HC.out.mono ?_
              rintro e w' ⟨v', rfl, hS⟩
              exact hK _ _ trivial True.intro ⟨v', Go.Proofs.YtkggmcnocpgnbaaDoor.R.slot_same hsz, hS⟩
            · intro z v hst hag hdep
              refine ⟨rfl, fun K hK => ?_⟩
              obtain ⟨v', f, hS⟩ := hst
              have d51 : z.tmps.getD 51 undef = .tuple #[v', .bool true] := f
              have e51 := d51
              rw [Array.getD_eq_getD_getElem?] at e51
              have hsz : 44 < z.tmps.size := by rw [hag.2.1]; show 44 < 119; decide
              clear hdep hag f
              go_simp
              exact hK _ _ trivial ⟨v', rfl⟩ ⟨v', Go.Proofs.YtkggmcnocpgnbaaDoor.R.slot_same hsz, hS⟩
            · intro z v hst hag hdep
              refine ⟨rfl, fun K hK => ?_⟩
              have d44' : SpOk g ab ao na ca j xj A a n c 7 (z.tmps.getD 44 undef) v := hdep { on := 7, ground := .data } (by simp) rfl _ _ rfl rfl
              simp only [SpOk] at d44'
              obtain ⟨t_, d44⟩ := d44'
              have e44 := d44
              rw [Array.getD_eq_getD_getElem?] at e44
              clear e44 d44
              obtain ⟨v', f, hS⟩ := hst
              have d44 : z.tmps.getD 44 undef = .tuple #[v', .bool true] := f
              have e44 := d44
              rw [Array.getD_eq_getD_getElem?] at e44
              have hsz : 52 < z.tmps.size := by rw [hag.2.1]; show 52 < 119; decide
              clear hdep hag f
              go_simp
              refine hK _ _ trivial True.intro ?_
              show SynQ _ _ _ _ _ (Go.Proofs.YtkggmcnocpgnbaaDoor.R.slot _ _) _ _ _ _
              rw [Go.Proofs.YtkggmcnocpgnbaaDoor.R.slot_same hsz]
              exact hS
            · intro k z v hst hag hdep
              refine .inl ⟨rfl, fun K hK => ?_⟩
              have d44' : SpOk g ab ao na ca j xj A a n c 7 (z.tmps.getD 44 undef) v := hdep { on := 7, ground := .data } (by simp) rfl _ _ rfl rfl
              simp only [SpOk] at d44'
              obtain ⟨t_, d44⟩ := d44'
              have e44 := d44
              rw [Array.getD_eq_getD_getElem?] at e44
              have HSt := Lib.hid hst
              clear hdep hag hst
              go_simp
              exact hK _ _ trivial rfl HSt.out
            · intro z v hst hag hdep
              refine ⟨rfl, fun K hK => ?_⟩
              have d8 : z.tmps.getD 8 undef = .pointer (some ⟨px, 0, none⟩) := hag.2.2 8 (by kernel_rfl)
              have e8 := d8
              rw [Array.getD_eq_getD_getElem?] at e8
              have hS : SynQ rb g px (some (rb, A0)) y (Go.Proofs.YtkggmcnocpgnbaaDoor.R.slot z 52) xj.W (.slice a n c) w v := hst
              obtain ⟨a2, n2, c2, he⟩ := hS.shape
              rw [he] at hS
              have d52 : z.tmps.getD 52 undef = refV y.W a2 n2 c2 := he
              have e52 := d52
              rw [Array.getD_eq_getD_getElem?] at e52
              unfold refV at e52 d52
              have l0 := hS.xb.c0
              have l1 := hS.xb.c1
              have f0 := hS.xb.fr 0
              have f1 := hS.xb.fr 1
              have HS2 := Lib.hid hS.store
              clear hdep hag hst hS he
              go_simp
              exact hK undef _ trivial True.intro ⟨a2, n2, c2, HS2.out⟩
          case hdone =>
            intro z v hst hag hok
            obtain ⟨a2, n2, c2, hS⟩ := hst
            have HS2 := Lib.hid hS
            clear hS HS hc0 hc1
            obtain ⟨uu, hu, hzz⟩ := Go.Proofs.YtkggmcnocpgnbaaDoor.R.agree_frame [45, 46, 47, 48, 49, 50, 51, 44, 52, 53] rfl hag

            subst hzz
            simp only [List.foldl_cons, List.foldl_nil]
            rw []
            clear  hu hag hok
            try dsimp only [Exit.then]
            simp only [List.setIfInBounds_toArray, List.set_cons_succ, List.set_cons_zero]
            generalize uu 45 = u45', uu 46 = u46', uu 47 = u47', uu 48 = u48', uu 49 = u49', uu 50 = u50', uu 51 = u51', uu 44 = u44', uu 52 = u52', uu 53 = u53'
            clear uu
            have HE : Hid (∃ x a n c, True ∧ SynQ rb g px (some (rb, A0)) x (refV x.W a n c) x.W (.slice a n c) w v) := Lib.hid ⟨y, a2, n2, c2, HIy.out, HS2.out⟩
            rename_i K hK
            refine hK _ _ ?_
            go_wp2_with fail
            go_roundw
            case rel => exact ⟨j + 1, by go_num, by omega, HE⟩
            case measure => simp [intOf]; omega
        · have d4 : decide (KD < 3) = false := decide_eq_false h3
          have HE : Hid (∃ x a n c, True ∧ SynQ rb g px (some (rb, A0)) x (refV x.W a n c) x.W (.slice a n c) w wr) := HF
          clear HF hS h0 h3
          go_wp2_with fail
          go_roundw
          case rel => exact ⟨j + 1, by go_num, by omega, HE⟩
          case measure => simp [intOf]; omega
      · have d3 : decide (0 ≤ KD) = false := decide_eq_false h0
        have d3' : decide (KD ≥ 0) = false := decide_eq_false h0
        have HE : Hid (∃ x a n c, True ∧ SynQ rb g px (some (rb, A0)) x (refV x.W a n c) x.W (.slice a n c) w wr) := HF
        clear HF hS h0
        go_wp2_with fail
        go_roundw
        case rel => exact ⟨j + 1, by go_num, by omega, HE⟩
        case measure => simp [intOf]; omega
    · have hway : (decide (j < na) = true ∧ decide ((j : Int) < 10) = false) ∨ decide (j < na) = false := by
        by_cases hj2 : j < na
        · exact .inl ⟨decide_eq_true hj2, decide_eq_false (by omega)⟩
        · exact .inr (decide_eq_false hj2)
      have HS := Lib.hid hS
      clear hlt HF hS
      rcases hway with ⟨d1, d2⟩ | d1
      all_goals
        obtain ⟨tn, htn, htl⟩ := and_small n0 3 (by decide)
        have htn : bits .and .i64 n0 3 = (tn : Int) := htn
        go_upto_region 12 with fail
        try rw [htn]
        clear htn
        obtain ⟨q, L, hqm, -, -, -, -, hgr, -⟩ := HS.out.ex
        have HQm : Hid (rb ≤ g ∧ rb ≤ q) := Lib.hid ⟨HS.out.g, hqm⟩
        have HAc : Hid (ActB rb A0 wr) := Lib.hid (HS.out.oa rb A0 rfl)
        have HGr := Lib.hid hgr
        have hCl : Calls Tryd.prog 45 #[.pointer (some ⟨g, 0, none⟩)] wr fun e w' => ∃ g2 q2, e = .returned (.pointer (some ⟨g2, 0, none⟩)) ∧ wr.heap.size ≤ g2 ∧ wr.heap.size ≤ q2 ∧ Gr g2 q2 xj w' ∧ Below wr.heap.size wr w' := by
          obtain ⟨us, cap, hga⟩ := hgr
          exact gclone_any wr hga
        have HC := Lib.hid hCl
        clear HS hgr hqm hCl
        go_wp2_with fail
        refine HC.out.mono ?_
        rintro e w5 ⟨h2, q2, rfl, hh, hq2, hG2, hb5⟩
        have HB5 : Hid (Below rb w w5) := Lib.hid (HB.out.1.trans (hb5.mono HB.out.2))
        have ha5 := HAc.out.kept (hb5.block rb HAc.out.lt)
        have hg5 := HGr.out.below hb5
        have hlt := HGr.out.lt
        have hal := HAc.out.lt
        have HH : Hid (g < h2 ∧ q < h2 ∧ g < q2 ∧ q < q2 ∧ rb < h2 ∧ rb < q2) := Lib.hid (by omega)
        have HUp := Lib.hid (gup_any (L := [h2, q2]) A0.top A0.bottom (tn : Int) A0.style w5 hg5 (fun p hp => by
          have h3 : p = h2 ∨ p = q2 := by simpa using hp
          have := hG2.lt
          omega))
        have k2 := ha5.c2
        have k3 := ha5.c3
        have k5 := ha5.c5
        have HA5 := Lib.hid ha5
        have HG5 := Lib.hid hg5
        have HG2 := Lib.hid hG2
        obtain ⟨gone, hgone⟩ : ∃ l, (upG xj A0.top A0.bottom (tn : Int) A0.style).2 = l := ⟨_, rfl⟩
        have HGone := Lib.hid hgone
        have HXo := Lib.hid hg5.ok
        clear ha5 hg5 hG2 hlt hal hgone hh hq2 hb5 HC HB HGr HAc
        go_wp2_with fail
        refine HUp.out.mono ?_
        rintro e w6 ⟨a1, m1, c1, rfl, hR, hG6, hk6⟩
        rw [HGone.out] at hR
        have hmem : ∀ {i}, i ∈ [g, q] → i = g ∨ i = q := fun hi => by simpa using hi
        have hmem2 : ∀ i, i ∈ [h2, q2] → i = h2 ∨ i = q2 := fun i hi => by simpa using hi
        have HM2 := Lib.hid hmem2
        have hh := HH.out
        have h26 : Gr h2 q2 xj w6 := HG2.out.keptB hk6 (fun e => by have := hmem e; omega) (fun e => by have := hmem e; omega) (fun p hp _ => by
          obtain ⟨cs1, e1⟩ := HG5.out.grid
          obtain ⟨cs2, e2⟩ := HG5.out.rows
          rcases hmem hp with rfl | rfl
          · exact ⟨_, _, e1, by decide⟩
          · exact ⟨_, _, e2, by decide⟩)
        have hna := HG5.out.ne HA5.out (by decide) (by decide)
        have ha6 := HA5.out.kept (hk6.block rb HA5.out.lt (fun e => by have := hmem e; omega))
        have HB6 : Hid (Below rb w w6 ∧ rb < w6.heap.size) := Lib.hid ⟨hk6.below (fun i hi => by have := hmem hi; have := HQm.out; omega) HB5.out (Nat.le_of_lt HA5.out.lt), ha6.lt⟩
        have HA6 := Lib.hid ha6
        have HG6 := Lib.hid hG6
        have HR6 := Lib.hid hR
        have H26 := Lib.hid h26
        have HM1 := Lib.hid hR.len
        have HS6 : Hid (h2 < w6.heap.size ∧ q2 < w6.heap.size) := Lib.hid h26.lt
        clear hR hG6 hk6 hmem hmem2 hh h26 hna ha6 k2 k3 k5 HUp HA5 HG5 HG2 HB5
        go_wp2_with fail
        go_loopw [12, 70] (fun v i wr => ∃ (j nn : Nat) (a : Option Addr) (c : Nat), v = .slice a nn c ∧ i = .int .i64 (j : Int) ∧ j ≤ tn ∧ Hid (KeepB [h2, q2] w6 wr ∧ Gr h2 q2 (upN xj A0.top A0.bottom A0.style j) wr ∧ GathP 27 [h2, q2] w6.heap.size (.slice a nn c) (goneN xj A0.top A0.bottom A0.style j) wr)) (fun _ i _ => tn - (intOf i).toNat)
        case atStart => exact ⟨0, 0, none, 0, rfl, rfl, Nat.zero_le _, Lib.hid ⟨KeepB.refl _ _, by rw [upN_zero]; exact H26.out, GathP.nil _ _ _ _⟩⟩
        case round =>
          obtain ⟨j, nn, a, c, rfl, rfl, hj, HF⟩ := hrel
          by_cases hlt : j < tn
          · have hd : decide (j < tn) = true := decide_eq_true hlt
            have hjI : (j : Int) < tn := by omega
            have ha := HA6.out.kept (HF.out.1.block rb HB6.out.2 (fun e => by have := HM2.out _ e; have := HH.out; omega))
            have k2 := ha.c2
            have k3 := ha.c3
            have k5 := ha.c5
            obtain ⟨gj, hgj⟩ : ∃ l, (upG (upN xj A0.top A0.bottom A0.style j) A0.top A0.bottom 1 A0.style).2 = l := ⟨_, rfl⟩
            have HGj := Lib.hid hgj
            have HU := Lib.hid (gup_any (L := (Value.slice a nn c).ownBlock.toList ++ [h2, q2]) A0.top A0.bottom 1 A0.style wr HF.out.2.1 (fun p hp => by
              rcases List.mem_append.1 hp with hp | hp
              · exact (HF.out.2.2.own p (by simpa using hp)).2.1
              · have := HM2.out _ hp
                have := HF.out.2.1.lt
                omega))
            clear ha hgj
            go_wp2_with fail
            refine HU.out.mono ?_
            rintro e w7 ⟨a8, m8, c8, rfl, hR8, hG8, hk8⟩
            rw [HGj.out] at hR8
            have h7 : GathP 27 [h2, q2] w6.heap.size (.slice a nn c) (goneN xj A0.top A0.bottom A0.style j) w7 := HF.out.2.2.keptB hk8 (fun p hp => hp) (fun p hp e => by
              have := (HF.out.2.2.own p hp).1
              have := HM2.out _ e
              have := HS6.out
              omega)
            have H7 := Lib.hid h7
            have HK7 : Hid (KeepB [h2, q2] w6 w7) := Lib.hid (HF.out.1.trans hk8)
            have HG8 : Hid (Gr h2 q2 (upN xj A0.top A0.bottom A0.style (j + 1)) w7) := Lib.hid (by rw [← upN_succ HXo.out]; exact hG8)
            have HR8 := Lib.hid hR8
            have HGl := gone_len (x := xj) A0.top A0.bottom A0.style (j + 1)
            unfold goneN at HGl
            rw [HGj.out, List.length_append] at HGl
            have HGl := Lib.hid HGl
            clear hR8 hG8 hk8 h7 HU k2 k3 k5 HF
            obtain ⟨LL, hLL⟩ : ∃ LL, (Value.slice a nn c).ownBlock.toList ++ [h2, q2] = LL := ⟨_, rfl⟩
            have hA2 : ∀ p, (Value.slice a nn c).ownBlock = some p → p ∈ LL := fun p hp => by rw [← hLL, hp]; simp
            have hA1 : ∀ p ∈ [h2, q2], p ∈ LL := fun p hp => by rw [← hLL]; exact List.mem_append_right _ hp
            have hA3 : (goneN xj A0.top A0.bottom A0.style j).length ≤ 1000 := by have := HGl.out; omega
            have hA4 : gj.length ≤ 1000 := by have := HGl.out; omega
            rw [hLL] at HR8
            have HA1 := Lib.hid hA1
            have HA2 := Lib.hid hA2
            have HA3 := Lib.hid hA3
            have HA4 := Lib.hid hA4
            clear hLL hA1 hA2 hA3 hA4
            go_wp2_with (refine wpList_append_gone rowsT rfl _ _ rfl rfl [h2, q2] LL w6.heap.size _ (goneN xj A0.top A0.bottom A0.style j) a8 m8 c8 gj rfl rfl H7.out HR8.out HA1.out HA2.out HA3.out HA4.out HK7.out.size ?_)
            intro v' w8 hG9 hgr
            obtain ⟨a9, c9, us9, rfl, -, -⟩ := hG9.shape
            obtain ⟨n9, hn9⟩ : ∃ k, (goneN xj A0.top A0.bottom A0.style j ++ gj).length = k := ⟨_, rfl⟩
            have hgs : goneN xj A0.top A0.bottom A0.style (j + 1) = goneN xj A0.top A0.bottom A0.style j ++ gj := by
              rw [← HGj.out]; rfl
            rw [← hgs] at hG9 hn9
            rw [← hgs, hn9]
            rw [hn9] at hG9
            have HE : Hid (KeepB [h2, q2] w6 w8 ∧ Gr h2 q2 (upN xj A0.top A0.bottom A0.style (j + 1)) w8 ∧ GathP 27 [h2, q2] w6.heap.size (.slice a9 n9 c9) (goneN xj A0.top A0.bottom A0.style (j + 1)) w8) := Lib.hid ⟨HK7.out.grownOwn hgr (fun p hp => (H7.out.own p hp).1), HG8.out.grownBy2 hgr (fun p hp => by
              have h5 := H7.out.own p hp
              have := HS6.out
              exact ⟨by omega, by omega, h5.2.2⟩), hG9⟩
            clear hG9 hgr hgs hn9 HK7 HG8 HR8 H7
            go_wp2_with fail
            go_roundw
            case rel => exact ⟨j + 1, n9, a9, c9, rfl, by go_num, by omega, HE⟩
            case measure => simp [intOf]; omega
          · obtain rfl : j = tn := by omega
            have hst := up_steps HXo.out A0.top A0.bottom A0.style j
            rw [HGone.out] at hst
            obtain ⟨a', c', us, e, -, -⟩ := HF.out.2.2.shape
            have hnn : nn = (goneN xj A0.top A0.bottom A0.style j).length := by injection e
            have hm1 : m1 ≤ nn := by rw [HM1.out, hnn]; exact hst.1
            have hl := HF.out.2.2.rowsL
            have hl2 := hl.firstN m1 hm1
            rw [HM1.out, hst.2, ← HM1.out] at hl2
            have hfc : nn ≤ c := by
              obtain ⟨vs, h3, -⟩ := hl.ex
              exact h3.fit
            have hgl : gone.length ≤ 1000 := by rw [← HM1.out]; have := gone_len (x := xj) A0.top A0.bottom A0.style j; omega
            have hg1 : Gr g q (upN xj A0.top A0.bottom A0.style j) wr := HG6.out.keptB HF.out.1 (fun e => by have := HM2.out _ e; have := HH.out; omega) (fun e => by have := HM2.out _ e; have := HH.out; omega) (fun p hp _ => by
              obtain ⟨cs1, e1⟩ := H26.out.grid
              obtain ⟨cs2, e2⟩ := H26.out.rows
              rcases HM2.out _ hp with rfl | rfl
              · exact ⟨_, _, e1, by decide⟩
              · exact ⟨_, _, e2, by decide⟩)
            have hsm := gsame_any wr hg1 HF.out.2.1
            rw [decide_eq_true rfl] at hsm
            have HSm := Lib.hid hsm
            have HL1 := Lib.hid (HR6.out.keptB HF.out.1)
            have HL2 := Lib.hid hl2
            have HBw : Hid (Below rb w wr ∧ rb ≤ wr.heap.size) := Lib.hid ⟨HF.out.1.below (fun i hi => by have := HM2.out _ hi; have := HH.out; omega) HB6.out.1 (Nat.le_of_lt HB6.out.2), Nat.le_trans (Nat.le_of_lt HB6.out.2) HF.out.1.size⟩
            have HRng : Hid (∀ r ∈ gone, r.l.length ≤ 1000) := Lib.hid (fun r hr => by
              have hm := mem_upGone (by rw [HGone.out]; exact hr)
              rw [HXo.out.len r hm]; exact HXo.out.w2)
            have q5 : ((m1 : Int) != (m1 : Int)) = false := by simp
            have hcI : (m1 : Int) ≤ c := by omega
            have hmI : (m1 : Int) ≤ 1000 := by have := HM1.out; omega
            have hd0 : decide (j < j) = false := by simp
            clear hst e hnn hl hl2 hg1 hsm HF hlt hgl
            have hwy : (decide (m1 < nn) = true ∧ decide (nn > m1) = true) ∨ (decide (m1 < nn) = false ∧ decide (nn > m1) = false ∧ m1 = nn) := by
              by_cases h : m1 < nn
              · exact .inl ⟨decide_eq_true h, decide_eq_true h⟩
              · exact .inr ⟨decide_eq_false h, decide_eq_false h, by omega⟩
            rcases hwy with ⟨d7, d8⟩ | ⟨d7, d8, rfl⟩
            all_goals
              clear hm1
              go_wp2_with fail
              refine HSm.out.mono ?_
              rintro e w7 ⟨rfl, hb7⟩
              obtain ⟨us1, i1, v1, -⟩ := (HL1.out.below hb7).ex
              obtain ⟨us2, i2, v2, -⟩ := (HL2.out.below hb7).ex
              have HB7 : Hid (Below rb w w7 ∧ rb ≤ w7.heap.size) := Lib.hid ⟨HBw.out.1.trans (hb7.mono HBw.out.2), Nat.le_trans HBw.out.2 hb7.size⟩
              have HI1 := Lib.hid i1
              have HI2 := Lib.hid i2
              have HV1 := Lib.hid v1
              have HV2 := Lib.hid v2
              clear i1 i2 v1 v2 hb7 HSm HL1 HL2 HBw
              go_wp2_with fail
              go_loopw [105] (fun i wr => ∃ k : Nat, i = .int .i64 (k : Int) ∧ k ≤ m1 ∧ Hid (Below w7.heap.size w7 wr)) (fun i _ => m1 - (intOf i).toNat)
              case atStart => exact ⟨0, rfl, Nat.zero_le _, Lib.hid (Below.refl _ _)⟩
              case round =>
                obtain ⟨k, rfl, hk, HF⟩ := hrel
                by_cases hlt : k < m1
                · have hd : decide (k < m1) = true := decide_eq_true hlt
                  have hkI : (k : Int) < m1 := by omega
                  have hj1 : k < gone.length := by rw [← HM1.out]; exact hlt
                  have hu1 : k < us1.length := by rw [HV1.out.1]; exact hj1
                  have hu2 : k < us2.length := by rw [HV2.out.1]; exact hj1
                  obtain ⟨b1, o1, rfl, hb1, hA1⟩ := HI1.out.at_.resolve_left (by intro e; rw [e] at hu1; simp at hu1)
                  obtain ⟨b2, o2, rfl, hb2, hA2⟩ := HI2.out.at_.resolve_left (by intro e; rw [e] at hu2; simp at hu2)
                  have hat1 := hA1 k us1[k] (List.getElem?_eq_getElem hu1)
                  have hat2 := hA2 k us2[k] (List.getElem?_eq_getElem hu2)
                  have hr1 := (HV1.out.2 k us1[k] gone[k] (List.getElem?_eq_getElem hu1) (List.getElem?_eq_getElem hj1)).belowAll HF.out
                  have hr2 := (HV2.out.2 k us2[k] gone[k] (List.getElem?_eq_getElem hu2) (List.getElem?_eq_getElem hj1)).belowAll HF.out
                  have hrl := HRng.out gone[k] (List.getElem_mem hj1)
                  obtain ⟨⟨x1, y1, z1, g1⟩, hx1⟩ : ∃ u, us1[k] = u := ⟨_, rfl⟩
                  obtain ⟨⟨x2, y2, z2, g2⟩, hx2⟩ : ∃ u, us2[k] = u := ⟨_, rfl⟩
                  obtain ⟨r, hre⟩ : ∃ r, gone[k] = r := ⟨_, rfl⟩
                  rw [hx1] at hat1 hr1
                  rw [hx2] at hat2 hr2
                  rw [hre] at hr1 hr2 hrl
                  have p0 : wr.cell? ⟨b1, o1 + k * 2, none⟩ = some (.slice x1 y1 z1) := (HF.out.cell (p := ⟨b1, o1 + k * 2, none⟩) hb1).trans hat1.1
                  have p1 : wr.cell? ⟨b1, o1 + k * 2 + 1, none⟩ = some (.bool g1) := (HF.out.cell (p := ⟨b1, o1 + k * 2 + 1, none⟩) hb1).trans hat1.2
                  have p2 : wr.cell? ⟨b2, o2 + k * 2, none⟩ = some (.slice x2 y2 z2) := (HF.out.cell (p := ⟨b2, o2 + k * 2, none⟩) hb2).trans hat2.1
                  have p3 : wr.cell? ⟨b2, o2 + k * 2 + 1, none⟩ = some (.bool g2) := (HF.out.cell (p := ⟨b2, o2 + k * 2 + 1, none⟩) hb2).trans hat2.2
                  unfold Rv.val at hr1 hr2
                  simp only at hr1 hr2
                  have cS : ∀ d os, Calls Tryd.prog 42 #[.agg #[.slice x1 y1 z1, .bool g1], .agg #[.slice x2 y2 z2, .bool g2]] (Go.Sort.grow (redrawn wr d) os) fun en w'' => en = .returned (.bool true) ∧ ∃ p : Regrown, w'' = Go.Sort.grow (redrawn wr p.d) p.os := fun d os => by
                    have hb := below_regrown wr d os
                    exact Calls.regrown_of (rowSame_self (hr1.belowAll hb) (hr2.belowAll hb) hrl)
                  have z0 := fun d os => cell_regrown p0 d os
                  have z1' := fun d os => cell_regrown p1 d os
                  have z2' := fun d os => cell_regrown p2 d os
                  have z3 := fun d os => cell_regrown p3 d os
                  have CS := Lib.hid cS
                  clear hA1 hA2 hat1 hat2 hr1 hr2 hrl hx1 hx2 hre hb1 hb2 hu1 hu2 hj1 cS
                  go_upto_region 27 with fail
                  clear p0 p1 p2 p3
                  refine wp_region_quiet_below (by kernel_rfl) (by kernel_rfl) ?_
                  repeat (go_big_quiet_step (first | exact CS.out _ _))
                  refine wpQuiet_nil ?_
                  intro _ hw'
                  obtain ⟨⟨dq, osq⟩, hw''⟩ := hw'
                  have HF3 : Hid (Below w7.heap.size w7 (Go.Sort.grow (redrawn wr dq) osq)) := Lib.hid (HF.out.trans ((below_regrown _ _ _).mono HF.out.size))
                  rw [hw'']
                  simp only
                  obtain ⟨w8, hw8⟩ : ∃ w8, Go.Sort.grow (redrawn wr dq) osq = w8 := ⟨_, rfl⟩
                  rw [hw8] at HF3 ⊢
                  clear hw'' hw8 z0 z1' z2' z3 CS
                  go_wp2
                  go_roundw
                  case rel => exact ⟨k + 1, by go_num, by omega, HF3⟩
                  case measure => simp [intOf]; omega
                · obtain rfl : k = m1 := by omega
                  have hd : decide (k < k) = false := by simp
                  have hend : Hid (P (.returned (.bool true)) wr) := Lib.hid (by rw [← HP.out]; exact ⟨rfl, HB7.out.1.trans (HF.out.mono HB7.out.2)⟩)
                  clear HF
                  go_wp2_with fail
                  exact hend.out
end Go.Proofs.YtkggmcnocpgnbaaDoor.K
