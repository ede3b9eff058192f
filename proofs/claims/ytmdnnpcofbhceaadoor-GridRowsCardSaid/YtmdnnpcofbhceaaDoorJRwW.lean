/- GridRows: behind any calls there are as many rows and columns as the size says: the walk. -/
import Derived.Test.YtmdnnpcofbhceaaDoorMerged22
namespace Go.Proofs.YtmdnnpcofbhceaaDoor.K
open Go.RowKit

def RwOk (g ab ao na ca j : Nat) (xj : Gd) (A : ActG) (a : Option Addr) (n c : Nat) : Nat → Value → World → Prop
  | 0, u, _ => u = .pointer (some ⟨g, 0, none⟩)
  | 1, u, _ => u = .agg #[.int .i64 (xj.W : Int), .slice a n c]
  | 2, u, _ => u = .slice (some ⟨ab, ao, none⟩) na ca
  | 3, u, _ => u = .int .i64 (j : Int)
  | 4, u, _ => u = .pointer (some ⟨ab, ao + j * 13, none⟩)
  | 5, u, _ => u = .agg (actC A)
  | 6, _, _ => True
  | 7, u, w => ∃ a, u = .tuple #[a, .bool true]
  | 8, _, _ => True
  | 9, u, _ => u = .bool true
  | 10, _, _ => True
  | _, _, _ => True
set_option maxRecDepth 100000 in
set_option maxHeartbeats 16000000 in
theorem rows_walk (w0 h0 : Int) (aa : Option Addr) (na ca : Nat) (la : List ActG) (w : World) (hT : W.Tab w) (hA : GActsIn aa na ca la w) :
    Calls Tryd.prog 11 #[.int .i64 w0, .int .i64 h0, .slice aa na ca] w fun e w' => e = .returned (.bool true) ∧ Below w.heap.size w w' := by
  obtain ⟨rb, hrb⟩ : ∃ rb, w.heap.size = rb := ⟨_, rfl⟩
  rw [hrb]
  obtain ⟨P, hP⟩ : ∃ P : Ending → World → Prop, (fun e w' => e = .returned (.bool true) ∧ Below rb w w') = P := ⟨_, rfl⟩
  rw [hP]
  have HP := Lib.hid hP
  obtain ⟨SW, hSW⟩ : ∃ s, smallN w0 = s := ⟨_, rfl⟩
  obtain ⟨SH, hSH⟩ : ∃ s, smallN h0 = s := ⟨_, rfl⟩
  have HSW := Lib.hid hSW
  have HSH := Lib.hid hSH
  have HRb := Lib.hid hrb
  have HT0 := Lib.hid hT
  have HA0 := Lib.hid hA
  have HLn := Lib.hid hA.len
  have hfit : (na : Int) ≤ ca := by have := hA.fit; omega
  have htop := hA.top
  have HAw := Lib.hid (gawake_any w hT)
  clear hP hrb hT hA hSW hSH
  go_enter Tryd.func11, Tryd.ntmps11
  go_upto_region 3 with (go_at_call 29; refine HAw.out.mono ?_; rintro e w1 ⟨rfl, hb1⟩)
  have HB1 : Hid (Below rb w w1) := Lib.hid (by rw [← HRb.out]; exact hb1)
  clear hb1 HAw
  go_wp2_with fail
  refine (small_any w0 w1).mono ?_
  rintro e w2 ⟨rfl, rfl⟩
  rw [HSW.out]
  go_wp2_with fail
  refine (small_any h0 w1).mono ?_
  rintro e w2 ⟨rfl, rfl⟩
  rw [HSH.out]
  have HN := Lib.hid (gnew_any SW SH w1)
  go_wp2_with fail
  refine HN.out.mono ?_
  rintro e w2 ⟨g, q, rfl, hg, hq, hG, hb2⟩
  have hs1 : rb ≤ w1.heap.size := by have := HB1.out.size; have := HRb.out; omega
  have HGq : Hid (rb ≤ g ∧ rb ≤ q) := Lib.hid (by omega)
  have HG := Lib.hid hG
  have HB2 : Hid (Below rb w w2) := Lib.hid (HB1.out.trans (hb2.mono hs1))
  have HS2 : Hid (rb ≤ w2.heap.size) := Lib.hid (by have := hb2.size; omega)
  clear hg hq hG hb2 hs1 HN
  go_wp2_with fail
  refine (small_any w0 w2).mono ?_
  rintro e w3 ⟨rfl, rfl⟩
  rw [HSW.out]
  go_wp2_with fail
  refine (small_any h0 w2).mono ?_
  rintro e w3 ⟨rfl, rfl⟩
  rw [HSH.out]
  have HN := Lib.hid (refNew_any (L := [g, q]) SW SH w2 (fun p hp => by
    have h2 : p = g ∨ p = q := by simpa using hp
    have := HG.out.lt
    omega))
  obtain ⟨x0, hx0⟩ : ∃ x0, newG SW SH = x0 := ⟨_, rfl⟩
  rw [hx0] at HN HG
  clear hx0
  go_wp2_with fail
  refine HN.out.mono ?_
  rintro e w3 ⟨v3, rfl, hR3, hb3⟩
  obtain ⟨a3, n3, c3, rfl, hl3⟩ := hR3
  unfold refV
  obtain ⟨px, hpx⟩ : ∃ p, w3.heap.size = p := ⟨_, rfl⟩
  obtain ⟨w4, hw4⟩ : ∃ w4, w3.alloc (.cells #[.int .i64 (x0.W : Int), .slice a3 n3 c3] 59) = w4 := ⟨_, rfl⟩
  have hS := SynQ.init (m := rb) (oa := none) (w0 := w) (L := [g, q]) HGq.out.1 HGq.out.2 (fun p hp => by
    have h2 : p = g ∨ p = q := by simpa using hp
    have := HG.out.lt
    have := hb3.size
    omega) (HG.out.below hb3) ⟨a3, n3, c3, rfl, hl3⟩ (by simp) (by simp) (HB2.out.trans (hb3.mono HS2.out)) (Nat.le_trans HS2.out hb3.size) (fun p A e => by cases e)
  rw [hpx, hw4] at hS
  have HS := Lib.hid hS
  have HPx := Lib.hid hpx
  have HW4 := Lib.hid hw4
  clear hS hl3 hb3 hpx hw4 HG HN
  go_upto_region 4 with fail
  rw [HPx.out, HW4.out]
  go_wp2_with fail
  go_loopw [9] (fun i wr => ∃ j : Nat, i = .int .i64 (j : Int) ∧ j ≤ na ∧ Hid (∃ a n c, SynQ rb g px none (playG x0 la j) (refV (playG x0 la j).W a n c) (playG x0 la j).W (.slice a n c) w wr)) (fun i _ => na - (intOf i).toNat)
  case atStart => exact ⟨0, rfl, by omega, Lib.hid ⟨a3, n3, c3, HS.out⟩⟩
  case round =>
    obtain ⟨j, rfl, hj, HF⟩ := hrel
    clear HS
    obtain ⟨a, n, c, hS⟩ := HF.out
    have HB : Hid (Below rb w wr ∧ rb ≤ wr.heap.size) := Lib.hid ⟨hS.b, hS.m⟩
    by_cases hlt : j < na ∧ j < 20
    · have d1 : decide (j < na) = true := decide_eq_true hlt.1
      have d2 : decide ((j : Int) < 20) = true := decide_eq_true (by omega)
      have hjn : (j : Int) < na := by omega
      have hjl : j < la.length := by rw [← HLn.out]; exact hlt.1
      obtain ⟨ab, ao, rfl, hab, hAt⟩ := HA0.out.at_.resolve_left (by intro e; rw [e] at hjl; simp at hjl)
      have hat := hAt j la[j] (List.getElem?_eq_getElem hjl)
      have hrg := HA0.out.ok la[j] (List.getElem_mem hjl)
      have hps := playG_succ (x := x0) hjl
      obtain ⟨A, hAj⟩ : ∃ A, la[j] = A := ⟨_, rfl⟩
      rw [hAj] at hat hrg hps
      obtain ⟨xj, hxj⟩ : ∃ x, playG x0 la j = x := ⟨_, rfl⟩
      rw [hxj] at hS hps
      obtain ⟨y, hy⟩ : ∃ y, stepG xj A = y := ⟨_, rfl⟩
      rw [hy] at hps
      have HS := Lib.hid hS
      have HAt := Lib.hid hat
      have HRg := Lib.hid hrg
      have HPs := Lib.hid hps
      have HY := Lib.hid hy
      have HAl : Hid (ab < rb) := Lib.hid (by rw [← HRb.out]; exact hab)
      have hc0 := hS.xb.c0
      have hc1 := hS.xb.c1
      clear hlt hAt hat hrg hps hAj hab hxj hy hS HF
      go_upto_region 9 with fail
      refine Go.Proofs.YtmdnnpcofbhceaaDoor.R.wp_region_prog [1, 6, 7, 8, 10] (by kernel_rfl) (StG rb g px none xj y a n c w 46 39 47) (fun _ _ => True) (RwOk g ab ao na ca j xj A a n c) (by rfl) (by kernel_rfl) (by kernel_rfl) (by kernel_rfl) ?hcong ?hOk ?hop ?hdone ?h0
      case hcong => exact fun k f f2 u hs hst => StG.cong (fun hk => hs 46 (Go.Proofs.YtmdnnpcofbhceaaDoor.R.mem_slots (by subst hk; kernel_rfl))) (fun hk => hs 39 (Go.Proofs.YtmdnnpcofbhceaaDoor.R.mem_slots (by subst hk; kernel_rfl))) (fun hk => hs 47 (Go.Proofs.YtmdnnpcofbhceaaDoor.R.mem_slots (by subst hk; kernel_rfl))) hst
      case hOk => intro i u w1 w2 h hr; unfold RwOk at h ⊢; split <;> first | exact True.intro | exact h
      case h0 => exact SynQ.below HS.out ((Below.refl _ _).drew)
      case hop =>
        refine ⟨?_, ?_, ?_, ?_, ?_, ?_, ?_, ?_, ?_, ?_, ?_, trivial⟩
        · intro k z v hst hag hdep
          refine .inl ⟨rfl, fun K hK => ?_⟩
          have d7 : z.tmps.getD 7 undef = .pointer (some ⟨g, 0, none⟩) := hag.2.2 7 (by kernel_rfl)
          have e7 := d7
          rw [Array.getD_eq_getD_getElem?] at e7
          have HSt := Lib.hid hst
          clear hdep hag hst
          go_simp
          exact hK _ _ trivial rfl HSt.out
        · intro z v hst hag hdep
          refine ⟨rfl, fun K hK => ?_⟩
          have d8 : z.tmps.getD 8 undef = .pointer (some ⟨px, 0, none⟩) := hag.2.2 8 (by kernel_rfl)
          have e8 := d8
          rw [Array.getD_eq_getD_getElem?] at e8
          have l0 := (SynQ.xb hst).c0
          have l1 := (SynQ.xb hst).c1
          have HSt := Lib.hid hst
          clear hdep hag hst
          go_simp
          exact hK _ _ trivial rfl HSt.out
        · intro k z v hst hag hdep
          refine .inl ⟨rfl, fun K hK => ?_⟩
          have d2 : z.tmps.getD 2 undef = .slice (some ⟨ab, ao, none⟩) na ca := hag.2.2 2 (by kernel_rfl)
          have e2 := d2
          rw [Array.getD_eq_getD_getElem?] at e2
          have HSt := Lib.hid hst
          clear hdep hag hst
          go_simp
          exact hK _ _ trivial rfl HSt.out
        · intro k z v hst hag hdep
          refine .inl ⟨rfl, fun K hK => ?_⟩
          have d9 : z.tmps.getD 9 undef = .int .i64 (j : Int) := hag.2.2 9 (by kernel_rfl)
          have e9 := d9
          rw [Array.getD_eq_getD_getElem?] at e9
          have HSt := Lib.hid hst
          clear hdep hag hst
          go_simp
          exact hK _ _ trivial rfl HSt.out
        · intro k z v hst hag hdep
          refine .inl ⟨rfl, fun K hK => ?_⟩
          have d42 : z.tmps.getD 42 undef = .slice (some ⟨ab, ao, none⟩) na ca := hdep { on := 2, ground := .data } (by simp) rfl _ _ rfl rfl
          have e42 := d42
          rw [Array.getD_eq_getD_getElem?] at e42
          have d43 : z.tmps.getD 43 undef = .int .i64 (j : Int) := hdep { on := 3, ground := .data } (by simp) rfl _ _ rfl rfl
          have e43 := d43
          rw [Array.getD_eq_getD_getElem?] at e43
          have HSt := Lib.hid hst
          clear hdep hag hst
          go_simp
          exact hK _ _ trivial rfl HSt.out
        · intro k z v hst hag hdep
          refine .inl ⟨rfl, fun K hK => ?_⟩
          have d44 : z.tmps.getD 44 undef = .pointer (some ⟨ab, ao + j * 13, none⟩) := hdep { on := 4, ground := .data } (by simp) rfl _ _ rfl rfl
          have e44 := d44
          rw [Array.getD_eq_getD_getElem?] at e44
          have hA := HAt.out.block (hst.xb.1.block ab HAl.out)
          have l0 := hA.c0
          have l1 := hA.c1
          have l2 := hA.c2
          have l3 := hA.c3
          have l4 := hA.c4
          have l5 := hA.c5
          have l6 := hA.c6
          have l7 := hA.c7
          have l8 := hA.c8
          have l9 := hA.c9
          have l10 := hA.c10
          have l11 := hA.c11
          have l12 := hA.c12
          have HSt := Lib.hid hst
          clear hdep hag hst
          go_simp
          exact hK _ _ trivial rfl HSt.out
        · intro z v hst hag hdep
          refine ⟨rfl, fun K hK => ?_⟩
          have d40 : z.tmps.getD 40 undef = .pointer (some ⟨g, 0, none⟩) := hdep { on := 0, ground := .data } (by simp) rfl _ _ rfl rfl
          have e40 := d40
          rw [Array.getD_eq_getD_getElem?] at e40
          have d41 : z.tmps.getD 41 undef = .agg #[.int .i64 (xj.W : Int), .slice a n c] := hdep { on := 1, ground := .data } (by simp) rfl _ _ rfl rfl
          have e41 := d41
          rw [Array.getD_eq_getD_getElem?] at e41
          have d45 : z.tmps.getD 45 undef = .agg (actC A) := hdep { on := 5, ground := .data } (by simp) rfl _ _ rfl rfl
          have e45 := d45
          rw [Array.getD_eq_getD_getElem?] at e45
          have HC := Lib.hid (SynQ.call (A := A) hst (HT0.out.belowAll (by rw [HRb.out]; exact (SynQ.b hst))) HRg.out)
          rw [HY.out] at HC
          unfold refV actC at HC
          have hsz : 46 < z.tmps.size := by rw [hag.2.1]; show 46 < 80; decide
          clear hdep hag hst
          try unfold actC at e45
          go_simp
          refine HC.out.mono ?_
          rintro e w' ⟨v', rfl, hS⟩
          exact hK _ _ trivial True.intro ⟨v', Go.Proofs.YtmdnnpcofbhceaaDoor.R.slot_same hsz, hS⟩
        · intro z v hst hag hdep
          refine ⟨rfl, fun K hK => ?_⟩
          obtain ⟨v', f, hS⟩ := hst
          have d46 : z.tmps.getD 46 undef = .tuple #[v', .bool true] := f
          have e46 := d46
          rw [Array.getD_eq_getD_getElem?] at e46
          have hsz : 39 < z.tmps.size := by rw [hag.2.1]; show 39 < 80; decide
          clear hdep hag f
          go_simp
          exact hK _ _ trivial ⟨v', rfl⟩ ⟨v', Go.Proofs.YtmdnnpcofbhceaaDoor.R.slot_same hsz, hS⟩
        · intro z v hst hag hdep
          refine ⟨rfl, fun K hK => ?_⟩
          have d39' : RwOk g ab ao na ca j xj A a n c 7 (z.tmps.getD 39 undef) v := hdep { on := 7, ground := .data } (by simp) rfl _ _ rfl rfl
          simp only [RwOk] at d39'
          obtain ⟨t_, d39⟩ := d39'
          have e39 := d39
          rw [Array.getD_eq_getD_getElem?] at e39
          clear e39 d39
          obtain ⟨v', f, hS⟩ := hst
          have d39 : z.tmps.getD 39 undef = .tuple #[v', .bool true] := f
          have e39 := d39
          rw [Array.getD_eq_getD_getElem?] at e39
          have hsz : 47 < z.tmps.size := by rw [hag.2.1]; show 47 < 80; decide
          clear hdep hag f
          go_simp
          refine hK _ _ trivial True.intro ?_
          show SynQ _ _ _ _ _ (Go.Proofs.YtmdnnpcofbhceaaDoor.R.slot _ _) _ _ _ _
          rw [Go.Proofs.YtmdnnpcofbhceaaDoor.R.slot_same hsz]
          exact hS
        · intro k z v hst hag hdep
          refine .inl ⟨rfl, fun K hK => ?_⟩
          have d39' : RwOk g ab ao na ca j xj A a n c 7 (z.tmps.getD 39 undef) v := hdep { on := 7, ground := .data } (by simp) rfl _ _ rfl rfl
          simp only [RwOk] at d39'
          obtain ⟨t_, d39⟩ := d39'
          have e39 := d39
          rw [Array.getD_eq_getD_getElem?] at e39
          have HSt := Lib.hid hst
          clear hdep hag hst
          go_simp
          exact hK _ _ trivial rfl HSt.out
        · intro z v hst hag hdep
          refine ⟨rfl, fun K hK => ?_⟩
          have d8 : z.tmps.getD 8 undef = .pointer (some ⟨px, 0, none⟩) := hag.2.2 8 (by kernel_rfl)
          have e8 := d8
          rw [Array.getD_eq_getD_getElem?] at e8
          have hS : SynQ rb g px none y (Go.Proofs.YtmdnnpcofbhceaaDoor.R.slot z 47) xj.W (.slice a n c) w v := hst
          obtain ⟨a2, n2, c2, he⟩ := hS.shape
          rw [he] at hS
          have d47 : z.tmps.getD 47 undef = refV y.W a2 n2 c2 := he
          have e47 := d47
          rw [Array.getD_eq_getD_getElem?] at e47
          unfold refV at e47 d47
          have l0 := hS.xb.c0
          have l1 := hS.xb.c1
          have f0 := hS.xb.fr 0
          have f1 := hS.xb.fr 1
          have HS2 := Lib.hid hS.store
          clear hdep hag hst hS he
          go_simp
          exact hK undef _ trivial True.intro ⟨a2, n2, c2, HS2.out⟩
      case hdone =>
        intro z v hst hag hok
        obtain ⟨a2, n2, c2, hS⟩ := hst
        have HS2 := Lib.hid hS
        clear hS HS hc0 hc1
        obtain ⟨uu, hu, hzz⟩ := Go.Proofs.YtmdnnpcofbhceaaDoor.R.agree_frame [40, 41, 42, 43, 44, 45, 46, 39, 47, 48] rfl hag

        subst hzz
        simp only [List.foldl_cons, List.foldl_nil]
        
        clear hu hag hok
        try dsimp only [Exit.then]
        simp only [List.setIfInBounds_toArray, List.set_cons_succ, List.set_cons_zero]
        generalize uu 40 = u40', uu 41 = u41', uu 42 = u42', uu 43 = u43', uu 44 = u44', uu 45 = u45', uu 46 = u46', uu 39 = u39', uu 47 = u47', uu 48 = u48'
        clear uu
        have hz := HS2.out
        obtain ⟨W0, hW0⟩ : ∃ W0, y.W = W0 := ⟨_, rfl⟩
        have hok := hz.ok
        have h1 := hok.w1
        rw [hW0] at h1
        have hsz : Calls Tryd.prog 43 #[.pointer (some ⟨g, 0, none⟩)] v fun e w' => e = .returned (.tuple #[.int .i64 (W0 : Int), .int .i64 (y.rs.length : Int)]) ∧ Below v.heap.size v w' := by
          obtain ⟨q', L', -, -, -, -, -, ⟨us, cap, hgr⟩, -⟩ := hz.ex
          rw [← hW0]
          exact size_any v hgr
        obtain ⟨H0, hH0⟩ : ∃ H0, y.rs.length = H0 := ⟨_, rfl⟩
        have h3 := hok.h1
        have h4 := hok.h2
        rw [hH0] at hsz h3 h4
        have d5 : decide ((W0 : Int) < 1) = false := decide_eq_false (by omega)
        have d6 : decide ((H0 : Int) < 1) = false := decide_eq_false (by omega)
        have q1 : ((H0 : Int) != (H0 : Int)) = false := by simp
        have HSz := Lib.hid hsz
        have HOk := Lib.hid hok
        have HW0 := Lib.hid hW0
        have HH0 := Lib.hid hH0
        clear hz hsz hok hW0 hH0
        rename_i K hK
        refine hK _ _ ?_
        go_wp2_with fail
        refine HSz.out.mono ?_
        rintro e w5 ⟨rfl, hb5⟩
        have HS5 := Lib.hid (HS2.out.below hb5)
        clear hb5 HSz
        have hrw : Calls Tryd.prog 38 #[.pointer (some ⟨g, 0, none⟩)] w5 (RowsA [] y.rs w5) := by
          obtain ⟨q', L', -, -, -, -, -, ⟨us, cap, hgr⟩, -⟩ := HS5.out.ex
          exact rows_any (L := []) w5 hgr (fun p hp => by cases hp)
        have HRw := Lib.hid hrw
        clear hrw
        go_wp2_with fail
        refine HRw.out.mono ?_
        rintro e w6 ⟨a6, n6, c6, us6, rfl, hR6, -, -, hb6⟩
        have hn6 := hR6.len
        rw [HH0.out] at hn6
        subst hn6
        obtain ⟨vs, hi6, hv6, -⟩ := hR6.ex
        have HI := Lib.hid hi6
        have HV := Lib.hid hv6
        have HS6 := Lib.hid (HS5.out.below hb6)
        clear hR6 hi6 hv6 hb6 HRw
        go_wp2_with fail
        go_loopw [70] (fun i wv => ∃ k : Nat, i = .int .i64 (k : Int) ∧ k ≤ n6 ∧ Hid (Below w6.heap.size w6 wv)) (fun i _ => n6 - (intOf i).toNat)
        case atStart => exact ⟨0, rfl, by omega, Lib.hid (Below.refl _ _)⟩
        case round =>
          obtain ⟨k, rfl, hk, HFk⟩ := hrel
          by_cases hkl : k < n6
          · have hdk : decide (k < n6) = true := decide_eq_true hkl
            have hkI : (k : Int) < n6 := by omega
            have hvl : k < vs.length := by rw [← HI.out.len]; exact hkl
            have hrl : k < y.rs.length := by rw [HH0.out]; exact hkl
            obtain ⟨b6, o6, rfl, hb6, hAt6⟩ := HI.out.at_.resolve_left (by intro e; rw [e] at hvl; simp at hvl)
            have hat := hAt6 k vs[k] (List.getElem?_eq_getElem hvl)
            have hrv := HV.out.2 k vs[k] y.rs[k] (List.getElem?_eq_getElem hvl) (List.getElem?_eq_getElem hrl)
            have hlen := HOk.out.len y.rs[k] (List.getElem_mem hrl)
            obtain ⟨⟨xa, xn, xc, xb⟩, hvk⟩ : ∃ u, vs[k] = u := ⟨_, rfl⟩
            rw [hvk] at hat hrv
            unfold Rv.val at hrv
            simp only at hat hrv
            have hxn := hrv.of.2.2.2.2.2
            rw [hlen, HW0.out] at hxn
            subst hxn
            have k0 : wr.cell? ⟨b6, o6 + k * 2, none⟩ = some (.slice xa xn xc) := (HFk.out.cell (p := ⟨b6, o6 + k * 2, none⟩) hb6).trans hat.1
            have k1 : wr.cell? ⟨b6, o6 + k * 2 + 1, none⟩ = some (.bool xb) := (HFk.out.cell (p := ⟨b6, o6 + k * 2 + 1, none⟩) hb6).trans hat.2
            have q2 : ((xn : Int) != (xn : Int)) = false := by simp
            have hb7 : b6 < wr.heap.size := Nat.lt_of_lt_of_le hb6 HFk.out.size
            clear hAt6 hat hrv hlen hvk hb6 hvl hrl
            go_wp2_with fail
            go_roundw
            case rel => exact ⟨k + 1, by go_num, by omega, Lib.hid (HFk.out.alloc HFk.out.size _)⟩
            case measure => simp [intOf]; omega
          · obtain rfl : k = n6 := by omega
            have hdk : decide (k < k) = false := by simp
            have HE : Hid (∃ a n c, SynQ rb g px none (playG x0 la (j + 1)) (refV (playG x0 la (j + 1)).W a n c) (playG x0 la (j + 1)).W (.slice a n c) w wr) := Lib.hid ⟨a2, n2, c2, by rw [HPs.out]; exact HS6.out.below HFk.out⟩
            clear HI HV HS6 HS5 HS2 HFk
            go_wp2_with fail
            go_roundw
            case rel => exact ⟨j + 1, by go_num, by omega, HE⟩
            case measure => simp [intOf]; omega
    · have hend : Hid (P (.returned (.bool true)) wr) := Lib.hid (by rw [← HP.out]; exact ⟨rfl, HB.out.1⟩)
      clear hS HF
      by_cases hj2 : j < na
      · have d1 : decide (j < na) = true := decide_eq_true hj2
        have d2 : decide ((j : Int) < 20) = false := decide_eq_false (by omega)
        clear hlt
        go_wp2_with fail
        exact hend.out
      · have d1 : decide (j < na) = false := decide_eq_false hj2
        clear hlt
        go_wp2_with fail
        exact hend.out
end Go.Proofs.YtmdnnpcofbhceaaDoor.K
