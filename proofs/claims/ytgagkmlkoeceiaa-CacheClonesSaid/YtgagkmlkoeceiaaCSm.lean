/- law01's Same of two slices of numbers that are alike; the document's Spans of a cache. -/
import Derived.Test.YtgagkmlkoeceiaaCRfG
import Derived.Test.YtgagkmlkoeceiaaMerged10
import Derived.Test.YtgagkmlkoeceiaaMerged7
import Derived.Test.YtgagkmlkoeceiaaRelD
namespace Go.Proofs.Ytgagkmlkoeceiaa.C
open Go.RowKit Go.Maps Go.Proofs.Ytgagkmlkoeceiaa.H
open Go.Proofs.Ytgagkmlkoeceiaa.W (OwnI IntsIn inV)

def SmOk6 (g off n c g2 off2 c2 j : Nat) (x : Int) : Nat → Value → World → Prop
  | 0, u, _ => u = .slice (some ⟨g, off, none⟩) n c
  | 1, u, _ => u = .int .i64 (j : Int)
  | 2, u, _ => u = .pointer (some ⟨g, off + j, none⟩)
  | 3, u, _ => u = .int .i64 x
  | 4, u, _ => u = .slice (some ⟨g2, off2, none⟩) n c2
  | 5, u, _ => u = .int .i64 (j : Int)
  | 6, u, _ => u = .pointer (some ⟨g2, off2 + j, none⟩)
  | 7, u, _ => u = .int .i64 x
  | 8, u, _ => u = .bool false
  | _, _, _ => True
set_option maxRecDepth 100000 in
set_option maxHeartbeats 4000000 in
theorem same01_any (a a2 : Option Addr) (n c c2 : Nat) (zs : List Int) (w : World) (h : IntsIn a n zs w) (h2 : IntsIn a2 n zs w) (hl : n ≤ 1000000) :
    Calls Try.prog 22 #[.slice a n c, .slice a2 n c2] w (BPost true w) := by
  obtain ⟨P, hP⟩ : ∃ P, BPost true w = P := ⟨_, rfl⟩
  rw [hP]
  have HP := Lib.hid hP
  have H1 := Lib.hid h
  have H2 := Lib.hid h2
  have q : ((n : Int) != (n : Int)) = false := by simp
  clear hP h h2
  go_enter Try.func22, Try.ntmps22
  go_wp2_with fail
  clear q
  go_loopw [13] (fun i wr => ∃ j : Nat, i = .int .i64 (j : Int) ∧ j ≤ n ∧ Hid (Below w.heap.size w wr)) (fun i _ => n - (intOf i).toNat)
  case atStart => exact ⟨0, rfl, by omega, Lib.hid (Below.refl _ _)⟩
  case round =>
    obtain ⟨j, rfl, hj, HB⟩ := hrel
    by_cases hlt : j < n
    · have hd : decide (j < n) = true := decide_eq_true hlt
      have hjI : (j : Int) < n := by omega
      have hjl : j < zs.length := by rw [← H1.out.1]; exact hlt
      obtain ⟨g, off, rfl, hgl, hat⟩ := H1.out.2.resolve_left (by intro e; rw [e] at hjl; simp at hjl)
      obtain ⟨g2, off2, rfl, hgl2, hat2⟩ := H2.out.2.resolve_left (by intro e; rw [e] at hjl; simp at hjl)
      obtain ⟨x, hx⟩ : ∃ x, zs.getD j 0 = x := ⟨_, rfl⟩
      have L0 := hat j hjl
      have M0 := hat2 j hjl
      rw [hx] at L0 M0
      have L0 := Lib.hid L0
      have M0 := Lib.hid M0
      have Ll := Lib.hid hgl
      have Ml := Lib.hid hgl2
      clear hat hat2 hx hjl hgl hgl2
      go_upto_region 6 with fail
      refine Go.Proofs.Ytgagkmlkoeceiaa.R.wp_region_due [] [0, 0, 0, 0, 0, 0, 0, 0, 0] (by kernel_rfl) (fun _ _ u => Below w.heap.size w u) (fun u u2 => Below u.heap.size u u2) (SmOk6 g off n c g2 off2 c2 j x) (by rfl) (by kernel_rfl) (by kernel_rfl) (by kernel_rfl) (by kernel_rfl) ?hcong ?hOk ?hop ?hdone ?h0
      case hcong => exact fun k f f2 u hs hst => hst
      case hOk => intro i u w1 w2 h hr; unfold SmOk6 at h ⊢; split at h <;> exact h
      case h0 => exact HB.out.trans (((Below.refl _ _).drew).mono HB.out.size)
      case hop =>
        refine ⟨?_, ?_, ?_, ?_, ?_, ?_, ?_, ?_, ?_, trivial⟩
        · intro k z v hk hst hag hdep
          refine .inl ⟨rfl, fun K hK => ?_⟩
          have d0 : z.tmps.getD 0 undef = .slice (some ⟨g, off, none⟩) n c := hag.2.2 0 (by kernel_rfl)
          have e0 := d0
          rw [Array.getD_eq_getD_getElem?] at e0
          have HSt := Lib.hid hst
          clear hdep hag hst
          go_simp
          exact hK _ _ (Below.refl _ _) rfl HSt.out
        · intro k z v hk hst hag hdep
          refine .inl ⟨rfl, fun K hK => ?_⟩
          have d5 : z.tmps.getD 5 undef = .int .i64 (j : Int) := hag.2.2 5 (by kernel_rfl)
          have e5 := d5
          rw [Array.getD_eq_getD_getElem?] at e5
          have HSt := Lib.hid hst
          clear hdep hag hst
          go_simp
          exact hK _ _ (Below.refl _ _) rfl HSt.out
        · intro k z v hk hst hag hdep
          refine .inl ⟨rfl, fun K hK => ?_⟩
          have d16 : z.tmps.getD 16 undef = .slice (some ⟨g, off, none⟩) n c := hdep { on := 0, ground := .data } (by simp) rfl _ _ rfl rfl
          have e16 := d16
          rw [Array.getD_eq_getD_getElem?] at e16
          have d17 : z.tmps.getD 17 undef = .int .i64 (j : Int) := hdep { on := 1, ground := .data } (by simp) rfl _ _ rfl rfl
          have e17 := d17
          rw [Array.getD_eq_getD_getElem?] at e17
          have HSt := Lib.hid hst
          clear hdep hag hst
          go_simp
          exact hK _ _ (Below.refl _ _) rfl HSt.out
        · intro k z v hk hst hag hdep
          refine .inl ⟨rfl, fun K hK => ?_⟩
          have d18 : z.tmps.getD 18 undef = .pointer (some ⟨g, off + j, none⟩) := hdep { on := 2, ground := .data } (by simp) rfl _ _ rfl rfl
          have e18 := d18
          rw [Array.getD_eq_getD_getElem?] at e18
          have hb9 : Below w.heap.size w v := hst
          have l0 := (hb9.cell (p := ⟨g, off + j, none⟩) Ll.out).trans L0.out
          try simp only at l0
          clear hb9
          have HSt := Lib.hid hst
          clear hdep hag hst
          go_simp
          exact hK _ _ (Below.refl _ _) rfl HSt.out
        · intro k z v hk hst hag hdep
          refine .inl ⟨rfl, fun K hK => ?_⟩
          have d1 : z.tmps.getD 1 undef = .slice (some ⟨g2, off2, none⟩) n c2 := hag.2.2 1 (by kernel_rfl)
          have e1 := d1
          rw [Array.getD_eq_getD_getElem?] at e1
          have HSt := Lib.hid hst
          clear hdep hag hst
          go_simp
          exact hK _ _ (Below.refl _ _) rfl HSt.out
        · intro k z v hk hst hag hdep
          refine .inl ⟨rfl, fun K hK => ?_⟩
          have d5 : z.tmps.getD 5 undef = .int .i64 (j : Int) := hag.2.2 5 (by kernel_rfl)
          have e5 := d5
          rw [Array.getD_eq_getD_getElem?] at e5
          have HSt := Lib.hid hst
          clear hdep hag hst
          go_simp
          exact hK _ _ (Below.refl _ _) rfl HSt.out
        · intro k z v hk hst hag hdep
          refine .inl ⟨rfl, fun K hK => ?_⟩
          have d20 : z.tmps.getD 20 undef = .slice (some ⟨g2, off2, none⟩) n c2 := hdep { on := 4, ground := .data } (by simp) rfl _ _ rfl rfl
          have e20 := d20
          rw [Array.getD_eq_getD_getElem?] at e20
          have d21 : z.tmps.getD 21 undef = .int .i64 (j : Int) := hdep { on := 5, ground := .data } (by simp) rfl _ _ rfl rfl
          have e21 := d21
          rw [Array.getD_eq_getD_getElem?] at e21
          have HSt := Lib.hid hst
          clear hdep hag hst
          go_simp
          exact hK _ _ (Below.refl _ _) rfl HSt.out
        · intro k z v hk hst hag hdep
          refine .inl ⟨rfl, fun K hK => ?_⟩
          have d22 : z.tmps.getD 22 undef = .pointer (some ⟨g2, off2 + j, none⟩) := hdep { on := 6, ground := .data } (by simp) rfl _ _ rfl rfl
          have e22 := d22
          rw [Array.getD_eq_getD_getElem?] at e22
          have hb9 : Below w.heap.size w v := hst
          have l0 := (hb9.cell (p := ⟨g2, off2 + j, none⟩) Ml.out).trans M0.out
          try simp only at l0
          clear hb9
          have HSt := Lib.hid hst
          clear hdep hag hst
          go_simp
          exact hK _ _ (Below.refl _ _) rfl HSt.out
        · intro k z v hk hst hag hdep
          refine .inl ⟨rfl, fun K hK => ?_⟩
          have d19 : z.tmps.getD 19 undef = .int .i64 x := hdep { on := 3, ground := .data } (by simp) rfl _ _ rfl rfl
          have e19 := d19
          rw [Array.getD_eq_getD_getElem?] at e19
          have d23 : z.tmps.getD 23 undef = .int .i64 x := hdep { on := 7, ground := .data } (by simp) rfl _ _ rfl rfl
          have e23 := d23
          rw [Array.getD_eq_getD_getElem?] at e23
          have q9 : (x != x) = false := by simp
          have HSt := Lib.hid hst
          clear hdep hag hst
          go_simp
          exact hK _ _ (Below.refl _ _) rfl HSt.out
      case hdone =>
        intro z w3 hst hag hok
        have hb3 : Below w.heap.size w w3 := hst
        have d24 : z.tmps.getD 24 undef = .bool false := hok 8 _ 24 rfl rfl
        have HB3 := Lib.hid hb3
        clear hst hb3
        obtain ⟨uu, hu, hzz⟩ := Go.Proofs.Ytgagkmlkoeceiaa.R.agree_frame [16, 17, 18, 19, 20, 21, 22, 23, 24] rfl hag
        have e24 := (hu 24).trans d24
        subst hzz
        simp only [List.foldl_cons, List.foldl_nil]
        rw [e24]
        clear e24 d24 hu hag hok
        try dsimp only [Exit.then]
        simp only [List.setIfInBounds_toArray, List.set_cons_succ, List.set_cons_zero]
        generalize uu 16 = u16', uu 17 = u17', uu 18 = u18', uu 19 = u19', uu 20 = u20', uu 21 = u21', uu 22 = u22', uu 23 = u23'
        clear uu
        go_wp2_with fail
        go_roundw
        case rel => exact ⟨j + 1, by go_num, by omega, HB3⟩
        case measure => simp [intOf]; omega
    · obtain rfl : j = n := by omega
      have hd : decide (j < j) = false := by simp
      have hend : Hid (P (.returned (.bool true)) wr) := Lib.hid (by rw [← HP.out]; exact ⟨rfl, HB.out⟩)
      clear HB hlt
      go_wp2_with fail
      exact hend.out
/-! ### the document's Spans -/
theorem spansR_eq {L : List (Int × List (Int × Int))} : addsS [] (spI (L.map (·.1))) = spansC L := by
  unfold spansC
  refine Nm.ext (Nm.nil.adds _) (Nm.nil.adds _) fun n => ?_
  rw [addsS_mem n _ _ Nm.nil, addsS_mem n _ _ Nm.nil]
  have hp : (sortI (L.map (·.1))).Perm (L.map (·.1)) := List.mergeSort_perm _ _
  have key : ∀ zs : List Int, (∃ x ∈ spI zs, inx n (cnt x)) ↔ ∃ z ∈ zs, inx n (cnt (z, z + 1)) := fun zs => by
    constructor
    · rintro ⟨x, hx, h⟩
      obtain ⟨z, hz, rfl⟩ := List.mem_map.1 hx
      exact ⟨z, hz, h⟩
    · rintro ⟨z, hz, h⟩
      exact ⟨_, List.mem_map.2 ⟨z, hz, rfl⟩, h⟩
  rw [key, key]
  constructor
  · rintro (h | ⟨z, hz, h⟩)
    · exact .inl h
    · exact .inr ⟨z, hp.mem_iff.2 hz, h⟩
  · rintro (h | ⟨z, hz, h⟩)
    · exact .inl h
    · exact .inr ⟨z, hp.mem_iff.1 hz, h⟩
theorem spI_take (L : List (Int × List (Int × Int))) (j : Nat) (y : Int × List (Int × Int)) (h : L[j]? = some y) : addsS [] (spI ((L.take (j + 1)).map (·.1))) = addS (addsS [] (spI ((L.take j).map (·.1)))) (y.1, y.1 + 1) := by
  obtain ⟨hk, he⟩ := List.getElem?_eq_some_iff.1 h
  rw [List.take_succ_eq_append_getElem hk, he, List.map_append]
  show addsS [] (List.map (fun i => (i, i + 1)) _) = _
  rw [List.map_append]
  exact addsS_snoc _ _ _
def RSpPost (S : List Sp) (w : World) (r : Ending) (w' : World) : Prop := ∃ a c, r = .returned (.slice a S.length c) ∧ PairsIn .i64 a S.length c S w' ∧ Below w.heap.size w w'
def SpI (L : List (Int × List (Int × Int))) (w1 : World) (j : Nat) (v : Value) (wr : World) : Prop := ∃ a c, v = .slice a (addsS [] (spI ((L.take j).map (·.1)))).length c ∧ PairsIn .i64 a (addsS [] (spI ((L.take j).map (·.1)))).length c (addsS [] (spI ((L.take j).map (·.1)))) wr ∧ (a = none → c = 0) ∧ Below w1.heap.size w1 wr
set_option maxRecDepth 100000 in
set_option maxHeartbeats 8000000 in
theorem rspans_any (M : List Nat) (X : Value) (x : Ca) (w : World) (h : RefC M X x w) (hl : x.L.length ≤ 200) (hz : ∀ y ∈ x.L, 0 ≤ y.1 ∧ y.1 ≤ 1152921504606846976) :
    Calls Try.prog 26 #[X] w (RSpPost (spansC x.L) w) := by
  obtain ⟨a, n, c, es, rfl, h1, h2, h3⟩ := h
  obtain ⟨P, hP⟩ : ∃ P, RSpPost (spansC x.L) w = P := ⟨_, rfl⟩
  rw [hP]
  have HP := Lib.hid hP
  obtain ⟨m, hm⟩ : ∃ m : Int, (x.most : Int) = m := ⟨_, rfl⟩
  rw [hm]
  obtain ⟨p, hp⟩ : ∃ p, p = w.heap.size := ⟨_, rfl⟩
  obtain ⟨w0, hw0⟩ : ∃ w0, w0 = w.alloc (.cells #[.int .i64 m, .slice a n c] 28) := ⟨_, rfl⟩
  obtain ⟨w1, hw1⟩ : ∃ w1, w1 = w0.alloc (.cells #[] 80) := ⟨_, rfl⟩
  have hx0 : w0.heap[p]? = some (.cells #[.int .i64 m, .slice a n c] 28 (0, 0)) := by rw [hw0, hp]; exact heap_alloc_new w _
  have hb0 : Below w.heap.size w w0 := by rw [hw0]; exact alloc_below w _
  have hb01 : Below w0.heap.size w0 w1 := by rw [hw1]; exact alloc_below _ _
  have hs0 : w0.heap.size = p + 1 := by rw [hw0, World.size_alloc, hp]
  have hs1 : w1.heap.size = p + 2 := by rw [hw1, World.size_alloc, hs0]
  obtain ⟨q, hq⟩ : ∃ q, q = p + 1 := ⟨_, rfl⟩
  have hx1 := (hb01.block p (by omega)).trans hx0
  have c1 : w1.cell? ⟨p, 1, none⟩ = some (.slice a n c) := by rw [cell_block hx1]; rfl
  have hb1 : Below w.heap.size w w1 := hb0.trans (hb01.mono hb0.size)
  have H1 := Lib.hid h1
  have H2 := Lib.hid h2
  have HB1 := Lib.hid hb1
  have HLn : Hid (n = x.L.length ∧ n ≤ 200) := Lib.hid ⟨h1.len.trans h2.len, by rw [h1.len, h2.len]; exact hl⟩
  have HW : Hid ((w.alloc (.cells #[.int .i64 m, .slice a n c] 28)).alloc (.cells #[] 80) = w1) := Lib.hid (by rw [hw1, hw0])
  have HPp := Lib.hid hp
  have HSz : Hid (w.heap.size + 1 = q) := Lib.hid (by omega)
  have HZ := Lib.hid hz
  have HI : Hid (SpI x.L w1 0 (.slice (some ⟨q, 0, none⟩) 0 0) w1) := Lib.hid ⟨some ⟨q, 0, none⟩, 0, rfl, ⟨rfl, Nat.le_refl _, by decide, .inl rfl⟩, (fun e => by cases e), Below.refl _ _⟩
  have hnc := h1.fit
  have htop := h1.top
  have hzE := zeroEnt
  clear hP h1 h2 hm hp hw0 hw1 hx0 hx1 hb0 hb01 hb1 hs0 hs1 hq hl hz h3
  go_enter Try.func26, Try.ntmps26
  go_upto_region 2 with fail
  rw [HW.out, HSz.out, ← HPp.out]
  clear HW HSz HPp
  go_wp2_with fail
  clear c1
  go_loopw [3, 10] (fun lv v wr => ∃ j : Nat, v = .int .i64 (j : Int) ∧ j ≤ n ∧ Hid (SpI x.L w1 j lv wr)) (fun _ v _ => n - (intOf v).toNat)
  case atStart => exact ⟨0, rfl, Nat.zero_le _, HI⟩
  case round =>
    obtain ⟨j, rfl, hj, HF⟩ := hrel
    obtain ⟨la, lc, rfl, hpl, hnl, hbr⟩ := HF.out
    have hbw : Below w.heap.size w wr := HB1.out.trans (hbr.mono HB1.out.size)
    obtain ⟨S, hS⟩ : ∃ S, addsS [] (spI ((x.L.take j).map (·.1))) = S := ⟨_, rfl⟩
    rw [hS] at hpl ⊢
    have hSn : Nm S := by rw [← hS]; exact Nm.nil.adds _
    obtain ⟨sn, hsn⟩ : ∃ sn, S.length = sn := ⟨_, rfl⟩
    have hsl : sn ≤ 200 := by
      have h9 := addsS_len [] (spI ((x.L.take j).map (·.1)))
      rw [hS, hsn] at h9
      simp [spI] at h9
      have := HLn.out
      omega
    rw [hsn] at hpl ⊢
    clear HF HI
    by_cases hlt : j < n
    · have hd : decide (j < n) = true := decide_eq_true hlt
      have hjI : (j : Int) < n := by omega
      obtain ⟨y, hy⟩ : ∃ y, x.L[j]? = some y := ⟨_, List.getElem?_eq_getElem (by rw [← HLn.out.1]; exact hlt)⟩
      have hyz := HZ.out y (List.mem_of_getElem? hy)
      obtain ⟨e, he, hev⟩ := H2.out.at hy
      obtain ⟨b, off, rfl, hb, hi⟩ := H1.out.at_.resolve_left (by intro e9; rw [e9] at he; cases he)
      obtain ⟨k0, k1⟩ := hi j e he
      have k0 := (hbw.cell (p := ⟨b, off + j * 2, none⟩) hb).trans k0
      have k1 := (hbw.cell (p := ⟨b, off + j * 2 + 1, none⟩) hb).trans k1
      obtain ⟨yi, ya, yn, yc⟩ := e
      obtain rfl := hev.1
      simp only at k0 k1
      obtain ⟨yi, hyi⟩ : ∃ yi, y.1 = yi := ⟨_, rfl⟩
      have hst := spI_take x.L j y hy
      rw [hS] at hst
      rw [hyi] at k0 hyz hst
      have hwr : IntKind.i64.wrap (yi + 1) = yi + 1 := by rw [IntKind.wrap_i64]; omega
      obtain ⟨s5, hs5⟩ : ∃ s5, s5 = wr.heap.size := ⟨_, rfl⟩
      obtain ⟨w5, hw5⟩ : ∃ w5, w5 = wr.alloc (.cells #[.int .i64 yi, .slice ya yn yc] 63) := ⟨_, rfl⟩
      have hx5 : w5.heap[s5]? = some (.cells #[.int .i64 yi, .slice ya yn yc] 63 (0, 0)) := by rw [hw5, hs5]; exact heap_alloc_new _ _
      have hb15 : Below wr.heap.size wr w5 := by rw [hw5]; exact alloc_below _ _
      have g0 : w5.cell? ⟨s5, 0, none⟩ = some (.int .i64 yi) := by rw [cell_block hx5]; rfl
      have g1 : w5.cell? ⟨s5, 1, none⟩ = some (.slice ya yn yc) := by rw [cell_block hx5]; rfl
      have HAd := Lib.hid (radd_any la sn lc S yi (yi + 1) w5 (hpl.belowAll hb15) hnl hSn (by omega))
      have HW5 := Lib.hid hw5
      have HS5 := Lib.hid hs5
      have HB5 : Hid (Below w1.heap.size w1 w5) := Lib.hid (hbr.trans (hb15.mono hbr.size))
      have HSt := Lib.hid hst
      clear hy hyz he hb hi hev hs5 hw5 hx5 hb15 hst hyi hpl hnl hbr hbw hS hSn hsn
      go_upto_region 5 with fail
      rw [← HW5.out, ← HS5.out]
      clear HW5 HS5 k0 k1
      go_wp2_with fail
      refine HAd.out.mono ?_
      rintro e w6 ⟨v6, rfl, ho6, hb6⟩
      obtain ⟨a6, c6, rfl, hp6, -, hn6⟩ := ho6.shape
      have HE : Hid (SpI x.L w1 (j + 1) (.slice a6 (addS S (yi, yi + 1)).length c6) w6) := Lib.hid (by
        unfold SpI
        rw [HSt.out]
        exact ⟨a6, c6, rfl, hp6, hn6, HB5.out.trans (hb6.mono HB5.out.size)⟩)
      obtain ⟨s9, hs9⟩ : ∃ s9, (addS S (yi, yi + 1)).length = s9 := ⟨_, rfl⟩
      rw [hs9] at HE ⊢
      clear ho6 hp6 hn6 hb6 HAd HSt HB5
      go_wp2_with fail
      go_roundw
      case rel => exact ⟨j + 1, by go_num, by omega, HE⟩
      case measure => simp [intOf]; omega
    · obtain rfl : j = n := by omega
      have hd : decide (j < j) = false := by simp
      have hend : Hid (P (.returned (.slice la sn lc)) wr) := Lib.hid (by
        rw [List.take_of_length_le (by rw [← HLn.out.1]; exact Nat.le_refl _), spansR_eq] at hS
        rw [← HP.out]
        unfold RSpPost
        rw [hS, hsn]
        exact ⟨la, lc, rfl, hpl, hbw⟩)
      clear hbw hpl hS hsn hlt hSn hbr
      go_wp2_with fail
      all_goals exact hend.out
end Go.Proofs.Ytgagkmlkoeceiaa.C
