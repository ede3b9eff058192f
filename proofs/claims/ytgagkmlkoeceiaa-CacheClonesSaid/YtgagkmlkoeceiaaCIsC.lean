/- law14's Is: a cache is the document's. -/
import Derived.Test.YtgagkmlkoeceiaaCDo
namespace Go.Proofs.Ytgagkmlkoeceiaa.C
open Go.RowKit Go.Maps Go.Proofs.Ytgagkmlkoeceiaa.H
open Go.Proofs.Ytgagkmlkoeceiaa.W (OwnI IntsIn inV infoInt)

theorem wpList_append_iB {ops : Array Oper} {rest : List Oper} {o : Oper} {z : Act} {w : World} {Q : Exit → Act → World → Prop} (hgd : o.guard = none) (s x : Operand)
    (ho : o.op = .call { callee := .builtin .append, args := #[s, x], argTypes := #[61, 61] }) (hty : o.type = 61)
    (base : Nat) (v : Value) (xs : List Int) (a : Option Addr) (m c : Nat) (zs : List Int) (hs : z.eval s = v) (hxv : z.eval x = .slice a m c) (hown : OwnI base v xs w) (h : IntsIn a m zs w) (hnil : a = none → c = 0) (hx : xs.length ≤ 1000000) (hz : zs.length ≤ 1000000) (hbase : base ≤ w.heap.size)
    (hK : ∀ v' w', OwnI base v' (xs ++ zs) w' → w.grownBy w' v.ownBlock → wpList Try.prog ops Q rest (z.put o.dst v') w') : wpList Try.prog ops Q (o :: rest) z w :=
  wpList_plain hgd fun _ hK' => by
    obtain ⟨v', w', hr, h1, h2, h3⟩ := run_append_i base v xs a m c zs w hown h hnil hx hz hbase
    unfold Oper.wp execOp
    simp only [ho, hty, resolve, invoke, builtin, Sem.run_bind, Sem.run_pure, Result.andThen_ok, List.map_toArray, List.map_cons, List.map_nil, hs, hxv, hr]
    exact hK' _ _ (hK v' w' h1 h2)
theorem find_of : ∀ {L : List (Int × List (Int × Int))} {x : Int × List (Int × Int)}, (L.map (·.1)).Nodup → x ∈ L → findC L x.1 = some x.2
  | [], _, _, h => by cases h
  | y :: L, x, hn, h => by
    by_cases e : y.1 = x.1
    · rcases List.mem_cons.1 h with rfl | h
      · unfold findC
        rw [List.find?_cons]
        simp
      · exact absurd (List.mem_map.2 ⟨x, h, e.symm⟩) (List.nodup_cons.1 hn).1
    · have h2 : x ∈ L := (List.mem_cons.1 h).resolve_left (fun e2 => e (by rw [e2]))
      have ih := find_of (List.nodup_cons.1 hn).2 h2
      unfold findC at ih ⊢
      rw [List.find?_cons]
      have e3 : (y.1 == x.1) = false := by simpa using e
      rw [e3]
      exact ih
theorem Ch.numsIn {c : Nat} {M G : List Nat} {x : Ca} {w : World} (h : Ch c M G x w) : ∀ y ∈ x.L, 0 ≤ y.1 ∧ y.1 ≤ 1152921504606846976 := fun y hy => by
  obtain ⟨m, e, ns, h1, h2, -⟩ := h
  rw [← h2] at hy
  obtain ⟨z, hz, rfl⟩ := List.mem_map.1 hy
  obtain ⟨-, -, -, h9, -⟩ := h1.own1 hz
  exact ⟨h9.1, h9.2.1⟩
def IsOk10 (c p mo n c1 oc sk : Nat) (a oa : Option Addr) (ZS : List Int) (SS : List Sp) : Nat → Value → World → Prop
  | 0, u, _ => u = .pointer (some ⟨c, 0, none⟩)
  | 1, u, _ => u = .int .i64 (n : Int)
  | 2, u, _ => u = .pointer (some ⟨p, 1, none⟩)
  | 3, u, _ => u = .slice a n c1
  | 4, u, _ => u = .int .i64 (n : Int)
  | 5, u, _ => u = .bool true
  | 6, u, _ => u = .bool true
  | 7, u, _ => u = .pointer (some ⟨c, 0, none⟩)
  | 8, u, w => ∃ a9 c9, u = .slice a9 n c9 ∧ IntsIn a9 n ZS w
  | 9, u, _ => u = .slice oa n oc
  | 10, u, _ => u = .bool true
  | 11, u, _ => u = .bool true
  | 12, u, _ => u = .bool true
  | 13, u, _ => u = .pointer (some ⟨c, 0, none⟩)
  | 14, u, w => ∃ a9 c9, u = .slice a9 sk c9 ∧ PairsIn .i64 a9 sk c9 SS w
  | 15, u, _ => u = .agg #[.int .i64 (mo : Int), .slice a n c1]
  | 16, u, w => ∃ a9 c9, u = .slice a9 sk c9 ∧ PairsIn .i64 a9 sk c9 SS w
  | 17, u, _ => u = .bool true
  | 18, u, _ => u = .bool true
  | 19, u, _ => u = .bool true
  | _, _, _ => True
set_option maxRecDepth 100000 in
set_option maxHeartbeats 16000000 in
theorem is_any {c : Nat} {M G : List Nat} {x : Ca} (X : Value) (w : World) (h : Ch c M G x w) (hX : RefC M X x w) (hl : x.L.length ≤ 200) (hRL : ∀ y ∈ x.L, RngG y.2 ∧ y.2.length ≤ 1000) :
    Calls Try.prog 9 #[.pointer (some ⟨c, 0, none⟩), X] w (BPost true w) := by
  obtain ⟨P, hP⟩ : ∃ P, BPost true w = P := ⟨_, rfl⟩
  rw [hP]
  have HP := Lib.hid hP
  have hcopy := hX
  obtain ⟨a, n, c1, es, rfl, h1, h2, -⟩ := hcopy
  obtain ⟨mo, hm⟩ : ∃ mo, x.most = mo := ⟨_, rfl⟩
  rw [hm] at hX ⊢
  obtain ⟨p, hp⟩ : ∃ p, p = w.heap.size := ⟨_, rfl⟩
  obtain ⟨w1, hw1⟩ : ∃ w1, w1 = w.alloc (.cells #[.int .i64 (mo : Int), .slice a n c1] 28) := ⟨_, rfl⟩
  have hx1 : w1.heap[p]? = some (.cells #[.int .i64 (mo : Int), .slice a n c1] 28 (0, 0)) := by rw [hw1, hp]; exact heap_alloc_new w _
  have hb1 : Below w.heap.size w w1 := by rw [hw1]; exact alloc_below w _
  have c0' : w1.cell? ⟨p, 0, none⟩ = some (.int .i64 (mo : Int)) := by rw [cell_block hx1]; rfl
  have c1' : w1.cell? ⟨p, 1, none⟩ = some (.slice a n c1) := by rw [cell_block hx1]; rfl
  obtain ⟨B, hB⟩ : ∃ B, w1.heap.size = B := ⟨_, rfl⟩
  have HXp1 : Hid (p < w1.heap.size ∧ w1.cell? ⟨p, 0, none⟩ = some (.int .i64 (mo : Int)) ∧ w1.cell? ⟨p, 1, none⟩ = some (.slice a n c1)) := Lib.hid ⟨(Array.getElem?_eq_some_iff.1 hx1).1, c0', c1'⟩
  have H1 := Lib.hid h1
  have H2 := Lib.hid h2
  have HB1 := Lib.hid hb1
  have HBz := Lib.hid hB
  have HLn : Hid (x.L.length = n) := Lib.hid (h1.len.trans h2.len).symm
  have HN200 : Hid (n ≤ 200) := Lib.hid (by rw [h1.len, h2.len]; exact hl)
  have HCw := Lib.hid h
  have HXw := Lib.hid hX
  have HNd := Lib.hid h.nodup.1
  have HZ := Lib.hid h.numsIn
  have HRL := Lib.hid hRL
  have HW1 := Lib.hid hw1
  have HPp := Lib.hid hp
  have HI : Hid (OwnI B (.slice none 0 0) ((x.L.take 0).map (·.1)) w1 ∧ Below w1.heap.size w1 w1) := Lib.hid ⟨OwnI.nil _ _, Below.refl _ _⟩
  have hnc := h1.fit
  have htop := h1.top
  have hzE := zeroEnt
  clear hP h h1 h2 hm hp hw1 hx1 hb1 hX hl hRL hB
  go_enter Try.func9, Try.ntmps9
  go_upto_region 2 with fail
  rw [← HW1.out, ← HPp.out]
  go_wp2_with fail
  clear c0' c1'
  go_loopw [5, 13] (fun lv v wr => ∃ j : Nat, v = .int .i64 (j : Int) ∧ j ≤ n ∧ Hid (OwnI B lv ((x.L.take j).map (·.1)) wr ∧ Below w1.heap.size w1 wr)) (fun _ v _ => n - (intOf v).toNat)
  case atStart => exact ⟨0, rfl, Nat.zero_le _, HI⟩
  case round =>
    obtain ⟨j, rfl, hj, HF⟩ := hrel
    obtain ⟨ho, hbr⟩ := HF.out
    have hbw : Below w.heap.size w wr := HB1.out.trans (hbr.mono HB1.out.size)
    clear HI
    by_cases hlt : j < n
    · have hd : decide (j < n) = true := decide_eq_true hlt
      have hjI : (j : Int) < n := by omega
      obtain ⟨y, hy⟩ : ∃ y, x.L[j]? = some y := ⟨_, List.getElem?_eq_getElem (by rw [HLn.out]; exact hlt)⟩
      have hym := List.mem_of_getElem? hy
      have hyz := HZ.out y hym
      have hyr := HRL.out y hym
      have hyf := find_of HNd.out hym
      have htk : (x.L.take (j + 1)).map (·.1) = (x.L.take j).map (·.1) ++ [y.1] := by
        obtain ⟨hk, he⟩ := List.getElem?_eq_some_iff.1 hy
        rw [List.take_succ_eq_append_getElem hk, he, List.map_append]
        rfl
      obtain ⟨e, he, hev⟩ := H2.out.at hy
      obtain ⟨b, off, rfl, hb, hi⟩ := H1.out.at_.resolve_left (by intro e9; rw [e9] at he; cases he)
      obtain ⟨k0, k1⟩ := hi j e he
      have k0 := (hbw.cell (p := ⟨b, off + j * 2, none⟩) hb).trans k0
      have k1 := (hbw.cell (p := ⟨b, off + j * 2 + 1, none⟩) hb).trans k1
      obtain ⟨yi, ya, yn, yc⟩ := e
      obtain ⟨y1, yg⟩ := y
      obtain rfl : yi = y1 := hev.1
      simp only at k0 k1 hyz hyr hyf htk
      have hpy := hev.2.1
      have hyl : yn = yg.length := hpy.len
      simp only at hpy
      obtain ⟨s5, hs5⟩ : ∃ s5, s5 = wr.heap.size := ⟨_, rfl⟩
      obtain ⟨w5, hw5⟩ : ∃ w5, w5 = wr.alloc (.cells #[.int .i64 yi, .slice ya yn yc] 63) := ⟨_, rfl⟩
      obtain ⟨w6, hw6⟩ : ∃ w6, w5.alloc (.cells #[.int .i64 yi] 3) = w6 := ⟨_, rfl⟩
      have hx5 : w5.heap[s5]? = some (.cells #[.int .i64 yi, .slice ya yn yc] 63 (0, 0)) := by rw [hw5, hs5]; exact heap_alloc_new _ _
      have hb15 : Below wr.heap.size wr w5 := by rw [hw5]; exact alloc_below _ _
      have hb56 : Below w5.heap.size w5 w6 := by rw [← hw6]; exact alloc_below _ _
      have hb6 : Below w1.heap.size w1 w6 := hbr.trans ((hb15.trans (hb56.mono hb15.size)).mono hbr.size)
      have g0 : w5.cell? ⟨s5, 0, none⟩ = some (.int .i64 yi) := by rw [cell_block hx5]; rfl
      have hi6 := Go.Proofs.Ytgagkmlkoeceiaa.W.ints_one w5 yi 3
      rw [hw6] at hi6
      have HX6 : Hid (w6.heap[s5]? = some (.cells #[.int .i64 yi, .slice ya yn yc] 63 (0, 0))) := Lib.hid ((hb56.block s5 (Array.getElem?_eq_some_iff.1 hx5).1).trans hx5)
      have HO6 := Lib.hid ((ho.belowAll hb15).belowAll hb56)
      have HOq : Hid (∀ q, u5.ownBlock = some q → B ≤ q ∧ q < s5) := Lib.hid (fun q hq => by have := World.ownsRow.lt ho q hq; exact ⟨this.1, by omega⟩)
      have HI6 := Lib.hid hi6
      have HW5 := Lib.hid hw5
      have HS5 := Lib.hid hs5
      have HW6 := Lib.hid hw6
      have HB6 := Lib.hid hb6
      have HS6 : Hid (B ≤ w6.heap.size) := Lib.hid (by have := hb6.size; have := HBz.out; omega)
      have HNn : Hid ((some (⟨w5.heap.size, 0, none⟩ : Addr)) = none → 1 = 0) := Lib.hid (fun e9 => by cases e9)
      have HLe : Hid (((x.L.take j).map (·.1)).length ≤ 1000000) := Lib.hid (by rw [List.length_map, List.length_take]; have := HLn.out; have := HN200.out; omega)
      have HTk := Lib.hid htk
      have HYz := Lib.hid hyz
      have HYr : Hid ((RngG yg ∧ yg.length ≤ 1000) ∧ yg.length = yn ∧ findC x.L yi = some yg) := Lib.hid ⟨hyr, hyl.symm, hyf⟩
      have HPy : Hid (PairsIn .i64 ya yn yc yg w) := Lib.hid hpy
      clear hy hym hyz hyr hyf htk he hb hi hev hpy hyl hs5 hw5 hw6 hx5 hb15 hb56 hb6 hi6 ho hbr hbw HF
      go_upto_region 5 with fail
      rw [← HW5.out, ← HS5.out]
      clear HW5 HS5 k0 k1
      go_wp2_with (at_builtin; rw [HW6.out]; refine wpList_append_iB rfl _ _ rfl rfl B _ ((x.L.take j).map (·.1)) (some ⟨w5.heap.size, 0, none⟩) 1 1 [yi] rfl rfl ?_ ?_ ?_ ?_ ?_ ?_ ?_; exact HO6.out; exact HI6.out; exact HNn.out; exact HLe.out; simp; exact HS6.out)
      intro v7 w7 ho7 hg7
      have ho7 : OwnI B v7 ((x.L.take j).map (·.1) ++ [yi]) w7 := by
        first | exact ho7 | (rw [List.map_take]; exact ho7)
      rw [← HTk.out] at ho7
      have hb7 : Below w1.heap.size w1 w7 := HB6.out.grown hg7 (by have := HB6.out.size; omega) (fun q hq => by rw [HBz.out]; exact (HOq.out q hq).1)
      have hx7 := (hg7.block s5 (Array.getElem?_eq_some_iff.1 HX6.out).1 (fun e9 => by have := HOq.out s5 e9.symm; omega)).trans HX6.out
      have t0 : w7.cell? ⟨s5, 0, none⟩ = some (.int .i64 yi) := by rw [cell_block hx7]; rfl
      have hpk := peek_any yi (by have := HYz.out; omega) w7 (HCw.out.below (HB1.out.trans (hb7.mono HB1.out.size)))
      unfold PeekPost at hpk
      rw [HYr.out.2.2] at hpk
      simp only [Option.getD_some, Option.isSome_some] at hpk
      have HPk := Lib.hid hpk
      have HO7 := Lib.hid ho7
      have HB7 := Lib.hid hb7
      have HX7 := Lib.hid hx7
      clear ho7 hg7 hb7 hx7 hpk g0 HO6 HI6 HX6 HOq HTk
      go_wp2_with fail
      refine HPk.out.mono ?_
      rintro e w8 ⟨v8, rfl, hq8, hb8⟩
      obtain ⟨la, lc, rfl, hp8, -, -⟩ := hq8.shape
      rw [HYr.out.2.1] at hp8 ⊢
      have hx8 := (hb8.block s5 (Array.getElem?_eq_some_iff.1 HX7.out).1).trans HX7.out
      have t1 : w8.cell? ⟨s5, 1, none⟩ = some (.slice ya yn yc) := by rw [cell_block hx8]; rfl
      have HB8 : Hid (Below w1.heap.size w1 w8) := Lib.hid (HB7.out.trans (hb8.mono HB7.out.size))
      have HO8 := Lib.hid (HO7.out.belowAll hb8)
      have HGl := Lib.hid (lawGlyphs_any la yn lc yg ya yn yc yg w8 hp8 (HPy.out.belowAll (HB1.out.trans (HB8.out.mono HB1.out.size))) HYr.out.1.1 (by have := HYr.out; omega) (by have := HYr.out; omega))
      clear hq8 hb8 hp8 hx8 HPk t0
      go_wp2_with fail
      refine HGl.out.mono ?_
      rintro e w9 ⟨rfl, hb9⟩
      rw [show decide True = true by simp]
      have HE : Hid (OwnI B v7 ((x.L.take (j + 1)).map (·.1)) w9 ∧ Below w1.heap.size w1 w9) := Lib.hid ⟨HO8.out.belowAll hb9, HB8.out.trans (hb9.mono HB8.out.size)⟩
      clear hb9 HGl t1 HO7 HO8 HB7 HB8 HX7
      go_wp2_with fail
      go_roundw
      case rel => exact ⟨j + 1, by go_num, by omega, HE⟩
      case measure => simp [intOf]; omega
    · have e9 : n = j := by omega
      subst e9
      have hd : decide (n < n) = false := by simp
      rw [List.take_of_length_le (by rw [HLn.out]; exact Nat.le_refl _)] at ho
      obtain ⟨wE, hwE⟩ : ∃ wE, wE = wr := ⟨_, rfl⟩
      subst hwE
      obtain ⟨oa, oc, rfl, hoi, -⟩ := Go.Proofs.Ytgagkmlkoeceiaa.W.OwnI.shape ho
      rw [show (List.map (fun x => x.1) x.L).length = n by rw [List.length_map, HLn.out]] at hoi ⊢
      obtain ⟨ZS, hZS⟩ : ∃ ZS, List.map (fun x => x.1) x.L = ZS := ⟨_, rfl⟩
      obtain ⟨SS, hSS⟩ : ∃ SS, spansC x.L = SS := ⟨_, rfl⟩
      obtain ⟨sk, hsk⟩ : ∃ sk, SS.length = sk := ⟨_, rfl⟩
      rw [hZS] at hoi
      have HZs := Lib.hid hZS
      have HSk : Hid (spansC x.L = SS ∧ SS.length = sk) := Lib.hid ⟨hSS, hsk⟩
      have HSl : Hid ((sk : Int) ≤ 1000000) := Lib.hid (by have h9 := spansC_len x; rw [hSS, hsk, HLn.out] at h9; have := HN200.out; omega)
      have HOr := Lib.hid hoi
      have HCh := Lib.hid (HCw.out.below hbw)
      have HRx := Lib.hid (HXw.out.below hbw)
      have HN2 : Hid (n ≤ 1000000 ∧ x.L.length ≤ 200 ∧ ∀ y ∈ x.L, 0 ≤ y.1 ∧ y.1 ≤ 1152921504606846976) := Lib.hid ⟨by have := HN200.out; omega, by rw [HLn.out]; exact HN200.out, HZ.out⟩
      have HXp : Hid (p < wE.heap.size ∧ wE.cell? ⟨p, 0, none⟩ = some (.int .i64 (mo : Int)) ∧ wE.cell? ⟨p, 1, none⟩ = some (.slice a n c1)) := Lib.hid ⟨Nat.lt_of_lt_of_le HXp1.out.1 hbr.size, (hbr.cell (p := ⟨p, 0, none⟩) HXp1.out.1).trans HXp1.out.2.1, (hbr.cell (p := ⟨p, 1, none⟩) HXp1.out.1).trans HXp1.out.2.2⟩
      have HBw := Lib.hid hbw
      clear HF ho hoi hZS hSS hsk hbr hbw hlt
      go_upto_region 10 with fail
      refine Go.Proofs.Ytgagkmlkoeceiaa.R.wp_region_due [] [0, 0, 0, 0, 0, 0, 0, 0, 0, 0, 0, 0, 0, 0, 0, 0, 0, 0, 0, 0] (by kernel_rfl) (fun _ _ u => Below wE.heap.size wE u) (fun u u2 => Below u.heap.size u u2) (IsOk10 c p mo n c1 oc sk a oa ZS SS) (by rfl) (by kernel_rfl) (by kernel_rfl) (by kernel_rfl) (by kernel_rfl) ?hcong ?hOk ?hop ?hdone ?h0
      case hcong => exact fun k f f2 u hs hst => hst
      case hOk => intro i u w1 w2 h hr; unfold IsOk10 at h ⊢; split at h <;> first | exact h | (obtain ⟨a9, c9, h1, h2⟩ := h; exact ⟨a9, c9, h1, h2.belowAll hr⟩)
      case h0 => exact (Below.refl _ _).drew
      case hop =>
        refine ⟨?_, ?_, ?_, ?_, ?_, ?_, ?_, ?_, ?_, ?_, ?_, ?_, ?_, ?_, ?_, ?_, ?_, ?_, ?_, ?_, trivial⟩
        · intro k z v hk hst hag hdep
          refine .inl ⟨rfl, fun K hK => ?_⟩
          have d0 : z.tmps.getD 0 undef = .pointer (some ⟨c, 0, none⟩) := hag.2.2 0 (by kernel_rfl)
          have e0 := d0
          rw [Array.getD_eq_getD_getElem?] at e0
          have HSt := Lib.hid hst
          clear hdep hag hst
          go_simp
          exact hK _ _ (Below.refl _ _) rfl HSt.out
        · intro k z v hk hst hag hdep
          refine .inl ⟨rfl, fun K hK => ?_⟩
          have d39 : z.tmps.getD 39 undef = .pointer (some ⟨c, 0, none⟩) := hdep { on := 0, ground := .data } (by simp) rfl _ _ rfl rfl
          have e39 := d39
          rw [Array.getD_eq_getD_getElem?] at e39
          have hb9 : Below wE.heap.size wE v := hst
          have HC := Lib.hid (len_any v (HCh.out.below hb9))
          have HBv := Lib.hid hb9
          clear hdep hag hst hb9
          go_simp
          refine HC.out.mono ?_
          rintro e w' ⟨rfl, rfl⟩
          rw [HLn.out]
          exact hK _ _ (Below.refl _ _) rfl HBv.out
        · intro k z v hk hst hag hdep
          refine .inl ⟨rfl, fun K hK => ?_⟩
          have d3 : z.tmps.getD 3 undef = .pointer (some ⟨p, 0, none⟩) := hag.2.2 3 (by kernel_rfl)
          have e3 := d3
          rw [Array.getD_eq_getD_getElem?] at e3
          have HSt := Lib.hid hst
          clear hdep hag hst
          go_simp
          exact hK _ _ (Below.refl _ _) rfl HSt.out
        · intro k z v hk hst hag hdep
          refine .inl ⟨rfl, fun K hK => ?_⟩
          have d41 : z.tmps.getD 41 undef = .pointer (some ⟨p, 1, none⟩) := hdep { on := 2, ground := .data } (by simp) rfl _ _ rfl rfl
          have e41 := d41
          rw [Array.getD_eq_getD_getElem?] at e41
          have hb9 : Below wE.heap.size wE v := hst
          have l1 := (hb9.cell (p := ⟨p, 1, none⟩) HXp.out.1).trans HXp.out.2.2
          try simp only at l1
          clear hb9
          have HSt := Lib.hid hst
          clear hdep hag hst
          go_simp
          exact hK _ _ (Below.refl _ _) rfl HSt.out
        · intro k z v hk hst hag hdep
          refine .inl ⟨rfl, fun K hK => ?_⟩
          have d42 : z.tmps.getD 42 undef = .slice a n c1 := hdep { on := 3, ground := .data } (by simp) rfl _ _ rfl rfl
          have e42 := d42
          rw [Array.getD_eq_getD_getElem?] at e42
          have HSt := Lib.hid hst
          clear hdep hag hst
          go_simp
          exact hK _ _ (Below.refl _ _) rfl HSt.out
        · intro k z v hk hst hag hdep
          refine .inl ⟨rfl, fun K hK => ?_⟩
          have d40 : z.tmps.getD 40 undef = .int .i64 (n : Int) := hdep { on := 1, ground := .data } (by simp) rfl _ _ rfl rfl
          have e40 := d40
          rw [Array.getD_eq_getD_getElem?] at e40
          have d43 : z.tmps.getD 43 undef = .int .i64 (n : Int) := hdep { on := 4, ground := .data } (by simp) rfl _ _ rfl rfl
          have e43 := d43
          rw [Array.getD_eq_getD_getElem?] at e43
          have q9 : ((n : Int) == (n : Int)) = true := by simp
          have HSt := Lib.hid hst
          clear hdep hag hst
          go_simp
          exact hK _ _ (Below.refl _ _) rfl HSt.out
        · intro k z v hk hst hag hdep
          refine .inl ⟨rfl, fun K hK => ?_⟩
          have d44 : z.tmps.getD 44 undef = .bool true := hdep { on := 5, ground := .data } (by simp) rfl _ _ rfl rfl
          have e44 := d44
          rw [Array.getD_eq_getD_getElem?] at e44
          have HSt := Lib.hid hst
          clear hdep hag hst
          go_simp
          exact hK _ _ (Below.refl _ _) rfl HSt.out
        · intro k z v hk hst hag hdep
          have dg : IsOk10 c p mo n c1 oc sk a oa ZS SS 6 (z.tmps.getD 45 undef) v := hdep { on := 6, ground := .guard } (by simp) rfl _ _ rfl rfl
          simp only [IsOk10] at dg
          refine .inl ⟨Go.Proofs.Ytgagkmlkoeceiaa.R.wanted_of (j := 6) rfl rfl rfl dg (by rw [hag.2.1]; show 45 < 58; decide), fun K hK => ?_⟩
          have d0 : z.tmps.getD 0 undef = .pointer (some ⟨c, 0, none⟩) := hag.2.2 0 (by kernel_rfl)
          have e0 := d0
          rw [Array.getD_eq_getD_getElem?] at e0
          have HSt := Lib.hid hst
          clear hdep hag hst
          go_simp
          exact hK _ _ (Below.refl _ _) rfl HSt.out
        · intro k z v hk hst hag hdep
          have dg : IsOk10 c p mo n c1 oc sk a oa ZS SS 6 (z.tmps.getD 45 undef) v := hdep { on := 6, ground := .guard } (by simp) rfl _ _ rfl rfl
          simp only [IsOk10] at dg
          refine .inl ⟨Go.Proofs.Ytgagkmlkoeceiaa.R.wanted_of (j := 6) rfl rfl rfl dg (by rw [hag.2.1]; show 45 < 58; decide), fun K hK => ?_⟩
          have d46 : z.tmps.getD 46 undef = .pointer (some ⟨c, 0, none⟩) := hdep { on := 7, ground := .data } (by simp) rfl _ _ rfl rfl
          have e46 := d46
          rw [Array.getD_eq_getD_getElem?] at e46
          have hb9 : Below wE.heap.size wE v := hst
          have HC := Lib.hid (order_any v (HCh.out.below hb9))
          have HBv := Lib.hid hb9
          clear hdep hag hst hb9
          go_simp
          refine HC.out.mono ?_
          rintro e w' ⟨v9, rfl, h8, h9⟩
          obtain ⟨a8, c8, rfl, h7, -⟩ := Go.Proofs.Ytgagkmlkoeceiaa.W.OwnI.shape h8
          rw [show (List.map (fun x => x.1) x.L).length = n by rw [List.length_map, HLn.out]] at h7 ⊢
          rw [HZs.out] at h7
          exact hK _ _ h9 ⟨_, _, rfl, h7⟩ (HBv.out.trans (h9.mono HBv.out.size))
        · intro k z v hk hst hag hdep
          have dg : IsOk10 c p mo n c1 oc sk a oa ZS SS 6 (z.tmps.getD 45 undef) v := hdep { on := 6, ground := .guard } (by simp) rfl _ _ rfl rfl
          simp only [IsOk10] at dg
          refine .inl ⟨Go.Proofs.Ytgagkmlkoeceiaa.R.wanted_of (j := 6) rfl rfl rfl dg (by rw [hag.2.1]; show 45 < 58; decide), fun K hK => ?_⟩
          have d5 : z.tmps.getD 5 undef = .slice oa n oc := hag.2.2 5 (by kernel_rfl)
          have e5 := d5
          rw [Array.getD_eq_getD_getElem?] at e5
          have HSt := Lib.hid hst
          clear hdep hag hst
          go_simp
          exact hK _ _ (Below.refl _ _) rfl HSt.out
        · intro k z v hk hst hag hdep
          have dg : IsOk10 c p mo n c1 oc sk a oa ZS SS 6 (z.tmps.getD 45 undef) v := hdep { on := 6, ground := .guard } (by simp) rfl _ _ rfl rfl
          simp only [IsOk10] at dg
          refine .inl ⟨Go.Proofs.Ytgagkmlkoeceiaa.R.wanted_of (j := 6) rfl rfl rfl dg (by rw [hag.2.1]; show 45 < 58; decide), fun K hK => ?_⟩
          have d47' : IsOk10 c p mo n c1 oc sk a oa ZS SS 8 (z.tmps.getD 47 undef) v := hdep { on := 8, ground := .data } (by simp) rfl _ _ rfl rfl
          simp only [IsOk10] at d47'
          obtain ⟨a947, c947, d47, hp47⟩ := d47'
          have e47 := d47
          rw [Array.getD_eq_getD_getElem?] at e47
          have d48 : z.tmps.getD 48 undef = .slice oa n oc := hdep { on := 9, ground := .data } (by simp) rfl _ _ rfl rfl
          have e48 := d48
          rw [Array.getD_eq_getD_getElem?] at e48
          have hb9 : Below wE.heap.size wE v := hst
          have HC := Lib.hid (same01_any a947 oa n c947 oc ZS v hp47 (HOr.out.belowAll hb9) HN2.out.1)
          have HBv := Lib.hid hb9
          clear hdep hag hst hb9
          go_simp
          refine HC.out.mono ?_
          rintro e w' ⟨rfl, h9⟩
          exact hK _ _ h9 rfl (HBv.out.trans (h9.mono HBv.out.size))
        · intro k z v hk hst hag hdep
          refine .inl ⟨rfl, fun K hK => ?_⟩
          have d45 : z.tmps.getD 45 undef = .bool true := hdep { on := 6, ground := .data } (by simp) rfl _ _ rfl rfl
          have e45 := d45
          rw [Array.getD_eq_getD_getElem?] at e45
          have d49 : z.tmps.getD 49 undef = .bool true := hdep { on := 10, ground := .data } (by simp) rfl _ _ rfl rfl
          have e49 := d49
          rw [Array.getD_eq_getD_getElem?] at e49
          have HSt := Lib.hid hst
          clear hdep hag hst
          go_simp
          exact hK _ _ (Below.refl _ _) rfl HSt.out
        · intro k z v hk hst hag hdep
          refine .inl ⟨rfl, fun K hK => ?_⟩
          have d50 : z.tmps.getD 50 undef = .bool true := hdep { on := 11, ground := .data } (by simp) rfl _ _ rfl rfl
          have e50 := d50
          rw [Array.getD_eq_getD_getElem?] at e50
          have HSt := Lib.hid hst
          clear hdep hag hst
          go_simp
          exact hK _ _ (Below.refl _ _) rfl HSt.out
        · intro k z v hk hst hag hdep
          have dg : IsOk10 c p mo n c1 oc sk a oa ZS SS 12 (z.tmps.getD 51 undef) v := hdep { on := 12, ground := .guard } (by simp) rfl _ _ rfl rfl
          simp only [IsOk10] at dg
          refine .inl ⟨Go.Proofs.Ytgagkmlkoeceiaa.R.wanted_of (j := 12) rfl rfl rfl dg (by rw [hag.2.1]; show 51 < 58; decide), fun K hK => ?_⟩
          have d0 : z.tmps.getD 0 undef = .pointer (some ⟨c, 0, none⟩) := hag.2.2 0 (by kernel_rfl)
          have e0 := d0
          rw [Array.getD_eq_getD_getElem?] at e0
          have HSt := Lib.hid hst
          clear hdep hag hst
          go_simp
          exact hK _ _ (Below.refl _ _) rfl HSt.out
        · intro k z v hk hst hag hdep
          have dg : IsOk10 c p mo n c1 oc sk a oa ZS SS 12 (z.tmps.getD 51 undef) v := hdep { on := 12, ground := .guard } (by simp) rfl _ _ rfl rfl
          simp only [IsOk10] at dg
          refine .inl ⟨Go.Proofs.Ytgagkmlkoeceiaa.R.wanted_of (j := 12) rfl rfl rfl dg (by rw [hag.2.1]; show 51 < 58; decide), fun K hK => ?_⟩
          have d52 : z.tmps.getD 52 undef = .pointer (some ⟨c, 0, none⟩) := hdep { on := 13, ground := .data } (by simp) rfl _ _ rfl rfl
          have e52 := d52
          rw [Array.getD_eq_getD_getElem?] at e52
          have hb9 : Below wE.heap.size wE v := hst
          have HC := Lib.hid (cspans_any v (HCh.out.below hb9))
          have HBv := Lib.hid hb9
          clear hdep hag hst hb9
          go_simp
          refine HC.out.mono ?_
          rintro e w' ⟨v9, rfl, h8, h9⟩
          obtain ⟨a8, c8, rfl, h7, -, -⟩ := h8.shape
          rw [HSk.out.1, HSk.out.2] at h7 ⊢
          exact hK _ _ h9 ⟨_, _, rfl, h7⟩ (HBv.out.trans (h9.mono HBv.out.size))
        · intro k z v hk hst hag hdep
          have dg : IsOk10 c p mo n c1 oc sk a oa ZS SS 12 (z.tmps.getD 51 undef) v := hdep { on := 12, ground := .guard } (by simp) rfl _ _ rfl rfl
          simp only [IsOk10] at dg
          refine .inl ⟨Go.Proofs.Ytgagkmlkoeceiaa.R.wanted_of (j := 12) rfl rfl rfl dg (by rw [hag.2.1]; show 51 < 58; decide), fun K hK => ?_⟩
          have d3 : z.tmps.getD 3 undef = .pointer (some ⟨p, 0, none⟩) := hag.2.2 3 (by kernel_rfl)
          have e3 := d3
          rw [Array.getD_eq_getD_getElem?] at e3
          have hb9 : Below wE.heap.size wE v := hst
          have l0 := (hb9.cell (p := ⟨p, 0, none⟩) HXp.out.1).trans HXp.out.2.1
          have l1 := (hb9.cell (p := ⟨p, 1, none⟩) HXp.out.1).trans HXp.out.2.2
          try simp only at l0 l1
          clear hb9
          have HSt := Lib.hid hst
          clear hdep hag hst
          go_simp
          exact hK _ _ (Below.refl _ _) rfl HSt.out
        · intro k z v hk hst hag hdep
          have dg : IsOk10 c p mo n c1 oc sk a oa ZS SS 12 (z.tmps.getD 51 undef) v := hdep { on := 12, ground := .guard } (by simp) rfl _ _ rfl rfl
          simp only [IsOk10] at dg
          refine .inl ⟨Go.Proofs.Ytgagkmlkoeceiaa.R.wanted_of (j := 12) rfl rfl rfl dg (by rw [hag.2.1]; show 51 < 58; decide), fun K hK => ?_⟩
          have d54 : z.tmps.getD 54 undef = .agg #[.int .i64 (mo : Int), .slice a n c1] := hdep { on := 15, ground := .data } (by simp) rfl _ _ rfl rfl
          have e54 := d54
          rw [Array.getD_eq_getD_getElem?] at e54
          have hb9 : Below wE.heap.size wE v := hst
          have HC := Lib.hid (rspans_any M _ x v (HRx.out.below hb9) HN2.out.2.1 HN2.out.2.2)
          have HBv := Lib.hid hb9
          clear hdep hag hst hb9
          go_simp
          refine HC.out.mono ?_
          rintro e w' ⟨a8, c8, rfl, h7, h9⟩
          rw [HSk.out.1, HSk.out.2] at h7 ⊢
          exact hK _ _ h9 ⟨_, _, rfl, h7⟩ (HBv.out.trans (h9.mono HBv.out.size))
        · intro k z v hk hst hag hdep
          have dg : IsOk10 c p mo n c1 oc sk a oa ZS SS 12 (z.tmps.getD 51 undef) v := hdep { on := 12, ground := .guard } (by simp) rfl _ _ rfl rfl
          simp only [IsOk10] at dg
          refine .inl ⟨Go.Proofs.Ytgagkmlkoeceiaa.R.wanted_of (j := 12) rfl rfl rfl dg (by rw [hag.2.1]; show 51 < 58; decide), fun K hK => ?_⟩
          have d53' : IsOk10 c p mo n c1 oc sk a oa ZS SS 14 (z.tmps.getD 53 undef) v := hdep { on := 14, ground := .data } (by simp) rfl _ _ rfl rfl
          simp only [IsOk10] at d53'
          obtain ⟨a953, c953, d53, hp53⟩ := d53'
          have e53 := d53
          rw [Array.getD_eq_getD_getElem?] at e53
          have d55' : IsOk10 c p mo n c1 oc sk a oa ZS SS 16 (z.tmps.getD 55 undef) v := hdep { on := 16, ground := .data } (by simp) rfl _ _ rfl rfl
          simp only [IsOk10] at d55'
          obtain ⟨a955, c955, d55, hp55⟩ := d55'
          have e55 := d55
          rw [Array.getD_eq_getD_getElem?] at e55
          have hb9 : Below wE.heap.size wE v := hst
          have HC := Lib.hid (same_any a953 c953 a955 c955 sk SS v hp53 hp55 HSl.out)
          have HBv := Lib.hid hb9
          clear hdep hag hst hb9
          go_simp
          refine HC.out.mono ?_
          rintro e w' ⟨rfl, h9⟩
          exact hK _ _ h9 rfl (HBv.out.trans (h9.mono HBv.out.size))
        · intro k z v hk hst hag hdep
          refine .inl ⟨rfl, fun K hK => ?_⟩
          have d51 : z.tmps.getD 51 undef = .bool true := hdep { on := 12, ground := .data } (by simp) rfl _ _ rfl rfl
          have e51 := d51
          rw [Array.getD_eq_getD_getElem?] at e51
          have d56 : z.tmps.getD 56 undef = .bool true := hdep { on := 17, ground := .data } (by simp) rfl _ _ rfl rfl
          have e56 := d56
          rw [Array.getD_eq_getD_getElem?] at e56
          have HSt := Lib.hid hst
          clear hdep hag hst
          go_simp
          exact hK _ _ (Below.refl _ _) rfl HSt.out
        · intro k z v hk hst hag hdep
          refine .inl ⟨rfl, fun K hK => ?_⟩
          have d57 : z.tmps.getD 57 undef = .bool true := hdep { on := 18, ground := .data } (by simp) rfl _ _ rfl rfl
          have e57 := d57
          rw [Array.getD_eq_getD_getElem?] at e57
          have HSt := Lib.hid hst
          clear hdep hag hst
          go_simp
          exact hK _ _ (Below.refl _ _) rfl HSt.out
      case hdone =>
        intro z w9 hst hag hok
        have hb9 : Below wE.heap.size wE w9 := hst
        have d4 : z.tmps.getD 4 undef = .bool true := hok 19 _ 4 rfl rfl
        have hend : Hid (P (.returned (.bool true)) w9) := Lib.hid (by rw [← HP.out]; exact ⟨rfl, HBw.out.trans (hb9.mono HBw.out.size)⟩)
        clear hst hb9
        obtain ⟨uu, hu, hzz⟩ := Go.Proofs.Ytgagkmlkoeceiaa.R.agree_frame [39, 40, 41, 42, 43, 44, 45, 46, 47, 48, 49, 50, 51, 52, 53, 54, 55, 56, 57, 4] rfl hag
        have e4 := (hu 4).trans d4
        subst hzz
        simp only [List.foldl_cons, List.foldl_nil]
        rw [e4]
        clear e4 d4 hu hag hok
        try dsimp only [Exit.then]
        simp only [List.setIfInBounds_toArray, List.set_cons_succ, List.set_cons_zero]
        generalize uu 39 = u39', uu 40 = u40', uu 41 = u41', uu 42 = u42', uu 43 = u43', uu 44 = u44', uu 45 = u45', uu 46 = u46', uu 47 = u47', uu 48 = u48', uu 49 = u49', uu 50 = u50', uu 51 = u51', uu 52 = u52', uu 53 = u53', uu 54 = u54', uu 55 = u55', uu 56 = u56', uu 57 = u57'
        clear uu
        go_wp2_with fail
        exact hend.out
end Go.Proofs.Ytgagkmlkoeceiaa.C
