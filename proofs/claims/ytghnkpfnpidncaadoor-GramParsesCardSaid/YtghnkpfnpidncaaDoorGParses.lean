/- GramParses: of any bytes there is just the document's datagram, whose bytes they are, or what is wrong first. No condition. -/
import Derived.Test.YtghnkpfnpidncaaDoorGRefP
import Derived.Test.YtghnkpfnpidncaaDoorGAwake
import Derived.Test.YtghnkpfnpidncaaDoorGApart
import Derived.Deep.DeepCutAuto
namespace Go.Proofs.YtghnkpfnpidncaaDoor.G
open Go.RowKit Go.Proofs.YtghnkpfnpidncaaDoor.I

set_option maxHeartbeats 1000000 in
theorem refparse_sum (s : ByteArray) (hs : (s.size : Int) ≤ 1000) (w : World) (hse : S.isSealed s.data.toList = false) :
    Calls Tryd.prog 20 #[.string s] w (ParseErr 4 w) := by
  obtain ⟨P, hP⟩ : ∃ P, ParseErr 4 w = P := ⟨_, rfl⟩
  rw [hP]
  have HP := Lib.hid hP
  obtain ⟨wA, hwA⟩ : ∃ wA, w.alloc (.cells #[.int .i64 0, .int .i64 0, .slice none 0 0, .string ⟨#[]⟩] 24) = wA := ⟨_, rfl⟩
  obtain ⟨r, hr⟩ : ∃ r, w.heap.size = r := ⟨_, rfl⟩
  have hbA : Below w.heap.size w wA := by rw [← hwA]; exact (Below.refl _ _).alloc (Nat.le_refl _) _
  have hrA : QBlk XT r (.int .i64 0) (.int .i64 0) (.slice none 0 0) (.string ⟨#[]⟩) wA := by rw [← hwA, ← hr]; exact World.alloc_heap_new _ _
  have h1 := S.refopen_any s (by omega) wA
  rw [hse] at h1
  have H1 := Lib.hid h1
  have HBA := Lib.hid hbA
  have HRA := Lib.hid hrA
  have HR := Lib.hid hr
  clear hP hbA hrA hse h1
  go_enter Tryd.func20, Tryd.ntmps20
  go_wp2_with fail
  refine H1.out.mono ?_
  rintro en w2 ⟨t, rfl, htl, hb2⟩
  have hB2 : Below w.heap.size w w2 := HBA.out.trans (hb2.mono HBA.out.size)
  have hR2 := HRA.out.below hb2
  have r0 := hR2.c0
  have r1 := hR2.c1
  have r2 := hR2.c2
  have r3 := hR2.c3
  have q0 := hR2.fr 0
  have q1 := hR2.fr 1
  have q2 := hR2.fr 2
  have q3 := hR2.fr 3
  have HB2 := Lib.hid hB2
  clear hwA hr hb2 htl H1 hB2 hR2
  go_wp2
  (try simp only [Exit.inBlock, Exit.then])
  refine bodyPost_ret (v := .tuple #[.agg #[.int .i64 0, .int .i64 0, .slice none 0 0, .string ⟨#[]⟩], .int .i64 (4 : Nat)]) (by rw [results_cell_tmp rfl]; go_simp) rfl ?_
  rw [← HP.out]
  exact ⟨rfl, (((HB2.out.setCell (p := ⟨r, 0, none⟩) (Nat.le_of_eq HR.out) _).setCell (p := ⟨r, 1, none⟩) (Nat.le_of_eq HR.out) _).setCell (p := ⟨r, 2, none⟩) (Nat.le_of_eq HR.out) _).setCell (p := ⟨r, 3, none⟩) (Nat.le_of_eq HR.out) _⟩

theorem numS_len' (l : List UInt8) (e : Nat) : (numS l e).1.1.length ≤ l.length := numS_len l e
theorem rdTake_len2 (l : List UInt8) (e : Nat) : ∀ j, (rdTake j l e).1.1.length ≤ l.length
  | 0 => Nat.le_refl _
  | j + 1 => Nat.le_trans (numS_len _ _) (rdTake_len2 l e j)
theorem failS_len (l : List UInt8) (e er : Nat) : (failS l e er).1.length ≤ l.length := by
  unfold failS
  split
  · exact Nat.le_refl _
  · exact Nat.zero_le _
/-- What the program's Parse answers, and the document's. -/
theorem both (s : ByteArray) (hs : (s.size : Int) ≤ 1000) :
    (∃ E, E ≠ 0 ∧ (∀ u, S.Tab u → Calls Tryd.prog 16 #[.string s] u (ParseErr E u)) ∧ (∀ u, Calls Tryd.prog 20 #[.string s] u (ParseErr E u))) ∨
    (∃ (v1 v2 : Nat) (ns : List Nat) (dl : List UInt8), dl.length ≤ 1000 ∧ ns.length ≤ 64 ∧ (∀ u, S.Tab u → Calls Tryd.prog 16 #[.string s] u (ParseOk v1 v2 ns dl u)) ∧ (∀ u, Calls Tryd.prog 20 #[.string s] u (ParseOk v1 v2 ns dl u)) ∧
      ∀ d : ByteArray, d.data.toList = dl → s.data.toList = packS v1 v2 (ns.map Int.ofNat) d) := by
  cases hse : S.isSealed s.data.toList with
  | false => exact .inl ⟨4, by decide, fun u hT => parse_sum s (by omega) u hT hse, fun u => refparse_sum s hs u hse⟩
  | true =>
    obtain ⟨l, hl⟩ : ∃ l, S.opened s.data.toList = l := ⟨_, rfl⟩
    obtain ⟨⟨⟨l1, e1⟩, v1⟩, hn1⟩ : ∃ q, numS l 0 = q := ⟨_, rfl⟩
    obtain ⟨⟨⟨l2, e2⟩, v2⟩, hn2⟩ : ∃ q, numS l1 e1 = q := ⟨_, rfl⟩
    obtain ⟨⟨⟨l3, e3⟩, v3⟩, hn3⟩ : ∃ q, numS l2 e2 = q := ⟨_, rfl⟩
    obtain ⟨⟨l4, e4⟩, hst⟩ : ∃ q, (if 64 < v3 then failS l3 e3 1 else (l3, e3)) = q := ⟨_, rfl⟩
    obtain ⟨c, hc⟩ : ∃ c, (if 64 < v3 then 0 else v3) = c := ⟨_, rfl⟩
    obtain ⟨⟨⟨l6, e6⟩, ns⟩, hq⟩ : ∃ q, rdTake c l4 e4 = q := ⟨_, rfl⟩
    obtain ⟨⟨⟨l7, e7⟩, dl⟩, ht⟩ : ∃ q, textS l6 e6 = q := ⟨_, rfl⟩
    obtain ⟨E, he⟩ : ∃ E, endS l7 e7 = E := ⟨_, rfl⟩
    obtain ⟨C, hck⟩ : ∃ C, checkS v1 v2 (ns.map Int.ofNat) dl.length = C := ⟨_, rfl⟩
    have hsl : l.length ≤ 1000 := by rw [← hl]; unfold S.opened; split <;> simp <;> (have : s.data.toList.length = s.size := rfl; omega)
    have hdl : dl.length ≤ 1000 := by
      have a1 := numS_len l 0
      have a2 := numS_len l1 e1
      have a3 := numS_len l2 e2
      have a5 := rdTake_len2 l4 e4 c
      have a6 := textS_len l6 e6
      have a4 : l4.length ≤ l3.length := by
        by_cases h : 64 < v3
        · rw [if_pos h] at hst
          have := failS_len l3 e3 1
          rw [hst] at this
          exact this
        · rw [if_neg h] at hst
          simp only [Prod.mk.injEq] at hst
          rw [hst.1]
          exact Nat.le_refl _
      rw [hn1] at a1
      rw [hn2] at a2
      rw [hn3] at a3
      rw [hq] at a5
      rw [ht] at a6
      simp only at a1 a2 a3 a5 a6
      omega
    have hnl : ns.length ≤ 64 := by
      have h1 := rdTake_len c l4 e4
      rw [hq] at h1
      simp only at h1
      rw [h1, ← hc]
      split <;> omega
    have href := fun u => refparse_any s hs u hse l l1 l2 l3 l4 l6 l7 dl e1 e2 e3 e4 e6 e7 v1 v2 v3 c E C ns hl hn1 hn2 hn3 hst hc hq ht he hck
    by_cases hE : E = 0
    · by_cases hC : C = 0
      · refine .inr ⟨v1, v2, ns, dl, hdl, hnl, fun u hT => parse_read s (by omega) u hT hse l l1 l2 l3 l4 l6 l7 dl e1 e2 e3 e4 e6 e7 v1 v2 v3 c ns hl hn1 hn2 hn3 hst hc hq ht (he.trans hE) (hck.trans hC), fun u => (href u).mono fun en w' h => ?_, fun d hd => ?_⟩
        · rcases h with ⟨h, _⟩ | ⟨_, h, _⟩ | ⟨_, _, h⟩
          · exact absurd hE h
          · exact absurd hC h
          · exact h
        · have hds : d.size = dl.length := by rw [← hd]; rfl
          exact pack_of_read hse hl hn1 hn2 hn3 hst hc hq ht (he.trans hE) (by rw [hds]; exact hck.trans hC) hd (by omega)
      · refine .inl ⟨C, hC, fun u hT => parse_not s (by omega) u hT hse l l1 l2 l3 l4 l6 l7 dl e1 e2 e3 e4 e6 e7 v1 v2 v3 c C ns hl hn1 hn2 hn3 hst hc hq ht (he.trans hE) hck hC, fun u => (href u).mono fun en w' h => ?_⟩
        rcases h with ⟨h, _⟩ | ⟨_, _, h⟩ | ⟨_, h, _⟩
        · exact absurd hE h
        · exact h
        · exact absurd h hC
    · refine .inl ⟨E, hE, fun u hT => parse_bad s (by omega) u hT hse l l1 l2 l3 l4 l6 l7 dl e1 e2 e3 e4 e6 e7 v1 v2 v3 c E ns hl hn1 hn2 hn3 hst hc hq ht he hE, fun u => (href u).mono fun en w' h => ?_⟩
      rcases h with ⟨_, h⟩ | ⟨h, _⟩ | ⟨h, _⟩
      · exact h
      · exact absurd h hE
      · exact absurd h hE

set_option maxRecDepth 100000 in
set_option maxHeartbeats 4000000 in
theorem parses_walk (s : ByteArray) (seal_ : Bool) (hs : (s.size : Int) ≤ 9223372036854775807) (w : World) (hT : S.Tab w) :
    Calls Tryd.prog 4 #[.string s, .bool seal_] w fun en w' => en = .returned (.bool true) ∧ Below w.heap.size w w' := by
  have HT := Lib.hid hT
  have HS := Lib.hid hs
  clear hT hs
  go_enter Tryd.func4, Tryd.ntmps4
  go_wp2_with fail
  refine (awake_any w HT.out).mono ?_
  rintro en w1 ⟨rfl, hb1⟩
  have HB1 := Lib.hid hb1
  have HT1 := Lib.hid (S.tab_of HT.out hb1)
  clear hb1
  go_wp2_with fail
  refine (cut_any s 300 HS.out (by decide) _).mono ?_
  rintro en w1' ⟨⟨t, rfl, hts, _⟩, rfl⟩
  go_upto_if 13 with fail
  go_cut [0] (fun t0 wx => ∃ u : ByteArray, t0 = .string u ∧ (u.size : Int) ≤ 304 ∧ Below w.heap.size w wx)
  case first =>
    cases seal_ with
    | false =>
      go_wp2
      go_meet
      exact ⟨t, rfl, by omega, HB1.out⟩
    | true =>
      have HSe := Lib.hid (S.seal_any t (by omega) w1 HT1.out)
      go_wp2_with fail
      refine HSe.out.mono ?_
      rintro en w2 ⟨⟨u, rfl, hus, _⟩, hb2⟩
      have HB2 := Lib.hid (below_step HB1.out hb2)
      clear hb2
      go_wp2
      go_meet
      exact ⟨u, rfl, by omega, HB2.out⟩
  case rest =>
    obtain ⟨u, rfl, hus, hbc⟩ := hcut
    have HBc := Lib.hid hbc
    have HTc := Lib.hid (S.tab_of HT.out hbc)
    rcases both u (by omega) with ⟨E, hE, hp, hx⟩ | ⟨v1, v2, ns, dl, hdl, hnl, hp, hx, hpk⟩
    · have HP := Lib.hid (hp wc HTc.out)
      have HX := Lib.hid hx
      have hne : ((E : Int) == 0) = false := by rw [beq_eq_false_iff_ne]; omega
      have hne2 : ((E : Int) != 0) = true := by rw [bne_iff_ne]; omega
      clear hbc hp hx hE
      go_wp2_with fail
      refine HP.out.mono ?_
      rintro en w3 ⟨rfl, hb3⟩
      have HB3 := Lib.hid (below_step HBc.out hb3)
      unfold gramV
      obtain ⟨G, hG⟩ : ∃ G, w3.heap.size = G := ⟨_, rfl⟩
      have hg3 : QBlk 26 G (.int .i64 0) (.int .i64 0) (.slice none 0 0) (.string ⟨#[]⟩) (w3.alloc (.cells #[.int .i64 0, .int .i64 0, .slice none 0 0, .string ⟨#[]⟩] 26)) := by rw [← hG]; exact World.alloc_heap_new _ _
      have HG3 := Lib.hid hg3
      have HA3 : Hid (Below w.heap.size w (w3.alloc (.cells #[.int .i64 0, .int .i64 0, .slice none 0 0, .string ⟨#[]⟩] 26))) := Lib.hid (HB3.out.alloc HB3.out.size _)
      clear hb3 hg3
      go_wp2_with fail
      refine (HX.out _).mono ?_
      rintro en w4 ⟨rfl, hb4⟩
      unfold gramV
      obtain ⟨X, hX⟩ : ∃ X, w4.heap.size = X := ⟨_, rfl⟩
      have hg4 := HG3.out.below hb4
      have HB4 := Lib.hid (below_step HA3.out hb4)
      have HA4 : Hid (Below w.heap.size w (w4.alloc (.cells #[.int .i64 0, .int .i64 0, .slice none 0 0, .string ⟨#[]⟩] 24))) := Lib.hid (HB4.out.alloc HB4.out.size _)
      have hg5 : QBlk 26 G (.int .i64 0) (.int .i64 0) (.slice none 0 0) (.string ⟨#[]⟩) (w4.alloc (.cells #[.int .i64 0, .int .i64 0, .slice none 0 0, .string ⟨#[]⟩] 24)) := (Below.heap_alloc _ _ _ hg4.lt).trans hg4
      have c0 := hg5.c0
      have c1 := hg5.c1
      have c2 := hg5.c2
      have c3 := hg5.c3
      have hisb : isB 0 0 [] ⟨#[]⟩ 0 0 [] ⟨#[]⟩ = true := by decide
      have HIs := Lib.hid (fun v => is_any 0 0 0 0 none none 0 0 0 0 [] [] ⟨#[]⟩ ⟨#[]⟩ v ⟨rfl, .inl rfl⟩ ⟨rfl, .inl rfl⟩ (by decide))
      rw [hisb] at HIs
      unfold gramV at HIs
      clear hb4 hg4 hg5 hisb
      go_wp2_with fail
      refine (HIs.out _).mono ?_
      rintro en w5 ⟨rfl, hb5⟩
      have HB5 := Lib.hid (below_step HA4.out hb5)
      clear hb5 c0 c1 c2 c3 hG hX
      go_wp2
      go_ret
      exact ⟨rfl, HB5.out⟩
    · have HP := Lib.hid (hp wc HTc.out)
      have HX := Lib.hid hx
      have HPk := Lib.hid hpk
      have HDl := Lib.hid hdl
      have HNl := Lib.hid hnl
      clear hbc hp hx hpk hdl hnl
      go_wp2_with fail
      refine HP.out.mono ?_
      rintro en w3 ⟨a, cap, d, rfl, hd, hn, hb3⟩
      unfold gramV
      have HB3 := Lib.hid (below_step HBc.out hb3)
      obtain ⟨L, hL⟩ : ∃ L, ns.length = L := ⟨_, rfl⟩
      obtain ⟨zs, hzs⟩ : ∃ zs, ns.map Int.ofNat = zs := ⟨_, rfl⟩
      rw [hL, hzs] at hn
      rw [hL]
      rw [hzs] at HPk
      have HX' : Hid (∀ u', Calls Tryd.prog 20 #[.string u] u' fun en w' => ∃ a cap d, en = .returned (.tuple #[.agg #[.int .i64 v1, .int .i64 v2, .slice a L cap, .string d], .int .i64 (0 : Nat)]) ∧ d.data.toList = dl ∧ NumsAt a L zs w' ∧ Below u'.heap.size u' w') := Lib.hid (by rw [← hL, ← hzs]; exact HX.out)
      obtain ⟨G, hG⟩ : ∃ G, w3.heap.size = G := ⟨_, rfl⟩
      obtain ⟨w3', hw3⟩ : ∃ w3', w3.alloc (.cells #[.int .i64 v1, .int .i64 v2, .slice a L cap, .string d] 26) = w3' := ⟨_, rfl⟩
      have hg3 : QBlk 26 G (.int .i64 v1) (.int .i64 v2) (.slice a L cap) (.string d) w3' := by rw [← hw3, ← hG]; exact World.alloc_heap_new _ _
      have hb3' : Below w3.heap.size w3 w3' := by rw [← hw3]; exact (Below.refl _ _).alloc (Nat.le_refl _) _
      have HG3 := Lib.hid hg3
      have HA3 := Lib.hid (below_step HB3.out hb3')
      have HT3 := Lib.hid (S.tab_of (S.tab_of HTc.out hb3) hb3')
      have HN3 := Lib.hid (hn.below hb3')
      have hds : d.size = dl.length := by rw [← hd]; rfl
      have HDs : Hid ((d.size : Int) ≤ 1000) := Lib.hid (by have := HDl.out; omega)
      have HD := Lib.hid hd
      have HLl : Hid ((L : Int) ≤ 1000000) := Lib.hid (by have := HNl.out; omega)
      clear hb3 hg3 hb3' hn hds hd hL hzs HX HP
      go_wp2_with fail
      refine (HX'.out _).mono ?_
      rintro en w4 ⟨a', cap', d', rfl, hd', hn', hb4⟩
      obtain ⟨X, hX⟩ : ∃ X, w4.heap.size = X := ⟨_, rfl⟩
      obtain ⟨w5, hw5⟩ : ∃ w5, w4.alloc (.cells #[.int .i64 v1, .int .i64 v2, .slice a' L cap', .string d'] 24) = w5 := ⟨_, rfl⟩
      have hx5 : QBlk 24 X (.int .i64 v1) (.int .i64 v2) (.slice a' L cap') (.string d') w5 := by rw [← hw5, ← hX]; exact World.alloc_heap_new _ _
      have hb5 : Below w4.heap.size w4 w5 := by rw [← hw5]; exact (Below.refl _ _).alloc (Nat.le_refl _) _
      have hg5 := (HG3.out.below hb4).below hb5
      have hn5 := (HN3.out.below hb4).below hb5
      have HG5 := Lib.hid hg5
      have HN5 := Lib.hid hn5
      have HB5 := Lib.hid (below_step (below_step HA3.out hb4) hb5)
      have HT5 := Lib.hid (S.tab_of (S.tab_of HT3.out hb4) hb5)
      have his := is_any v1 v2 v1 v2 a a' L L cap cap' zs zs d d' w5 hn5.numsIn (hn'.below hb5).numsIn HLl.out
      rw [isB_iff.2 ⟨rfl, rfl, rfl, HD.out.trans hd'.symm⟩] at his
      have HIs := Lib.hid his
      have c0 := hg5.c0
      have c1 := hg5.c1
      have c2 := hg5.c2
      have c3 := hg5.c3
      have k0 := hx5.c0
      have k1 := hx5.c1
      have k2 := hx5.c2
      have k3 := hx5.c3
      unfold gramV at HIs
      clear hb4 hb5 hx5 hg5 hn5 his hd' hn' hw3 hG
      go_wp2_with fail
      refine HIs.out.mono ?_
      rintro en w6 ⟨rfl, hb6⟩
      have hg6 := HG5.out.below hb6
      have HB6 := Lib.hid (below_step HB5.out hb6)
      have HPc := Lib.hid (pack_any v1 v2 a L cap d zs w6 (HN5.out.below hb6) (by have := HDs.out; omega) (S.tab_of HT5.out hb6))
      clear c0 c1 c2 c3 k0 k1 k2 k3 hw5 hX
      have c0 := hg6.c0
      have c1 := hg6.c1
      have c2 := hg6.c2
      have c3 := hg6.c3
      unfold gramV at HPc
      clear hb6 hg6
      go_wp2_with fail
      refine HPc.out.mono ?_
      rintro en w7 ⟨s7, rfl, hs7, hb7⟩
      obtain rfl : s7 = u := bytes_eq (hs7.trans (HPk.out d HD.out).symm)
      have HB7 := Lib.hid (below_step HB6.out hb7)
      clear hs7 hb7 c0 c1 c2 c3
      go_wp2
      go_ret
      exact ⟨rfl, HB7.out⟩
end Go.Proofs.YtghnkpfnpidncaaDoor.G
