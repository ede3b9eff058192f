/- The contract of snap.Parse. -/
import Derived.Test.YtohhlhnjopbmhaaGreatDoorNRead
namespace Go.Proofs.YtohhlhnjopbmhaaGreatDoor.K
open Go.RowKit Go.Proofs.YtohhlhnjopbmhaaGreatDoor.I

theorem readR_len (st : Sta) (w : Nat) : (readR st w).2.l.length ≤ w := by
  by_cases h : (readR st w).1.2 = 0
  · rw [(readR_zero h).2.2.2]; exact Nat.le_refl _
  · have h' : ¬ (rowS (w + 1) w (atS st 1).1 none).1.2 = 0 := h
    unfold readR
    rw [if_neg h']
    exact Nat.zero_le _
theorem rowsS_rows (w : Nat) : ∀ (n : Nat) (st : Sta), ∀ r ∈ (rowsS w n st).2, r.l.length ≤ w ∧ AllC okC r.l
  | 0, _ => fun r hr => by cases hr
  | n + 1, st => fun r hr => by
    rcases List.mem_append.1 hr with hr | hr
    · exact rowsS_rows w n st r hr
    · rw [List.mem_singleton.1 hr]
      exact ⟨readR_len _ _, readR_rng _ _⟩
theorem okC_rng {l : List Cel} (h : AllC okC l) : AllC Rng l := fun c hc => by
  have := (h c hc).1
  unfold Rng
  omega
theorem readN_b (st : Sta) : SnB (readN st).2 := by
  have h1 : (pW st).2 ≤ 1000 := by rw [pW_def]; exact atS_le _ _
  have h2 : (pH st).2 ≤ 1000 := by rw [pH_def]; exact atS_le _ _
  have hR : (readN st).2.R = (rowsS (pW st).2 (pH st).2 (pB st).1).2 := by unfold readN; rw [pR_def]
  have hBb : (readN st).2.B = (readS (pC st).1).2 := by unfold readN; rw [pB_def]
  refine ⟨by rw [hR, rowsS_len]; exact h2, fun r hr => ?_, fun r hr => ?_, by rw [hBb]; have := readS_len (pC st).1; omega, fun g hg => ?_⟩
  · rw [hR] at hr; have := (rowsS_rows _ _ _ r hr).1; omega
  · rw [hR] at hr; exact okC_rng (rowsS_rows _ _ _ r hr).2
  · rw [hBb] at hg; have := (readS_rng _ g hg).1; omega
/-- what Parse leaves -/
def SnPPost (q : Sn × Nat) (w : World) (e : Ending) (w' : World) : Prop := ∃ xa xn xc ya yn yc, e = .returned (.tuple #[.agg (snA q.1 xa xn xc ya yn yc), .int .i64 (q.2 : Int)]) ∧ GatR w.heap.size (.slice xa xn xc) q.1.R w' ∧ OwnP .i32 86 w.heap.size (.slice ya yn yc) q.1.B w' ∧ Below w.heap.size w w'
theorem snIn_of {base : Nat} {s : Sn} {xa : Option Addr} {xn xc : Nat} {ya : Option Addr} {yn yc : Nat} {w : World} (h1 : GatR base (.slice xa xn xc) s.R w) (h2 : OwnP .i32 86 base (.slice ya yn yc) s.B w) : SnIn .i32 xa xn xc ya yn yc s w := by
  obtain ⟨a, c, e, h3, -, h4⟩ := h2.shape
  injection e with e1 e2 e3
  subst e1 e2 e3
  exact ⟨h1.rowsL (fun p hp => by cases hp), h3, h4⟩
set_option maxRecDepth 100000 in
set_option maxHeartbeats 16000000 in
theorem nparse_any (s : ByteArray) (hs : (s.size : Int) ≤ 1000000) (w : World) : Calls Tryz.prog 16 #[.string s] w (SnPPost (parseS s.data.toList) w) := by
  obtain ⟨rb, hrb⟩ : ∃ rb, w.heap.size = rb := ⟨_, rfl⟩
  obtain ⟨P, hP⟩ : ∃ P, SnPPost (parseS s.data.toList) w = P := ⟨_, rfl⟩
  rw [hP]
  have HP := Lib.hid hP
  obtain ⟨w1, hw1⟩ : ∃ w1, w.alloc (.cells #[.int .i64 0, .int .i64 0, .int .i64 0, .int .i64 0, .int .i64 0, .string ⟨#[]⟩, .slice none 0 0, .int .i64 0, .int .i64 0, .slice none 0 0] 25) = w1 := ⟨_, rfl⟩
  have hz1 : w1.heap[rb]? = some (.cells #[.int .i64 0, .int .i64 0, .int .i64 0, .int .i64 0, .int .i64 0, .string ⟨#[]⟩, .slice none 0 0, .int .i64 0, .int .i64 0, .slice none 0 0] 25 (0, 0)) := by rw [← hw1, ← hrb]; exact heap_alloc_new w _
  have hb1 : Below rb w w1 := by rw [← hw1, ← hrb]; exact (Below.refl _ _).alloc (Nat.le_refl _) _
  have HW1 := Lib.hid hw1
  have HRb := Lib.hid hrb
  have HBw1 := Lib.hid hb1
  have HZ1 := Lib.hid hz1
  clear hP hrb hw1 hb1 hz1
  by_cases h0 : s.data.toList = []
  · have hq : (s.toList == ([] : List UInt8)) = true := by rw [ByteArray.toList_eq, h0]; rfl
    have hq2 : (s.toList == (⟨#[]⟩ : ByteArray).toList) = true := by rw [ByteArray.toList_eq, ByteArray.toList_eq, h0]; rfl
    have he : s = ⟨#[]⟩ := bytes_eqN (by rw [h0])
    obtain ⟨d0, d1, d2, d3, d4, d5, d6, d7, d8, d9⟩ : w1.cell? ⟨rb, 0, none⟩ = some (.int .i64 0) ∧ w1.cell? ⟨rb, 1, none⟩ = some (.int .i64 0) ∧ w1.cell? ⟨rb, 2, none⟩ = some (.int .i64 0) ∧ w1.cell? ⟨rb, 3, none⟩ = some (.int .i64 0) ∧ w1.cell? ⟨rb, 4, none⟩ = some (.int .i64 0) ∧ w1.cell? ⟨rb, 5, none⟩ = some (.string ⟨#[]⟩) ∧ w1.cell? ⟨rb, 6, none⟩ = some (.slice none 0 0) ∧ w1.cell? ⟨rb, 7, none⟩ = some (.int .i64 0) ∧ w1.cell? ⟨rb, 8, none⟩ = some (.int .i64 0) ∧ w1.cell? ⟨rb, 9, none⟩ = some (.slice none 0 0) := ten_cells (s := emptyN) HZ1.out
    have f0 := frozen_block HZ1.out 0
    have f1 := frozen_block HZ1.out 1
    have f2 := frozen_block HZ1.out 2
    have f3 := frozen_block HZ1.out 3
    have f4 := frozen_block HZ1.out 4
    have f5 := frozen_block HZ1.out 5
    have f6 := frozen_block HZ1.out 6
    have f7 := frozen_block HZ1.out 7
    have f8 := frozen_block HZ1.out 8
    have f9 := frozen_block HZ1.out 9
    have hend : Hid (P (.returned (.tuple #[.agg #[.int .i64 0, .int .i64 0, .int .i64 0, .int .i64 0, .int .i64 0, .string ⟨#[]⟩, .slice none 0 0, .int .i64 0, .int .i64 0, .slice none 0 0], .int .i64 0])) ((((((((((w1.setCell ⟨rb, 0, none⟩ (.int .i64 0)).setCell ⟨rb, 1, none⟩ (.int .i64 0)).setCell ⟨rb, 2, none⟩ (.int .i64 0)).setCell ⟨rb, 3, none⟩ (.int .i64 0)).setCell ⟨rb, 4, none⟩ (.int .i64 0)).setCell ⟨rb, 5, none⟩ (.string ⟨#[]⟩)).setCell ⟨rb, 6, none⟩ (.slice none 0 0)).setCell ⟨rb, 7, none⟩ (.int .i64 0)).setCell ⟨rb, 8, none⟩ (.int .i64 0)).setCell ⟨rb, 9, none⟩ (.slice none 0 0))) := Lib.hid (by
      rw [← HP.out]
      have hg : ∀ (u : World) (o : Nat) (x : Value), u.grownBy (u.setCell ⟨rb, o, none⟩ x) (some rb) := fun u o x => grown_set u rb o x
      have gg : w1.grownBy ((((((((((w1.setCell ⟨rb, 0, none⟩ (.int .i64 0)).setCell ⟨rb, 1, none⟩ (.int .i64 0)).setCell ⟨rb, 2, none⟩ (.int .i64 0)).setCell ⟨rb, 3, none⟩ (.int .i64 0)).setCell ⟨rb, 4, none⟩ (.int .i64 0)).setCell ⟨rb, 5, none⟩ (.string ⟨#[]⟩)).setCell ⟨rb, 6, none⟩ (.slice none 0 0)).setCell ⟨rb, 7, none⟩ (.int .i64 0)).setCell ⟨rb, 8, none⟩ (.int .i64 0)).setCell ⟨rb, 9, none⟩ (.slice none 0 0)) (some rb) := grown_trans (grown_trans (grown_trans (grown_trans (grown_trans (grown_trans (grown_trans (grown_trans (grown_trans (hg w1 0 _) (hg _ 1 _)) (hg _ 2 _)) (hg _ 3 _)) (hg _ 4 _)) (hg _ 5 _)) (hg _ 6 _)) (hg _ 7 _)) (hg _ 8 _)) (hg _ 9 _)
      have hb : Below rb w1 _ := (Below.refl rb w1).grown gg (by have := (Array.getElem?_eq_some_iff.1 HZ1.out).1; omega) (fun q e => by have := Option.some.inj e; omega)
      have hx : parseS s.data.toList = (emptyN, 0) := by unfold parseS; rw [if_pos h0]
      refine ⟨none, 0, 0, none, 0, 0, ?_, ?_, ?_, ?_⟩
      · rw [hx]; rfl
      · rw [hx]; exact GatR.nil _ _
      · rw [hx]; exact OwnP.nil _ _ _ _
      · rw [HRb.out]; exact HBw1.out.trans hb)
    clear h0
    subst he
    go_enter Tryz.func16, Tryz.ntmps16
    go_upto_region 1 with fail
    rw [HW1.out, HRb.out]
    go_wp2_with fail
    refine bodyPost_ret (v := .tuple #[.agg #[.int .i64 0, .int .i64 0, .int .i64 0, .int .i64 0, .int .i64 0, .string ⟨#[]⟩, .slice none 0 0, .int .i64 0, .int .i64 0, .slice none 0 0], .int .i64 0]) (by rw [results_cell_tmp rfl]; go_simp) rfl ?_
    exact hend.out
  have hq : (s.toList == ([] : List UInt8)) = false := by rw [ByteArray.toList_eq, beq_eq_false_iff_ne]; exact h0
  have hq2 : (s.toList == (⟨#[]⟩ : ByteArray).toList) = false := by rw [ByteArray.toList_eq, ByteArray.toList_eq, beq_eq_false_iff_ne]; exact h0
  have HN0 := Lib.hid h0
  have HOf := Lib.hid (of_any s hs w1)
  clear h0
  go_enter Tryz.func16, Tryz.ntmps16
  go_upto_region 1 with fail
  rw [HW1.out, HRb.out]
  go_wp2_with fail
  refine HOf.out.mono ?_
  rintro e w2 ⟨rfl, hi2, hw2⟩
  obtain ⟨p, hp⟩ : ∃ p, w1.heap.size = p := ⟨_, rfl⟩
  rw [hp] at hi2 ⊢
  have hb12 : Below w1.heap.size w1 w2 := by rw [hw2]; exact (Below.refl _ _).alloc (Nat.le_refl _) _
  have hlt1 := (Array.getElem?_eq_some_iff.1 HZ1.out).1
  have hz2 := (hb12.block rb hlt1).trans HZ1.out
  have hb2 : Below rb w w2 := HBw1.out.trans (hb12.mono (by omega))
  have HR := Lib.hid (nread_any p (s.data.toList, 0) w2 hi2)
  have HPr : Hid (rb < p) := Lib.hid (by omega)
  have HS2 : Hid (p < w2.heap.size ∧ rb ≤ w2.heap.size) := Lib.hid (by have := hb12.size; have : p < w2.heap.size := (by obtain ⟨t, h1, -⟩ := hi2; exact h1.lt); omega)
  have HZ2 := Lib.hid hz2
  have HB2 := Lib.hid hb2
  clear hi2 hw2 hp hb12 hlt1 hz2 hb2 HOf hq hq2
  go_wp2_with fail
  refine HR.out.mono ?_
  rintro e w3 ⟨xa, xn, xc, ya, yn, yc, rfl, hG3, hO3, hi3, hg3⟩
  have hz3 := (hg3.block rb (Array.getElem?_eq_some_iff.1 HZ2.out).1 (fun e => by have := Option.some.inj e; have := HPr.out; omega)).trans HZ2.out
  have hb3 : Below rb w w3 := HB2.out.grown hg3 HS2.out.2 (fun q e => by have := Option.some.inj e; have := HPr.out; omega)
  have HSb := Lib.hid (readN_b (s.data.toList, 0))
  have hps : parseS s.data.toList = if endS (readN (s.data.toList, 0)).1.1 (readN (s.data.toList, 0)).1.2 ≠ 0 then (emptyN, endS (readN (s.data.toList, 0)).1.1 (readN (s.data.toList, 0)).1.2) else if (readN (s.data.toList, 0)).2 = emptyN ∨ ¬ MayN (readN (s.data.toList, 0)).2 then (emptyN, 1) else ((readN (s.data.toList, 0)).2, 0) := by
    show parseS s.data.toList = _
    unfold parseS
    rw [if_neg HN0.out]
  obtain ⟨⟨⟨lf, ef⟩, x⟩, hrd⟩ : ∃ q, readN (s.data.toList, 0) = q := ⟨_, rfl⟩
  rw [hrd] at hps hG3 hO3 hi3 HSb ⊢
  simp only at hps hG3 hO3 hi3 HSb ⊢
  have HPs := Lib.hid hps
  obtain ⟨er, her⟩ : ∃ er, endS lf ef = er := ⟨_, rfl⟩
  rw [her] at HPs
  have hE := end_any p lf ef w3 hi3
  rw [her] at hE
  -- the snap in its block
  obtain ⟨pb, hpb⟩ : ∃ pb, w3.heap.size = pb := ⟨_, rfl⟩
  obtain ⟨w4, hw4⟩ : ∃ w4, w3.alloc (.cells (snA x xa xn xc ya yn yc) 25) = w4 := ⟨_, rfl⟩
  have ha4 : Below w3.heap.size w3 w4 := by rw [← hw4]; exact (Below.refl _ _).alloc (Nat.le_refl _) _
  have hp4 : w4.heap[pb]? = some (.cells (snA x xa xn xc ya yn yc) 25 (0, 0)) := by rw [← hw4, ← hpb]; exact heap_alloc_new w3 _
  have hz4 := (ha4.block rb (Array.getElem?_eq_some_iff.1 hz3).1).trans hz3
  have hb4 : Below rb w w4 := hb3.trans (ha4.mono (by have := (Array.getElem?_eq_some_iff.1 hz3).1; omega))
  have hG4 := hG3.below ha4
  have hO4 := hO3.belowAll ha4
  have hE4 := end_any p lf ef w4 (inst_below hi3 ha4)
  rw [her] at hE4
  have HE4 := Lib.hid hE4
  have HW4 := Lib.hid hw4
  have HPb := Lib.hid hpb
  have HP4 := Lib.hid hp4
  have HZ4 := Lib.hid hz4
  have HBw4 := Lib.hid hb4
  have HG4 := Lib.hid (hG4.weaken (base' := p) (by have := HS2.out.1; omega))
  have HO4 := Lib.hid (hO4.weaken (base' := p) (by have := HS2.out.1; omega))
  clear hG3 hO3 hi3 hg3 hz3 hb3 hps hrd her hE hpb hw4 ha4 hp4 hz4 hb4 hG4 hO4 hE4 HR
  unfold snA at HW4 ⊢
  go_upto_region 5 with fail
  rw [HW4.out, HPb.out]
  go_wp2_with fail
  refine HE4.out.mono ?_
  rintro e w5 ⟨rfl, rfl⟩
  by_cases he : er = 0
  rotate_left
  · have q : ((er : Int) != 0) = true := by rw [bne_iff_ne]; omega
    obtain ⟨d0, d1, d2, d3, d4, d5, d6, d7, d8, d9⟩ : w4.cell? ⟨rb, 0, none⟩ = some (.int .i64 0) ∧ w4.cell? ⟨rb, 1, none⟩ = some (.int .i64 0) ∧ w4.cell? ⟨rb, 2, none⟩ = some (.int .i64 0) ∧ w4.cell? ⟨rb, 3, none⟩ = some (.int .i64 0) ∧ w4.cell? ⟨rb, 4, none⟩ = some (.int .i64 0) ∧ w4.cell? ⟨rb, 5, none⟩ = some (.string ⟨#[]⟩) ∧ w4.cell? ⟨rb, 6, none⟩ = some (.slice none 0 0) ∧ w4.cell? ⟨rb, 7, none⟩ = some (.int .i64 0) ∧ w4.cell? ⟨rb, 8, none⟩ = some (.int .i64 0) ∧ w4.cell? ⟨rb, 9, none⟩ = some (.slice none 0 0) := ten_cells (s := emptyN) HZ4.out
    have f0 := frozen_block HZ4.out 0
    have f1 := frozen_block HZ4.out 1
    have f2 := frozen_block HZ4.out 2
    have f3 := frozen_block HZ4.out 3
    have f4 := frozen_block HZ4.out 4
    have f5 := frozen_block HZ4.out 5
    have f6 := frozen_block HZ4.out 6
    have f7 := frozen_block HZ4.out 7
    have f8 := frozen_block HZ4.out 8
    have f9 := frozen_block HZ4.out 9
    have hend : Hid (P (.returned (.tuple #[.agg #[.int .i64 0, .int .i64 0, .int .i64 0, .int .i64 0, .int .i64 0, .string ⟨#[]⟩, .slice none 0 0, .int .i64 0, .int .i64 0, .slice none 0 0], .int .i64 er])) ((((((((((w4.setCell ⟨rb, 0, none⟩ (.int .i64 0)).setCell ⟨rb, 1, none⟩ (.int .i64 0)).setCell ⟨rb, 2, none⟩ (.int .i64 0)).setCell ⟨rb, 3, none⟩ (.int .i64 0)).setCell ⟨rb, 4, none⟩ (.int .i64 0)).setCell ⟨rb, 5, none⟩ (.string ⟨#[]⟩)).setCell ⟨rb, 6, none⟩ (.slice none 0 0)).setCell ⟨rb, 7, none⟩ (.int .i64 0)).setCell ⟨rb, 8, none⟩ (.int .i64 0)).setCell ⟨rb, 9, none⟩ (.slice none 0 0))) := Lib.hid (by
      rw [← HP.out]
      have hg : ∀ (u : World) (o : Nat) (x : Value), u.grownBy (u.setCell ⟨rb, o, none⟩ x) (some rb) := fun u o x => grown_set u rb o x
      have gg : w4.grownBy ((((((((((w4.setCell ⟨rb, 0, none⟩ (.int .i64 0)).setCell ⟨rb, 1, none⟩ (.int .i64 0)).setCell ⟨rb, 2, none⟩ (.int .i64 0)).setCell ⟨rb, 3, none⟩ (.int .i64 0)).setCell ⟨rb, 4, none⟩ (.int .i64 0)).setCell ⟨rb, 5, none⟩ (.string ⟨#[]⟩)).setCell ⟨rb, 6, none⟩ (.slice none 0 0)).setCell ⟨rb, 7, none⟩ (.int .i64 0)).setCell ⟨rb, 8, none⟩ (.int .i64 0)).setCell ⟨rb, 9, none⟩ (.slice none 0 0)) (some rb) := grown_trans (grown_trans (grown_trans (grown_trans (grown_trans (grown_trans (grown_trans (grown_trans (grown_trans (hg w4 0 _) (hg _ 1 _)) (hg _ 2 _)) (hg _ 3 _)) (hg _ 4 _)) (hg _ 5 _)) (hg _ 6 _)) (hg _ 7 _)) (hg _ 8 _)) (hg _ 9 _)
      have hb : Below rb w4 _ := (Below.refl rb w4).grown gg (by have := (Array.getElem?_eq_some_iff.1 HZ4.out).1; omega) (fun q e => by have := Option.some.inj e; omega)
      have hx : parseS s.data.toList = (emptyN, er) := by rw [HPs.out, if_pos he]
      refine ⟨none, 0, 0, none, 0, 0, ?_, ?_, ?_, ?_⟩
      · rw [hx]; rfl
      · rw [hx]; exact GatR.nil _ _
      · rw [hx]; exact OwnP.nil _ _ _ _
      · rw [HRb.out]; exact HBw4.out.trans hb)
    clear he
    go_wp2_with fail
    refine bodyPost_ret (v := .tuple #[.agg #[.int .i64 0, .int .i64 0, .int .i64 0, .int .i64 0, .int .i64 0, .string ⟨#[]⟩, .slice none 0 0, .int .i64 0, .int .i64 0, .slice none 0 0], .int .i64 (er : Int)]) (by rw [results_cell_tmp rfl]; go_simp) rfl ?_
    exact hend.out
  have q : ((er : Int) != 0) = false := by rw [bne_eq_false_iff_eq]; omega
  have HPs2 : Hid (parseS s.data.toList = if x = emptyN ∨ ¬ MayN x then (emptyN, 1) else (x, 0)) := Lib.hid (by rw [HPs.out, if_neg (by omega)])
  have hEm := nempty_any x xa xn xc ya yn yc w4 (snIn_of HG4.out HO4.out) HSb.out
  have HCk : Hid (∀ w5, Below w4.heap.size w4 w5 → Calls Tryz.prog 8 #[.agg (snA x xa xn xc ya yn yc)] w5 fun e w' => e = .returned (.int .i64 (chkN x : Int)) ∧ Below w5.heap.size w5 w') := Lib.hid (fun w5 hb => ncheck_any x xa xn xc ya yn yc w5 ((snIn_of HG4.out HO4.out).belowAll hb) HSb.out)
  obtain ⟨c0, c1, c2, c3, c4, c5, c6, c7, c8, c9⟩ := ten_cells HP4.out
  clear he HPs
  by_cases hx0 : x = emptyN
  · rw [decide_eq_true hx0] at hEm
    have HEm := Lib.hid hEm
    have HNo : Hid (x = emptyN ∨ ¬ MayN x) := Lib.hid (.inl hx0)
    clear hx0 hEm
    unfold snA at HEm
    go_wp2_with fail
    refine HEm.out.mono ?_
    rintro e w5 ⟨rfl, hb5⟩
    have hz5 := (hb5.block rb (Array.getElem?_eq_some_iff.1 HZ4.out).1).trans HZ4.out
    have HBw5 := Lib.hid (HBw4.out.trans (hb5.mono (by have := (Array.getElem?_eq_some_iff.1 HZ4.out).1; omega)))
    obtain ⟨d0, d1, d2, d3, d4, d5, d6, d7, d8, d9⟩ : w5.cell? ⟨rb, 0, none⟩ = some (.int .i64 0) ∧ w5.cell? ⟨rb, 1, none⟩ = some (.int .i64 0) ∧ w5.cell? ⟨rb, 2, none⟩ = some (.int .i64 0) ∧ w5.cell? ⟨rb, 3, none⟩ = some (.int .i64 0) ∧ w5.cell? ⟨rb, 4, none⟩ = some (.int .i64 0) ∧ w5.cell? ⟨rb, 5, none⟩ = some (.string ⟨#[]⟩) ∧ w5.cell? ⟨rb, 6, none⟩ = some (.slice none 0 0) ∧ w5.cell? ⟨rb, 7, none⟩ = some (.int .i64 0) ∧ w5.cell? ⟨rb, 8, none⟩ = some (.int .i64 0) ∧ w5.cell? ⟨rb, 9, none⟩ = some (.slice none 0 0) := ten_cells (s := emptyN) hz5
    have f0 := frozen_block hz5 0
    have f1 := frozen_block hz5 1
    have f2 := frozen_block hz5 2
    have f3 := frozen_block hz5 3
    have f4 := frozen_block hz5 4
    have f5 := frozen_block hz5 5
    have f6 := frozen_block hz5 6
    have f7 := frozen_block hz5 7
    have f8 := frozen_block hz5 8
    have f9 := frozen_block hz5 9
    have hend : Hid (P (.returned (.tuple #[.agg #[.int .i64 0, .int .i64 0, .int .i64 0, .int .i64 0, .int .i64 0, .string ⟨#[]⟩, .slice none 0 0, .int .i64 0, .int .i64 0, .slice none 0 0], .int .i64 1])) ((((((((((w5.setCell ⟨rb, 0, none⟩ (.int .i64 0)).setCell ⟨rb, 1, none⟩ (.int .i64 0)).setCell ⟨rb, 2, none⟩ (.int .i64 0)).setCell ⟨rb, 3, none⟩ (.int .i64 0)).setCell ⟨rb, 4, none⟩ (.int .i64 0)).setCell ⟨rb, 5, none⟩ (.string ⟨#[]⟩)).setCell ⟨rb, 6, none⟩ (.slice none 0 0)).setCell ⟨rb, 7, none⟩ (.int .i64 0)).setCell ⟨rb, 8, none⟩ (.int .i64 0)).setCell ⟨rb, 9, none⟩ (.slice none 0 0))) := Lib.hid (by
      rw [← HP.out]
      have hg : ∀ (u : World) (o : Nat) (x : Value), u.grownBy (u.setCell ⟨rb, o, none⟩ x) (some rb) := fun u o x => grown_set u rb o x
      have gg : w5.grownBy ((((((((((w5.setCell ⟨rb, 0, none⟩ (.int .i64 0)).setCell ⟨rb, 1, none⟩ (.int .i64 0)).setCell ⟨rb, 2, none⟩ (.int .i64 0)).setCell ⟨rb, 3, none⟩ (.int .i64 0)).setCell ⟨rb, 4, none⟩ (.int .i64 0)).setCell ⟨rb, 5, none⟩ (.string ⟨#[]⟩)).setCell ⟨rb, 6, none⟩ (.slice none 0 0)).setCell ⟨rb, 7, none⟩ (.int .i64 0)).setCell ⟨rb, 8, none⟩ (.int .i64 0)).setCell ⟨rb, 9, none⟩ (.slice none 0 0)) (some rb) := grown_trans (grown_trans (grown_trans (grown_trans (grown_trans (grown_trans (grown_trans (grown_trans (grown_trans (hg w5 0 _) (hg _ 1 _)) (hg _ 2 _)) (hg _ 3 _)) (hg _ 4 _)) (hg _ 5 _)) (hg _ 6 _)) (hg _ 7 _)) (hg _ 8 _)) (hg _ 9 _)
      have hb : Below rb w5 _ := (Below.refl rb w5).grown gg (by have := (Array.getElem?_eq_some_iff.1 hz5).1; omega) (fun q e => by have := Option.some.inj e; omega)
      have hx : parseS s.data.toList = (emptyN, 1) := by rw [HPs2.out, if_pos HNo.out]
      refine ⟨none, 0, 0, none, 0, 0, ?_, ?_, ?_, ?_⟩
      · rw [hx]; rfl
      · rw [hx]; exact GatR.nil _ _
      · rw [hx]; exact OwnP.nil _ _ _ _
      · rw [HRb.out]; exact HBw5.out.trans hb)
    clear hb5 hz5 c0 c1 c2 c3 c4 c5 c6 c7 c8 c9
    go_wp2_with fail
    refine bodyPost_ret (v := .tuple #[.agg #[.int .i64 0, .int .i64 0, .int .i64 0, .int .i64 0, .int .i64 0, .string ⟨#[]⟩, .slice none 0 0, .int .i64 0, .int .i64 0, .slice none 0 0], .int .i64 1]) (by rw [results_cell_tmp rfl]; go_simp) rfl ?_
    exact hend.out
  rw [decide_eq_false hx0] at hEm
  have HEm := Lib.hid hEm
  have HX0 := Lib.hid hx0
  clear hx0 hEm
  unfold snA at HEm
  go_wp2_with fail
  refine HEm.out.mono ?_
  rintro e w5 ⟨rfl, hb5⟩
  have hz5 := (hb5.block rb (Array.getElem?_eq_some_iff.1 HZ4.out).1).trans HZ4.out
  have hp5 := (hb5.block pb (Array.getElem?_eq_some_iff.1 HP4.out).1).trans HP4.out
  have hb05 := HBw4.out.trans (hb5.mono (by have := (Array.getElem?_eq_some_iff.1 HZ4.out).1; omega))
  have hC5 := HCk.out w5 hb5
  have hG5 := HG4.out.below hb5
  have hO5 := HO4.out.belowAll hb5
  have HZ5 := Lib.hid hz5
  have HP5 := Lib.hid hp5
  have HBw5 := Lib.hid hb05
  have HG5 := Lib.hid hG5
  have HO5 := Lib.hid hO5
  clear hb5 hz5 hp5 hb05 hG5 hO5 c0 c1 c2 c3 c4 c5 c6 c7 c8 c9 HEm
  obtain ⟨c0, c1, c2, c3, c4, c5, c6, c7, c8, c9⟩ := ten_cells HP5.out
  by_cases hm : MayN x
  rotate_left
  · have hc1 : ((chkN x : Nat) : Int) = 1 := by unfold chkN; rw [if_neg hm]; rfl
    rw [hc1] at hC5
    have HC5 := Lib.hid hC5
    have HNo : Hid (x = emptyN ∨ ¬ MayN x) := Lib.hid (.inr hm)
    clear hm hc1 hC5
    unfold snA at HC5
    go_wp2_with fail
    refine HC5.out.mono ?_
    rintro e w6 ⟨rfl, hb6⟩
    have hz6 := (hb6.block rb (Array.getElem?_eq_some_iff.1 HZ5.out).1).trans HZ5.out
    have HBw6 := Lib.hid (HBw5.out.trans (hb6.mono (by have := (Array.getElem?_eq_some_iff.1 HZ5.out).1; omega)))
    obtain ⟨d0, d1, d2, d3, d4, d5, d6, d7, d8, d9⟩ : w6.cell? ⟨rb, 0, none⟩ = some (.int .i64 0) ∧ w6.cell? ⟨rb, 1, none⟩ = some (.int .i64 0) ∧ w6.cell? ⟨rb, 2, none⟩ = some (.int .i64 0) ∧ w6.cell? ⟨rb, 3, none⟩ = some (.int .i64 0) ∧ w6.cell? ⟨rb, 4, none⟩ = some (.int .i64 0) ∧ w6.cell? ⟨rb, 5, none⟩ = some (.string ⟨#[]⟩) ∧ w6.cell? ⟨rb, 6, none⟩ = some (.slice none 0 0) ∧ w6.cell? ⟨rb, 7, none⟩ = some (.int .i64 0) ∧ w6.cell? ⟨rb, 8, none⟩ = some (.int .i64 0) ∧ w6.cell? ⟨rb, 9, none⟩ = some (.slice none 0 0) := ten_cells (s := emptyN) hz6
    have f0 := frozen_block hz6 0
    have f1 := frozen_block hz6 1
    have f2 := frozen_block hz6 2
    have f3 := frozen_block hz6 3
    have f4 := frozen_block hz6 4
    have f5 := frozen_block hz6 5
    have f6 := frozen_block hz6 6
    have f7 := frozen_block hz6 7
    have f8 := frozen_block hz6 8
    have f9 := frozen_block hz6 9
    have hend : Hid (P (.returned (.tuple #[.agg #[.int .i64 0, .int .i64 0, .int .i64 0, .int .i64 0, .int .i64 0, .string ⟨#[]⟩, .slice none 0 0, .int .i64 0, .int .i64 0, .slice none 0 0], .int .i64 1])) ((((((((((w6.setCell ⟨rb, 0, none⟩ (.int .i64 0)).setCell ⟨rb, 1, none⟩ (.int .i64 0)).setCell ⟨rb, 2, none⟩ (.int .i64 0)).setCell ⟨rb, 3, none⟩ (.int .i64 0)).setCell ⟨rb, 4, none⟩ (.int .i64 0)).setCell ⟨rb, 5, none⟩ (.string ⟨#[]⟩)).setCell ⟨rb, 6, none⟩ (.slice none 0 0)).setCell ⟨rb, 7, none⟩ (.int .i64 0)).setCell ⟨rb, 8, none⟩ (.int .i64 0)).setCell ⟨rb, 9, none⟩ (.slice none 0 0))) := Lib.hid (by
      rw [← HP.out]
      have hg : ∀ (u : World) (o : Nat) (x : Value), u.grownBy (u.setCell ⟨rb, o, none⟩ x) (some rb) := fun u o x => grown_set u rb o x
      have gg : w6.grownBy ((((((((((w6.setCell ⟨rb, 0, none⟩ (.int .i64 0)).setCell ⟨rb, 1, none⟩ (.int .i64 0)).setCell ⟨rb, 2, none⟩ (.int .i64 0)).setCell ⟨rb, 3, none⟩ (.int .i64 0)).setCell ⟨rb, 4, none⟩ (.int .i64 0)).setCell ⟨rb, 5, none⟩ (.string ⟨#[]⟩)).setCell ⟨rb, 6, none⟩ (.slice none 0 0)).setCell ⟨rb, 7, none⟩ (.int .i64 0)).setCell ⟨rb, 8, none⟩ (.int .i64 0)).setCell ⟨rb, 9, none⟩ (.slice none 0 0)) (some rb) := grown_trans (grown_trans (grown_trans (grown_trans (grown_trans (grown_trans (grown_trans (grown_trans (grown_trans (hg w6 0 _) (hg _ 1 _)) (hg _ 2 _)) (hg _ 3 _)) (hg _ 4 _)) (hg _ 5 _)) (hg _ 6 _)) (hg _ 7 _)) (hg _ 8 _)) (hg _ 9 _)
      have hb : Below rb w6 _ := (Below.refl rb w6).grown gg (by have := (Array.getElem?_eq_some_iff.1 hz6).1; omega) (fun q e => by have := Option.some.inj e; omega)
      have hx : parseS s.data.toList = (emptyN, 1) := by rw [HPs2.out, if_pos HNo.out]
      refine ⟨none, 0, 0, none, 0, 0, ?_, ?_, ?_, ?_⟩
      · rw [hx]; rfl
      · rw [hx]; exact GatR.nil _ _
      · rw [hx]; exact OwnP.nil _ _ _ _
      · rw [HRb.out]; exact HBw6.out.trans hb)
    clear hb6 hz6 c0 c1 c2 c3 c4 c5 c6 c7 c8 c9
    go_wp2_with fail
    refine bodyPost_ret (v := .tuple #[.agg #[.int .i64 0, .int .i64 0, .int .i64 0, .int .i64 0, .int .i64 0, .string ⟨#[]⟩, .slice none 0 0, .int .i64 0, .int .i64 0, .slice none 0 0], .int .i64 1]) (by rw [results_cell_tmp rfl]; go_simp) rfl ?_
    exact hend.out
  have hc1 : ((chkN x : Nat) : Int) = 0 := by unfold chkN; rw [if_pos hm]; rfl
  rw [hc1] at hC5
  have HC5 := Lib.hid hC5
  have HYes : Hid (parseS s.data.toList = (x, 0)) := Lib.hid (by rw [HPs2.out, if_neg (by intro h; rcases h with h | h; exact HX0.out h; exact h hm)])
  clear hm hc1 hC5
  unfold snA at HC5
  go_wp2_with fail
  refine HC5.out.mono ?_
  rintro e w6 ⟨rfl, hb6⟩
  have hz6 := (hb6.block rb (Array.getElem?_eq_some_iff.1 HZ5.out).1).trans HZ5.out
  have hp6 := (hb6.block pb (Array.getElem?_eq_some_iff.1 HP5.out).1).trans HP5.out
  have HBw6 := Lib.hid (HBw5.out.trans (hb6.mono (by have := (Array.getElem?_eq_some_iff.1 HZ5.out).1; omega)))
  have hG6 := HG5.out.below hb6
  have hO6 := HO5.out.belowAll hb6
  obtain ⟨d0, d1, d2, d3, d4, d5, d6, d7, d8, d9⟩ : w6.cell? ⟨rb, 0, none⟩ = some (.int .i64 0) ∧ w6.cell? ⟨rb, 1, none⟩ = some (.int .i64 0) ∧ w6.cell? ⟨rb, 2, none⟩ = some (.int .i64 0) ∧ w6.cell? ⟨rb, 3, none⟩ = some (.int .i64 0) ∧ w6.cell? ⟨rb, 4, none⟩ = some (.int .i64 0) ∧ w6.cell? ⟨rb, 5, none⟩ = some (.string ⟨#[]⟩) ∧ w6.cell? ⟨rb, 6, none⟩ = some (.slice none 0 0) ∧ w6.cell? ⟨rb, 7, none⟩ = some (.int .i64 0) ∧ w6.cell? ⟨rb, 8, none⟩ = some (.int .i64 0) ∧ w6.cell? ⟨rb, 9, none⟩ = some (.slice none 0 0) := ten_cells (s := emptyN) hz6
  have f0 := frozen_block hz6 0
  have f1 := frozen_block hz6 1
  have f2 := frozen_block hz6 2
  have f3 := frozen_block hz6 3
  have f4 := frozen_block hz6 4
  have f5 := frozen_block hz6 5
  have f6 := frozen_block hz6 6
  have f7 := frozen_block hz6 7
  have f8 := frozen_block hz6 8
  have f9 := frozen_block hz6 9
  have hend : Hid (P (.returned (.tuple #[.agg (snA x xa xn xc ya yn yc), .int .i64 0])) ((((((((((w6.setCell ⟨rb, 0, none⟩ (.int .i64 x.k)).setCell ⟨rb, 1, none⟩ (.int .i64 x.w)).setCell ⟨rb, 2, none⟩ (.int .i64 x.h)).setCell ⟨rb, 3, none⟩ (.int .i64 x.x)).setCell ⟨rb, 4, none⟩ (.int .i64 x.y)).setCell ⟨rb, 5, none⟩ (.string x.t)).setCell ⟨rb, 6, none⟩ (.slice xa xn xc)).setCell ⟨rb, 7, none⟩ (.int .i64 x.n)).setCell ⟨rb, 8, none⟩ (.int .i64 x.c)).setCell ⟨rb, 9, none⟩ (.slice ya yn yc))) := Lib.hid (by
    rw [← HP.out]
    have hg : ∀ (u : World) (o : Nat) (x : Value), u.grownBy (u.setCell ⟨rb, o, none⟩ x) (some rb) := fun u o x => grown_set u rb o x
    have gg : w6.grownBy ((((((((((w6.setCell ⟨rb, 0, none⟩ (.int .i64 x.k)).setCell ⟨rb, 1, none⟩ (.int .i64 x.w)).setCell ⟨rb, 2, none⟩ (.int .i64 x.h)).setCell ⟨rb, 3, none⟩ (.int .i64 x.x)).setCell ⟨rb, 4, none⟩ (.int .i64 x.y)).setCell ⟨rb, 5, none⟩ (.string x.t)).setCell ⟨rb, 6, none⟩ (.slice xa xn xc)).setCell ⟨rb, 7, none⟩ (.int .i64 x.n)).setCell ⟨rb, 8, none⟩ (.int .i64 x.c)).setCell ⟨rb, 9, none⟩ (.slice ya yn yc)) (some rb) := grown_trans (grown_trans (grown_trans (grown_trans (grown_trans (grown_trans (grown_trans (grown_trans (grown_trans (hg w6 0 _) (hg _ 1 _)) (hg _ 2 _)) (hg _ 3 _)) (hg _ 4 _)) (hg _ 5 _)) (hg _ 6 _)) (hg _ 7 _)) (hg _ 8 _)) (hg _ 9 _)
    have hb : Below rb w6 _ := (Below.refl rb w6).grown gg (by have := (Array.getElem?_eq_some_iff.1 hz6).1; omega) (fun q e => by have := Option.some.inj e; omega)
    have hr2 : rb < w2.heap.size := by have := HS2.out; have := HPr.out; omega
    refine ⟨xa, xn, xc, ya, yn, yc, by rw [HYes.out]; rfl, ?_, ?_, by rw [HRb.out]; exact HBw6.out.trans hb⟩
    · rw [HYes.out]; exact (hG6.grown gg (by have := HPr.out; omega)).weaken (by have := HRb.out; have := HPr.out; omega)
    · rw [HYes.out]; exact (ownP_of hO6 gg (fun q e => .inl (by have := Option.some.inj e; have := HPr.out; omega))).weaken (by have := HRb.out; have := HPr.out; omega))
  have HPP := Lib.hid hp6
  clear hb6 hz6 hp6 hG6 hO6 c0 c1 c2 c3 c4 c5 c6 c7 c8 c9
  obtain ⟨c0, c1, c2, c3, c4, c5, c6, c7, c8, c9⟩ := ten_cells HPP.out
  unfold snA at hend
  go_wp2_with fail
  refine bodyPost_ret (v := .tuple #[.agg #[.int .i64 x.k, .int .i64 x.w, .int .i64 x.h, .int .i64 x.x, .int .i64 x.y, .string x.t, .slice xa xn xc, .int .i64 x.n, .int .i64 x.c, .slice ya yn yc], .int .i64 0]) (by rw [results_cell_tmp rfl]; go_simp) rfl ?_
  exact hend.out
end Go.Proofs.YtohhlhnjopbmhaaGreatDoor.K
