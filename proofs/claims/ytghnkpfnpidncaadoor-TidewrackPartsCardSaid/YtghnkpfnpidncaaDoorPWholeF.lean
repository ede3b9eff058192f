/- The contract of Slot's Whole, where all parts are there; and in all cases. -/
import Derived.Test.YtghnkpfnpidncaaDoorPWhole
namespace Go.Proofs.YtghnkpfnpidncaaDoor.P
open Go.RowKit Go.Shelf

attribute [local go_sem] Oper.semAt_some

set_option maxRecDepth 100000 in
set_option maxHeartbeats 4000000 in
theorem whole_full (n p : Nat) (hn : 4 ≤ n) (mo : Option Nat) (k : Int) (L : PL) (w : World) (h : SlotAt p mo k L w) (hfit : Fits L) (hfull : fullS L = true) :
    CallsIn Fence.wide n Tryd.prog 24 #[.pointer (some ⟨p, 0, none⟩)] w (WholePost L w) := by
  have h1 : 1 ≤ n := by omega
  have hlt := h.lt
  have hmlt := h.mlt
  have hlen := h.len_le
  have hff := hfull
  unfold fullS at hff
  simp only [Bool.and_eq_true, decide_eq_true_eq] at hff
  have hs1 := h.belowAll ((Below.refl _ _).alloc (Nat.le_refl _) (.cells #[.pointer (some ⟨p, 0, none⟩)] 86))
  have bx1 := Boxed.new w 86 (.pointer (some ⟨p, 0, none⟩))
  have hbel1 : Below w.heap.size w (w.alloc (.cells #[.pointer (some ⟨p, 0, none⟩)] 86)) := (Below.refl _ _).alloc (Nat.le_refl _) _
  have hsz1 : (w.alloc (.cells #[.pointer (some ⟨p, 0, none⟩)] 86)).heap.size = w.heap.size + 1 := by simp
  obtain ⟨b, rfl⟩ : ∃ b, mo = some b := by
    cases mo with
    | some b => exact ⟨b, rfl⟩
    | none =>
      have h2 : L.length = 0 := congrArg List.length h.2.2
      omega
  obtain ⟨w1, hw1⟩ : ∃ w1, w.alloc (.cells #[.pointer (some ⟨p, 0, none⟩)] 86) = w1 := ⟨_, rfl⟩
  rw [hw1] at hs1 bx1 hbel1 hsz1
  have hl : ∀ d ty, (Builtin.len_ #[53] ty #[.map (some b)]).run Tryd.prog (w1.drewN d) = .ok (.int .i64 (haveN L)) (w1.drewN d) := fun d ty => MapAt.len (w := w1.drewN d) hs1.2.2.2 ty
  have b1 := bx1.cell
  have c1 := hs1.cells.2.1
  have c2 := hs1.cells.2.2
  obtain ⟨N, hN⟩ : ∃ N, L.length = N := ⟨_, rfl⟩
  obtain ⟨M, hM⟩ : ∃ M, haveN L = M := ⟨_, rfl⟩
  rw [hN] at c1
  rw [hN, hM] at hff
  rw [hM] at hl
  have hc0 : ((N : Int) == 0) = false := by rw [beq_eq_false_iff_ne]; omega
  have hd : decide ((M : Int) < (N : Int)) = false := by simp; omega
  have hd' : decide (M < N) = false := by simp; omega
  have HW1 := Lib.hid hw1
  have HS1 := Lib.hid hs1
  have HBx1 := Lib.hid bx1
  have HBel1 := Lib.hid hbel1
  have HM := Lib.hid hmlt
  have HFit := Lib.hid hfit
  have HFull := Lib.hid hfull
  clear h hs1 hN hM hw1 bx1 hbel1 hmlt hfit hfull hff
  refine callsIn_of_wp_marks Tryd.func24 rfl trivial ?_ rfl
  simp only [Tryd.ntmps24, List.size_toArray, List.length_cons, List.length_nil, Nat.reduceAdd, Nat.reduceSub, Array.replicate_succ, Array.replicate_zero, List.push_toArray, List.append_toArray, List.nil_append, List.cons_append]
  gi_wp2
  rw [HW1.out]
  gi_quiet (fail)
  -- the builder
  obtain ⟨W1, hW1⟩ : ∃ W1, w1.drewN nq = W1 := ⟨_, rfl⟩
  have hsW1 : W1.heap.size = w.heap.size + 1 := by rw [← hW1]; exact hsz1
  have HSW : SlotAt p (some b) k L W1 := by rw [← hW1]; exact HS1.out
  have HBW : Boxed W1 w.heap.size 86 (.pointer (some ⟨p, 0, none⟩)) := by rw [← hW1]; exact HBx1.out
  have hBW1 : Below w.heap.size w W1 := by rw [← hW1]; exact drewN_below HBel1.out _
  rw [hW1]
  have bcell := HBW.cell
  have hbb := Boxed.lt HBW
  have HS2 := Lib.hid (HSW.belowAll ((Below.refl _ _).alloc (Nat.le_refl _) (.cells #[.pointer none, .slice none 0 0] 92)))
  have HB2 := Lib.hid (HBW.alloc (.cells #[.pointer none, .slice none 0 0] 92))
  have hbl2 : Below w.heap.size w (W1.alloc (.cells #[.pointer none, .slice none 0 0] 92)) := hBW1.alloc (by omega) _
  have HBel2 := Lib.hid hbl2
  have HBk := Lib.hid (World.alloc_heap_new W1 (.cells #[.pointer none, .slice none 0 0] 92))
  clear hl b1 c1 c2 hd hd' hc0 HS1 HBx1 HW1 hW1 hBW1 HSW HBW hbl2 HBel1
  rw [hsW1] at HBk
  gi_wp2_with fail
  refine ⟨by first | trivial | omega, ?_⟩
  refine (bytes_in (n - 1) (by omega) p (some b) k L _ HS2.out HFit.out).mono ?_
  rintro e w3 ⟨rfl, hb3⟩
  have hs3 := hb3.size
  simp only [World.size_alloc, hsW1] at hs3
  have hB3 : w3.heap[w.heap.size + 1]? = some (.cells #[.pointer none, .slice none 0 0] 92 (0, 0)) := (hb3.block _ (by simp; omega)).trans HBk.out
  have hS3 : SlotAt p (some b) k L w3 := HS2.out.belowAll hb3
  have hX3 : Boxed w3 w.heap.size 86 (.pointer (some ⟨p, 0, none⟩)) := (hb3.block _ (by simp; omega)).trans HB2.out
  have hBel3 : Below w.heap.size w w3 := HBel2.out.trans (hb3.mono (by simp; omega))
  have htot : (bytesS L : Int) ≤ 281474976710656 := by
    have h := catP_le HFit.out ((whichS L true).attach.map fun x => ⟨x.1, by
      have hx := x.2
      unfold whichS at hx
      obtain ⟨q1, q2⟩ := List.mem_filter.1 hx
      exact ⟨by simpa using q1, q2⟩⟩)
    have e : catP L ((whichS L true).attach.map fun x => ⟨x.1, by
      have hx := x.2
      unfold whichS at hx
      obtain ⟨q1, q2⟩ := List.mem_filter.1 hx
      exact ⟨by simpa using q1, q2⟩⟩) = catS L := by
      rw [← cat_which]
      unfold catP
      congr 1
      simp
    have hle : (whichS L true).attach.length ≤ L.length := by rw [List.length_attach]; exact whichTo_len L true L.length
    rw [List.length_map] at h
    rw [e, ← bytes_cat] at h
    have hm : 1000000000 * (whichS L true).attach.length ≤ 1000000000 * 4096 := Nat.mul_le_mul_left _ (by omega)
    omega
  have HG := Lib.hid (grow_any (w.heap.size + 1) (bytesS L) w3 hB3 htot)
  have HS3 := Lib.hid hS3
  have HX3 := Lib.hid hX3
  have HBel3 := Lib.hid hBel3
  clear hb3 hB3 hS3 hX3 hBel3 htot HS2 HB2 HBel2 HBk
  gi_wp2_with fail
  refine ⟨by first | trivial | omega, ?_⟩
  refine (callsIn_wide.2 HG.out).mono ?_
  rintro e w4 ⟨rfl, hO4, hb4⟩
  have hs4 := hb4.size
  have hS4 : SlotAt p (some b) k L w4 := HS3.out.below hb4 (by omega) (fun b' e => by have := HM.out b' e; omega)
  have hX4 : Boxed w4 w.heap.size 86 (.pointer (some ⟨p, 0, none⟩)) := (hb4.block _ (by omega)).trans HX3.out
  have hBel4 : Below w.heap.size w w4 := HBel3.out.trans (hb4.mono (by omega))
  have hc4 := hX4.cell
  have HL := Lib.hid (looks_new hS4 true)
  have HO5 := Lib.hid (((own_built (w.heap.size + 1)).alloc (.cells #[.bool true] 4) ((own_built (w.heap.size + 1)).alloc (.cells #[.pointer (some ⟨p, 0, none⟩)] 86) hO4)))
  have hB5 : Below w.heap.size w ((w4.alloc (.cells #[.pointer (some ⟨p, 0, none⟩)] 86)).alloc (.cells #[.bool true] 4)) := (hBel4.alloc (by omega) _).alloc (by simp; omega) _
  have HB5 := Lib.hid hB5
  have HX5 := Lib.hid ((hX4.alloc (.cells #[.pointer (some ⟨p, 0, none⟩)] 86)).alloc (.cells #[.bool true] 4))
  clear hO4 hb4 hS4 hX4 hBel4 hB5 HS3 HX3 HBel3 HG
  gi_wp2_with fail
  refine ⟨by first | trivial | omega, ?_⟩
  refine (places_in (n - 1) p true _).mono ?_
  rintro e w' ⟨rfl, rfl⟩
  obtain ⟨q, hq⟩ : ∃ q, w4.heap.size = q := ⟨_, rfl⟩
  obtain ⟨W5, hW5⟩ : ∃ W5, (w4.alloc (.cells #[.pointer (some ⟨p, 0, none⟩)] 86)).alloc (.cells #[.bool true] 4) = W5 := ⟨_, rfl⟩
  have hs5 : W5.heap.size = q + 2 := by rw [← hW5, ← hq]; simp
  rw [hW5] at HL HO5 HB5 HX5 ⊢
  rw [hq] at HL ⊢
  have hnl : w.heap.size + 1 ∉ lookL q (q + 1) p (some b) := by
    intro hm
    rcases List.mem_cons.1 hm with e | hm
    · omega
    rcases List.mem_cons.1 hm with e | hm
    · omega
    rcases List.mem_cons.1 hm with e | hm
    · omega
    · have e : w.heap.size + 1 = b := by simpa using hm
      have := HM.out b rfl
      omega
  have hwq : w.heap.size + 2 ≤ q := by omega
  clear hW5 hq hc4
  gi_wp2_with fail
  refine wpIn_rangeFunc_ownF rfl h1 (gf := 66) (lb := #[.pointer (some ⟨q, 0, none⟩), .pointer (some ⟨q + 1, 0, none⟩)]) rfl trivial (enters_of Tryd.func66 (by kernel_rfl) rfl)
    (places_stops (n - 1) (by omega) q (q + 1) p (some b) k L true W5 HL.out) (fun h1 h2 => keepL_t h1 h2) (keepL_b HL.out.lt) (Below.refl _ _) (fun _ => rfl)
    (fun pre W => BuiltAt (w.heap.size + 1) (catP L pre) W ∧ (Boxed W w.heap.size 86 (.pointer (some ⟨p, 0, none⟩)) ∧ (Looks q (q + 1) p (some b) k L true W ∧ Below w.heap.size w W)))
    (fun _ _ _ => False)
    (OwnFrom.and (Own.from (fun s X Y row hs hg hr => own_built (w.heap.size + 1) (catP L s) X Y row hs hg hr) _) (OwnFrom.and (Own.from (boxed_own w.heap.size 86 (fun _ : List (Ix L true) => Value.pointer (some ⟨p, 0, none⟩))) _) (OwnFrom.and (ownFrom_looks HL.out.lt) (ownFrom_below (Nat.le_refl _) (by omega)))))
    (fun _ _ _ _ _ hs _ _ => hs)
    ⟨by simpa [catP] using HO5.out, HX5.out, HL.out, HB5.out⟩
    (fun x => { tmps := #[.pointer (some ⟨p, 0, none⟩), .pointer (some ⟨w.heap.size, 0, none⟩), .string ⟨#[]⟩, .bool false, .pointer (some ⟨w.heap.size + 1, 0, none⟩), .int .i64 (x.1 : Int), .pointer (some ⟨p, 0, none⟩), .pointer (some ⟨p, 0, none⟩), .pointer (some ⟨p, 1, none⟩), .int .i64 N, .bool false, .bool false, .pointer (some ⟨p, 0, none⟩), .pointer (some ⟨p, 0, none⟩), .pointer (some ⟨p, 2, none⟩), .map (some b), .int .i64 M, .pointer (some ⟨p, 0, none⟩), .pointer (some ⟨p, 0, none⟩), .pointer (some ⟨p, 1, none⟩), .int .i64 N, .bool false, .bool false, .pointer (some ⟨p, 0, none⟩), .int .i64 (bytesS L : Int), .tuple #[], .pointer (some ⟨p, 0, none⟩), .func (.func 66) #[] #[.pointer (some ⟨q, 0, none⟩), .pointer (some ⟨q + 1, 0, none⟩)], .int .i64 (x.1 : Int), undef, undef, undef, undef, undef, undef, undef, undef, undef], defers := [] }) ?assign ?body ?done ?stop
  case assign =>
    intro l x W K hK
    gi_wp2
    simpa using hK
  case body =>
    rintro l pre x W ⟨hO, hX, hLk, hB⟩ hltp
    have hc2 := hX.cell
    have hc3 := hLk.slot.cells.2.2
    obtain ⟨s, hrun, hbs⟩ := hLk.slot.2.2.2.look1 x.2.1 hlen
    have hle := catP_le HFit.out pre
    have hps := HFit.out x.1
    have hsz : partLen L x.1 = s.size := by unfold partLen; rw [← hbs]; rfl
    rw [hsz] at hps
    have hcs : catP L (pre ++ [x]) = catP L pre ++ bl s := by rw [catP_snoc, hbs]
    have HWr := Lib.hid (write_any (w.heap.size + 1) (catP L pre) s W hO (by omega))
    have hfld := run_field56 W s
    have HX := Lib.hid hX
    have HLk := Lib.hid hLk
    have HB := Lib.hid hB
    have HCs := Lib.hid hcs
    clear hO hX hLk hB hbs hle hps hsz hcs
    gi_wp2_with fail
    refine ⟨by first | trivial | omega, fun _ => by omega, ?_⟩
    refine ((callsIn_wide.2 HWr.out).inRound l).mono ?_
    rintro e w6 ⟨rfl, hO6, hK6, hKo6, hb6⟩
    have HO6 := Lib.hid hO6
    have HK6 := Lib.hid hK6
    have HKo6 := Lib.hid hKo6
    have HB6 := Lib.hid hb6
    clear hO6 hK6 hKo6 hb6
    gi_wp2
    have hkl := HLk.out.keepB HK6.out hnl
    exact ⟨HKo6.out, hkl, by rw [HCs.out]; exact HO6.out, (HB6.out.block _ (by omega)).trans HX.out, HLk.out.keep hkl, HB.out.trans (HB6.out.mono (by omega))⟩
  case done =>
    rintro D ys W hD hS ⟨hO, hX, hLk, hB⟩ hK
    have hfin : catP L ys = catS L := by rw [← cat_which, ← hS]; rfl
    rw [hfin] at hO
    have HSt := Lib.hid (string_any (w.heap.size + 1) (catS L) W hO)
    have HB := Lib.hid hB
    have HK := Lib.hid hK
    have HD := Lib.hid hD
    have hsW := hB.size
    clear hO hX hLk hB hK hD hfin hS
    gi_wp2_with fail
    refine ⟨by first | trivial | omega, ?_⟩
    refine (callsIn_wide.2 HSt.out).mono ?_
    rintro e w7 ⟨rfl, hb7, hk7⟩
    have HB7 := Lib.hid hb7
    have HK7 := Lib.hid (hk7.same D _ HK.out rfl)
    clear hb7 hk7
    gi_wp2
    refine ⟨by simp, .inl ⟨_, _, rfl, run_takeDeferred HK7.out, ?_⟩⟩
    refine ⟨_, results_tmp2 rfl _ _ _, ?_⟩
    refine ⟨⟨(catS L).toArray⟩, ?_, ?_, ?_⟩
    · rw [HFull.out]; rfl
    · unfold wholeS; rw [HFull.out]; rfl
    · exact (HB.out.trans (HB7.out.mono (by omega))).trans (belowK_b (w := W5) (by omega) w7 D _ _ HD.out HK7.out rfl rfl)
  case stop =>
    rintro D c pre W _ _ h _
    exact h.elim
theorem whole_any (p : Nat) (mo : Option Nat) (k : Int) (L : PL) (w : World) (h : SlotAt p mo k L w) (hfit : Fits L) : Calls Tryd.prog 24 #[.pointer (some ⟨p, 0, none⟩)] w (WholePost L w) := by
  refine (callsIn_wide (n := 4)).1 ?_
  cases hf : fullS L with
  | true => exact whole_full 4 p (Nat.le_refl _) mo k L w h hfit hf
  | false => exact whole_none 4 p (Nat.le_refl _) mo k L w h hf
theorem bytes_any (p : Nat) (mo : Option Nat) (k : Int) (L : PL) (w : World) (h : SlotAt p mo k L w) (hfit : Fits L) : Calls Tryd.prog 46 #[.pointer (some ⟨p, 0, none⟩)] w fun e w' => e = .returned (.int .i64 (bytesS L : Int)) ∧ Below w.heap.size w w' :=
  (callsIn_wide (n := 3)).1 (bytes_in 3 (Nat.le_refl _) p mo k L w h hfit)
end Go.Proofs.YtghnkpfnpidncaaDoor.P
