/- NumBack: of every list of numbers (the first thirty) and every text (cut at a hundred bytes) what was written is read. No condition. -/
import Derived.Test.YthhaefcglhghfaaTexts
namespace Go.Proofs.Ythhaefcglhghfaa
open Go.RowKit

theorem run_sizeOf' {P : Program} {t : TypeId} {i : TypeInfo} (w : World) (h : P.info? t = some i) : (sizeOf t).run P w = .ok (P.cellsOf t) w := by
  simp [sizeOf, typeInfo, Program.cellsOf, h]
theorem num_zero (base B : Nat) (a : Option Addr) (cap : Nat) (bs : List UInt8) (w : World) (hO : OutAt base B bs w) (hbw : base ≤ w.heap.size) :
    Calls Try.prog 11 #[.pointer (some ⟨B, 0, none⟩), .slice a 0 cap] w (Wrote base B bs w) := by
  go_enter Try.func11, Try.ntmps11
  go_wp2
  go_loop [12] (fun i => i = .int .i64 0) (fun _ => 0)
  case atStart => rfl
  case round =>
    subst hrel
    go_wp2
    go_ret
    exact ⟨rfl, hO.alloc _, (Below.refl _ _).alloc hbw _, Keeps.alloc _ _ _⟩
theorem text_one (base B : Nat) (s : ByteArray) (bs : List UInt8) (w : World) (hsz : (bs.length : Int) + s.size ≤ 800000) (hbase : base ≤ B) (hO : OutAt base B bs w) (hbw : base ≤ w.heap.size) :
    Calls Try.prog 14 #[.pointer (some ⟨B, 0, none⟩), .slice (some ⟨w.heap.size, 0, none⟩) 1 1] (w.alloc (.cells #[.string s] 9)) (Wrote base B (bs ++ textB s) (w.alloc (.cells #[.string s] 9))) := by
  have h := text_any base B w.heap.size 0 1 [s] bs (w.alloc (.cells #[.string s] 9)) (by simp) (fun k hk => by
    have hb := textB_len s
    match k, hk with
    | 0, _ => simp [textsOf]; omega
    | 1, _ => simp [textsOf]; omega
    | k + 2, hk => simp at hk) hbase (hO.alloc _) (fun w' _ hk i hi => by
    obtain rfl : i = 0 := by simpa using hi
    rw [cell_keeps hk (block_new w _) (by decide) (by have := hO.lt; omega), cell_alloc_new]; rfl) (by simp; omega)
  simpa [textsOf] using h
theorem numS_back (z : Int) (r : List UInt8) : numS (digs (clipN z) ++ r) 0 = ((r, 0), clipN z) := by
  unfold numS
  rw [first_digs (clipN z) r (clipN_le z)]
  simp
theorem numsOf_drop (zs : List Int) (k : Nat) (h : k < zs.length) : numsOf (zs.drop k) = digs (clipN (zs.getD k 0)) ++ numsOf (zs.drop (k + 1)) := by
  unfold numsOf
  rw [List.drop_eq_getElem_cons h, List.flatMap_cons]
  simp [h]
theorem ints_below {w w1 : World} {b off : Nat} {zs : List Int} (h : Ints w b off zs) {n : Nat} (hn : w.heap.size ≤ n) (hb : Below w.heap.size w w1) : Ints w1 b off zs := fun i hi => by
  have hc := h i hi
  exact (hb.cell (p := ⟨b, off + i, none⟩) (World.block_lt_of_cell? w _ hc)).trans hc

set_option maxRecDepth 100000 in
set_option maxHeartbeats 2000000 in
theorem back_walk (a : Option Addr) (len cap K : Nat) (L : Value) (zs : List Int) (s : ByteArray) (hs : (s.size : Int) ≤ 9223372036854775807) (w : World) (hK : min (len : Int) 30 = (K : Int)) (hz : zs.length = K) (hK30 : (K : Int) ≤ 30)
    (hslice : ∀ W, (Instr.slice 53 (.slice a len cap) none (some (.int .i64 (K : Int))) none).run Try.prog W = .ok L W)
    (hL : (zs = [] ∧ ∃ a' c, L = .slice a' 0 c) ∨ (∃ b off c, L = .slice (some ⟨b, off, none⟩) K c ∧ b < w.heap.size ∧ Ints w b off zs)) :
    Calls Try.prog 5 #[.slice a len cap, .string s] w fun e w' => e = .returned (.bool true) ∧ Below w.heap.size w w' := by
  have hmn : (if (30 : Int) < len then (30 : Int) else len) = (K : Int) := by rw [← hK]; by_cases h : (30 : Int) < len <;> simp [h] <;> omega
  have HL := Lib.hid hL
  have HZ := Lib.hid hz
  clear hL hz hK
  go_enter Try.func5, Try.ntmps5
  go_wp2_with fail
  refine (awake_any _).mono ?_
  rintro e w1 ⟨rfl, hb1⟩
  have HB1 := Lib.hid hb1
  clear hb1
  go_wp2_with fail
  refine (cut_any s 100 hs (by decide) _).mono ?_
  rintro e w' ⟨⟨t, rfl, hts, _⟩, rfl⟩
  have hN : Calls Try.prog 11 #[.pointer (some ⟨w1.heap.size, 0, none⟩), L] (w1.alloc (.cells #[.slice none 0 0] 26)) (Wrote w1.heap.size w1.heap.size (numsOf zs) (w1.alloc (.cells #[.slice none 0 0] 26))) := by
    rcases HL.out with ⟨rfl, a', c, rfl⟩ | ⟨b, off, c, rfl, hb, hi⟩
    · exact num_zero _ _ _ _ [] _ (out_new _ _) (by simp)
    · have h := num_any w1.heap.size w1.heap.size b off c zs [] (w1.alloc (.cells #[.slice none 0 0] 26)) (by rw [HZ.out]; simp; omega) (Nat.le_refl _) (out_new _ _) (fun w' hbl _ i hi' => by
        have hc := hi i hi'
        have hc1 := (HB1.out.cell (p := ⟨b, off + i, none⟩) hb).trans hc
        have hb1 : b < w1.heap.size := Nat.lt_of_lt_of_le hb HB1.out.size
        refine (hbl.cell (p := ⟨b, off + i, none⟩) hb1).trans ?_
        rw [World.cell?_alloc_past _ _ _ hb1]
        exact hc1) (by simp)
      rw [HZ.out] at h
      simpa using h
  have HN := Lib.hid hN
  clear hN
  go_wp2_with fail
  refine HN.out.mono ?_
  rintro e w3 ⟨rfl, hO3, hB3, hK3⟩
  have hs1 := HB1.out.size
  have HB3 : Hid (Below w.heap.size w w3) := Lib.hid ((HB1.out.alloc hs1 _).trans (hB3.mono hs1))
  have hs13 : w1.heap.size ≤ w3.heap.size := by have := hB3.size; simp at this; omega
  have hnl := numsOf_le zs
  rw [HZ.out] at hnl
  have hnl' : ((numsOf zs).length : Int) ≤ 270 := by omega
  have HT := Lib.hid (text_one w1.heap.size w1.heap.size t (numsOf zs) w3 (by omega) (Nat.le_refl _) hO3 hs13)
  have HNl := Lib.hid hnl'
  clear hO3 hB3 hK3 hnl hnl'
  go_wp2_with fail
  refine HT.out.mono ?_
  rintro e w4 ⟨rfl, hO4, hB4, hK4⟩
  have HB4 : Hid (Below w.heap.size w w4) := Lib.hid ((HB3.out.alloc HB3.out.size _).trans (hB4.mono hs1))
  have HO4 := Lib.hid hO4
  clear hO4 hB4 hK4
  go_wp2_with fail
  refine (bytes_any _ _ _ _ HO4.out).mono ?_
  rintro e w' ⟨rfl, rfl⟩
  obtain ⟨D, hD⟩ : ∃ D : ByteArray, (⟨(numsOf zs ++ textB t).toArray⟩ : ByteArray) = D := ⟨_, rfl⟩
  have hDl : D.data.toList = numsOf zs ++ textB t := by rw [← hD]
  have hDs : (D.size : Int) ≤ 1000 := by
    have h1 : D.size = (numsOf zs ++ textB t).length := by rw [← hDl]; rfl
    have h2 := HNl.out
    have h3 := textB_len t
    rw [List.length_append] at h1
    omega
  rw [hD]
  have HDl := Lib.hid hDl
  clear hD hDl
  go_wp2_with fail
  refine (of_any D (by omega) _).mono ?_
  rintro e w5 ⟨rfl, hi5, hw5⟩
  rw [HDl.out] at hi5
  have HI5 := Lib.hid hi5
  have HB5 : Hid (Below w.heap.size w w5) := Lib.hid (by rw [hw5]; exact HB4.out.alloc HB4.out.size _)
  have hs4 := HB4.out.size
  obtain ⟨p, hp⟩ : ∃ p, w4.heap.size = p := ⟨_, rfl⟩
  have hpb : w.heap.size ≤ p := by omega
  rw [hp] at HI5 ⊢
  clear hi5 hw5 hp
  have HTx : Hid (textS (textB t) 0 = (([], 0), t.data.toList)) := Lib.hid (by have := textS_back t [] (by omega); simpa using this)
  rcases HL.out with ⟨rfl, a', c, rfl⟩ | ⟨b, off, c, rfl, hb, hi⟩
  · have ht := intext_any p _ 0 w5 HI5.out
    rw [show numsOf [] ++ textB t = textB t from rfl, HTx.out] at ht
    have HTt := Lib.hid ht
    clear ht
    go_wp2_with fail
    go_loop [29] (fun i => i = .int .i64 0) (fun _ => 0)
    case atStart => rfl
    case round =>
      subst hrel
      go_wp2_with fail
      refine HTt.out.mono ?_
      rintro e w6 ⟨u, rfl, hul, hi6, hg6⟩
      have e1 := beq_lists hul
      have HI6 := Lib.hid hi6
      have HB6 : Hid (Below w.heap.size w w6) := Lib.hid (below_of_grown HB5.out hg6 HB5.out.size hpb)
      clear hul hi6 hg6
      go_wp2_with fail
      refine (end_any _ _ _ _ HI6.out).mono ?_
      rintro e w' ⟨rfl, rfl⟩
      go_wp2_with fail
      go_ret
      exact ⟨rfl, HB6.out⟩
  · have HC := Lib.hid hi
    clear hi
    go_wp2_with fail
    go_loopw [8, 29] (fun _ i wr => ∃ k : Nat, k ≤ K ∧ i = .int .i64 k ∧ Hid (InSt p (numsOf (zs.drop k) ++ textB t) 0 wr ∧ Below w.heap.size w wr)) (fun _ i _ => K - (intOf i).toNat)
    case atStart => exact ⟨0, by omega, rfl, Lib.hid ⟨by simpa using HI5.out, HB5.out⟩⟩
    case round =>
      obtain ⟨k, hk, rfl, hF⟩ := hrel
      by_cases hlt : k < K
      · obtain ⟨hi, hB⟩ := hF.out
        have hlk : k < zs.length := by rw [HZ.out]; exact hlt
        have hc := (hB.cell (p := ⟨b, off + k, none⟩) hb).trans (HC.out k hlk)
        obtain ⟨z, hz⟩ : ∃ z, zs.getD k 0 = z := ⟨_, rfl⟩
        rw [numsOf_drop zs k hlk, hz, List.append_assoc] at hi
        rw [hz] at hc
        have hn := innum_any p _ 0 wr hi
        rw [numS_back] at hn
        have HBb := Lib.hid hB
        have key : ∀ x : Int, x = ((clipN z : Nat) : Int) → Calls Try.prog 19 #[.pointer (some ⟨p, 0, none⟩)] wr (Took p (.int .i64 x) (numsOf (zs.drop (k + 1)) ++ textB t, 0) wr) := fun x hx => by rw [hx]; exact hn
        have HKey := Lib.hid key
        clear hF hi hB hz hn key
        rcases Int.lt_or_le z 0 with hz0 | hz0
        · have HN0 := Lib.hid (HKey.out 0 (by unfold clipN top; omega))
          go_wp2_with fail
          refine HN0.out.mono ?_
          rintro e w6 ⟨rfl, hi6, hg6⟩
          have HF6 : Hid (InSt p (numsOf (zs.drop (k + 1)) ++ textB t) 0 w6 ∧ Below w.heap.size w w6) := Lib.hid ⟨hi6, below_of_grown HBb.out hg6 HBb.out.size hpb⟩
          clear hi6 hg6
          go_wp2
          go_roundw
          case rel => exact ⟨k + 1, by omega, by go_num, HF6⟩
          case measure => first | omega | (simp [intOf]; omega)
        · rcases Int.lt_or_le 4611686018427387904 z with hzt | hzt
          · have HN0 := Lib.hid (HKey.out 4611686018427387904 (by unfold clipN top; omega))
            go_wp2_with fail
            refine HN0.out.mono ?_
            rintro e w6 ⟨rfl, hi6, hg6⟩
            have HF6 : Hid (InSt p (numsOf (zs.drop (k + 1)) ++ textB t) 0 w6 ∧ Below w.heap.size w w6) := Lib.hid ⟨hi6, below_of_grown HBb.out hg6 HBb.out.size hpb⟩
            clear hi6 hg6
            go_wp2
            go_roundw
            case rel => exact ⟨k + 1, by omega, by go_num, HF6⟩
            case measure => first | omega | (simp [intOf]; omega)
          · have HN0 := Lib.hid (HKey.out z (by unfold clipN top; omega))
            go_wp2_with fail
            refine HN0.out.mono ?_
            rintro e w6 ⟨rfl, hi6, hg6⟩
            have HF6 : Hid (InSt p (numsOf (zs.drop (k + 1)) ++ textB t) 0 w6 ∧ Below w.heap.size w w6) := Lib.hid ⟨hi6, below_of_grown HBb.out hg6 HBb.out.size hpb⟩
            clear hi6 hg6
            go_wp2
            all_goals go_roundw
            case rel => exact ⟨k + 1, by omega, by go_num, HF6⟩
            case measure => first | omega | (simp [intOf]; omega)
      · obtain rfl : k = K := by omega
        obtain ⟨hi, hB⟩ := hF.out
        rw [List.drop_of_length_le (by rw [HZ.out]; exact Nat.le_refl _)] at hi
        have ht := intext_any p _ 0 wr hi
        rw [show numsOf [] ++ textB t = textB t from rfl, HTx.out] at ht
        have HTt := Lib.hid ht
        have HBb := Lib.hid hB
        clear hF hi hB ht
        go_wp2_with fail
        refine HTt.out.mono ?_
        rintro e w6 ⟨u, rfl, hul, hi6, hg6⟩
        have e1 := beq_lists hul
        have HI6 := Lib.hid hi6
        have HB6 : Hid (Below w.heap.size w w6) := Lib.hid (below_of_grown HBb.out hg6 HBb.out.size hpb)
        clear hul hi6 hg6
        go_wp2_with fail
        refine (end_any _ _ _ _ HI6.out).mono ?_
        rintro e w' ⟨rfl, rfl⟩
        go_wp2_with fail
        go_ret
        exact ⟨rfl, HB6.out⟩

namespace NumBackDone
open Go.ChangeShapes Go.WideShapes Go.ChangeAt Go.RowKit
open Go.ChangeMaps (open_string shut_string)
theorem own : ownKnob Try.prog.godebug = none := by kernel_rfl
theorem laidOut : laidOutB Try.prog = true := by kernel_rfl
set_option maxRecDepth 100000 in
theorem lifted (os : Os) (started : os.Started) (H : Type) (enc : TypeId × Value → H) :
    ReturnsInHanded {} Try.checked os 5 .any (Rows.numBackSpec.pre6 enc Try.prog Try.f5 Rows.numBackRow.domain false) (Rows.numBackSpec.post enc Try.prog Try.f5 false true false false) := by
  refine returnsInHanded_of_change (C := Try.checked) own started (by kernel_rfl) Try.func5
    (ChangeSpec.witness6 (enc := enc) (C := Try.checked) false ⟨#[], #[.slice none 0 0, .string ⟨#[]⟩], []⟩ 8 (by kernel_rfl) (by kernel_rfl) (by kernel_rfl) (by kernel_rfl)) ?_
  intro W base args ds gs before hval0 hW hcnd _
  have hval : ∀ (j : Nat) t v, Try.f5.params[j]? = some t → args[j]? = some v → Value.okWide Try.prog W .any base t v := hval0
  have hW' := hW
  obtain ⟨p, q, hA0, hV, rfl, hfz, hnd⟩ := hW
  have hA : DataW.TrodAll enc Try.prog W 0 (fun _ => true) true Try.f5.params.toList args.toList ds p := hA0
  rw [Try.params5] at hA hval
  obtain ⟨v0, vs0, d0, ds0, p0, q0, hargs, rfl, rfl, h0, r0⟩ := trodAll_cons hA
  obtain ⟨v1, vs1, d1, ds1, p1, q1, rfl, rfl, rfl, h1, r1⟩ := trodAll_cons r0
  obtain ⟨rfl, rfl, rfl⟩ := trodAll_nil r1
  obtain rfl : args = #[v0, v1] := by cases args; simp_all
  obtain ⟨rfl, rfl⟩ := trodVars_none hV
  obtain ⟨a0, len0, cap0, rfl⟩ := okWide_slice Try.underlying53 (hval 0 53 v0 rfl rfl)
  have k0 := h0
  have lt0 : ∀ x ∈ p0, x.block < W.heap.size := by obtain ⟨m, hm⟩ := k0; exact DataW.trod_lt m _ _ _ hm
  obtain ⟨s1, rfl, rfl, rfl, w1⟩ := open_string Try.underlying9 (hval 1 9 v1 rfl rfl) h1
  clear hA0 hval0
  have hs1 : (s1.size : Int) ≤ 9223372036854775807 := by unfold maxLen at w1; omega
  have hopen : ∃ (K : Nat) (L : Value) (zs : List Int), min (len0 : Int) 30 = (K : Int) ∧ zs.length = K ∧ (K : Int) ≤ 30 ∧ (∀ W', (Instr.slice 53 (.slice a0 len0 cap0) none (some (.int .i64 (K : Int))) none).run Try.prog W' = .ok L W') ∧ ((zs = [] ∧ ∃ a' c, L = .slice a' 0 c) ∨ (∃ b off c, L = .slice (some ⟨b, off, none⟩) K c ∧ b < W.heap.size ∧ Ints W b off zs)) := by
    obtain ⟨fuel, hf⟩ := h0
    have hul : Try.prog.underlying 53 = some (.slice (Try.prog.elem 53)) := by kernel_rfl
    have hsz : ∀ W', (sizeOf (Try.prog.elem 53)).run Try.prog W' = .ok 1 W' := fun W' => by
      obtain ⟨i, hi⟩ := Option.isSome_iff_exists.1 (by kernel_rfl : (Try.prog.info? (Try.prog.elem 53)).isSome = true)
      have h := run_sizeOf' W' hi
      rwa [(by kernel_rfl : Try.prog.cellsOf (Try.prog.elem 53) = 1)] at h
    have hrun : ∀ (a : Option Addr) (l c K : Nat) (h : K ≤ c) (W' : World), (Instr.slice 53 (.slice a l c) none (some (.int .i64 (K : Int))) none).run Try.prog W' = .ok (sliced a 0 K c 1) W' := fun a l c K h W' => by
      rw [run_slice_h _ _ _ _ _ hul _ _ (by omega) (by omega), hsz]
      rfl
    rcases open_ints Try.underlying53 Try.underlying3 (by kernel_rfl) hf with ⟨hcs, _⟩ | ⟨x, l, c, zs, hcs, _, hlc, hm, hz, _, hcell, hws⟩
    · simp [Value.cells] at hcs
      obtain ⟨rfl, rfl, rfl⟩ := hcs
      exact ⟨0, .slice none 0 0, [], by omega, rfl, by decide, fun W' => hrun none 0 0 0 (Nat.le_refl _) W', .inl ⟨rfl, none, 0, rfl⟩⟩
    · simp [Value.cells] at hcs
      obtain ⟨rfl, rfl, rfl⟩ := hcs
      by_cases hl0 : len0 = 0
      · subst hl0
        exact ⟨0, _, [], by omega, rfl, by decide, fun W' => hrun _ 0 cap0 0 (Nat.zero_le _) W', .inl ⟨rfl, _, _, rfl⟩⟩
      · simp at hz
        obtain ⟨b, off, spot⟩ := x
        have hc0 := hcell 0 (by omega)
        have hspot : spot = none := by simpa [Addr.add] using World.cell?_spot hc0
        subst hspot
        have hS : ∀ i, i < zs.length → W.cell? ⟨b, off + i, none⟩ = some (.int .i64 (zs.getD i 0)) := fun i hi => by
          have hc := hcell i hi
          have hadd : (⟨b, off, none⟩ : Addr).add i = ⟨b, off + i, none⟩ := by unfold Addr.add; split <;> simp_all
          rwa [hadd] at hc
        obtain ⟨K, hK⟩ : ∃ K, min len0 30 = K := ⟨_, rfl⟩
        have hKl : K ≤ len0 := by omega
        refine ⟨K, _, zs.take K, by omega, by simp; omega, by omega, fun W' => hrun _ len0 cap0 K (by omega) W', .inr ⟨b, off, cap0, ?_, World.block_lt_of_cell? W _ hc0, fun i hi => ?_⟩⟩
        · have hc0' : ¬ cap0 = 0 := by omega
          simp [sliced, Addr.add, hc0']
        · have hi' : i < K := by simp at hi; omega
          have := hS i (by omega)
          simpa [List.getElem?_take, hi'] using this
  obtain ⟨K, L, zs, hK, hz, hK30, hsl, hL⟩ := hopen
  refine (back_walk a0 len0 cap0 K L zs s1 hs1 W hK hz hK30 hsl hL).mono fun e W' ⟨he, bel⟩ => ?_
  subst he
  exact ⟨_, rfl, _, _, _, [], _, [], hW', trodAll_mk1 (shut_bool Try.underlying4 _), (trodAll_cons_mk (Below.trod laidOut (by kernel_rfl) (of_decide_eq_true (by kernel_rfl)) k0 bel lt0) (trodAll_cons_mk (shut_string Try.underlying9 w1) trodAll_mk0)), rfl, bel.frame _, fun h => by cases h⟩

theorem over : Rows.numBackRow.holds Try.pinned (OpenSpec.ofChange Rows.numBackSpec) :=
  OpenClaim.holds_of_wide 5 Try.f5 rfl rfl rfl rfl rfl rfl rfl ⟨rfl, rfl, rfl, rfl, rfl⟩ rfl rfl rfl rfl rfl (by kernel_rfl) Try.func5 (by kernel_rfl)
    (of_decide_eq_true (by kernel_rfl)) (by unfold Func.isWrapper; first | (rw [if_pos (by decide +kernel)]; kernel_rfl) | (rw [if_neg (by decide +kernel)]; exact ⟨rfl, rfl⟩))
    (fun os started H enc _ => lifted os started H enc)
end NumBackDone
theorem NumBack_holds : Rows.NumBackSaid := NumBackDone.over
#print axioms NumBack_holds
end Go.Proofs.Ythhaefcglhghfaa
