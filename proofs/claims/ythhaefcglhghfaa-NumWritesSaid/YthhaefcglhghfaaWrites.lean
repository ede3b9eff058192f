/- NumWrites: what is written is just the document's bytes. No condition. -/
import Derived.Test.YthhaefcglhghfaaRefw
import Derived.Lib.Builder
namespace Go.Proofs.Ythhaefcglhghfaa
open Go.RowKit

theorem neq_self (B : Nat) (w : World) : (binOp .neq 30 (.pointer (some ⟨B, 0, none⟩)) (.pointer (some ⟨B, 0, none⟩))).run Try.prog w = .ok (.bool false) w := by
  obtain ⟨j, hj⟩ := Option.isSome_iff_exists.1 (by kernel_rfl : (Try.prog.info? 26).isSome = true)
  exact Lib.run_neq_ptr_same w _ Try.underlying30 hj
theorem OutAt.below {base B : Nat} {bs : List UInt8} {w w' : World} (h : OutAt base B bs w) (hb : Below w.heap.size w w') : OutAt base B bs w' := by
  obtain ⟨v, h1, h2⟩ := h
  have hg := grownBy_of_below hb
  refine ⟨v, h1.kept hg (by simp), h2.kept hg ?_⟩
  rcases h2.2 with ⟨rfl, _⟩ | ⟨g, cap, cur, rfl, _⟩
  · exact .inl rfl
  · exact .inr (by simp [Value.ownBlock])
/-- The document's bytes of a number. -/
def numT (n : Int) : ByteArray := ⟨(digs (clipN n)).toArray⟩
theorem numT_list (n : Int) : (numT n).data.toList = digs (clipN n) := by simp [numT]
theorem numT_size (n : Int) : (numT n).size = (digs (clipN n)).length := by rw [← numT_list]; rfl
theorem refnum_eq (n : Int) (w : World) : Calls Try.prog 12 #[.int .i64 n] w fun e w' => e = .returned (.string (numT n)) ∧ Below w.heap.size w w' :=
  (refnum_any n w).mono fun _ _ ⟨t, h1, h2, h3⟩ => ⟨by rw [h1, show t = numT n from ByteArray.ext (Array.toList_inj.1 (h2.trans (numT_list n).symm))], h3⟩
theorem digs_seven : digs (clipN 7) = [7] := by rw [show clipN 7 = 7 from by decide, digs_small (by decide)]; rfl
theorem text_empty : textB ⟨#[]⟩ = [0] := by
  unfold textB
  rw [show clipN (((⟨#[]⟩ : ByteArray).size : Nat) : Int) = 0 from by decide, digs_small (by decide)]; rfl
set_option maxRecDepth 100000 in
set_option maxHeartbeats 8000000 in
theorem writes_walk (a : Option Addr) (len cap : Nat) (al : List ActOf) (w : World)
    (hA : len = 0 ∨ ∃ b off, a = some ⟨b, off, none⟩ ∧ len ≤ al.length ∧ b < w.heap.size ∧ Acts w b off al ∧ (∀ i, (((al.getD i default).text.size : Nat) : Int) ≤ 9223372036854775807)) :
    Calls Try.prog 3 #[.slice a len cap] w fun e w' => e = .returned (.bool true) ∧ Below w.heap.size w w' := by
  have HA := Lib.hid hA
  clear hA
  go_enter Try.func3, Try.ntmps3
  go_wp2_with fail
  refine (awake_any _).mono ?_
  rintro e w1 ⟨rfl, hb1⟩
  have HB1 := Lib.hid hb1
  clear hb1
  go_wp2_with fail
  have hs1 := HB1.out.size
  obtain ⟨B, hB⟩ : ∃ B, w1.heap.size = B := ⟨_, rfl⟩
  obtain ⟨w3, hw3⟩ : ∃ w3, w1.alloc (.cells #[.slice none 0 0] 26) = w3 := ⟨_, rfl⟩
  have HF3 : Hid (OutAt B B [] w3 ∧ Below w.heap.size w w3) := Lib.hid (by
    rw [← hw3, ← hB]
    exact ⟨out_new _ _, HB1.out.alloc hs1 _⟩)
  have hBb : w.heap.size ≤ B := by omega
  rw [hw3, hB]
  clear hw3 hB hs1
  rcases HA.out with rfl | ⟨b, off, rfl, hlen, hb, hacts, hsz⟩
  · go_loopw [5] (fun i wr => i = .int .i64 0 ∧ Hid (Below w.heap.size w wr)) (fun _ _ => 0)
    case atStart => exact ⟨rfl, Lib.hid HF3.out.2⟩
    case round =>
      obtain ⟨rfl, hF⟩ := hrel
      go_wp2
      go_ret
      exact ⟨rfl, hF.out⟩
  · have HC := Lib.hid hacts
    have HZ := Lib.hid hsz
    clear hacts hsz
    go_loopw [4, 5] (fun d i wr => ∃ k : Nat, ∃ D : ByteArray, i = .int .i64 k ∧ d = .string D ∧ (k : Int) ≤ len ∧ (k : Int) ≤ 20 ∧ (D.size : Int) ≤ 420 * k ∧ Hid (OutAt B B D.data.toList wr ∧ Below w.heap.size w wr)) (fun _ i _ => 20 - (intOf i).toNat)
    case atStart => exact ⟨0, ⟨#[]⟩, rfl, rfl, by omega, by omega, by decide, Lib.hid ⟨HF3.out.1, HF3.out.2⟩⟩
    case round =>
      obtain ⟨k, D, rfl, rfl, hkl, hk20, hDs, hF⟩ := hrel
      by_cases hlt : (k : Int) < len ∧ (k : Int) < 20
      · obtain ⟨hlt, hlt2⟩ := hlt
        obtain ⟨hO, hB⟩ := hF.out
        have hlk : k < al.length := by omega
        obtain ⟨c1, c2, c3⟩ := HC.out k hlk
        obtain ⟨A, hAk⟩ : ∃ A, al.getD k default = A := ⟨_, rfl⟩
        have hAz := HZ.out k
        rw [hAk] at c1 c2 c3 hAz
        have c1 := (hB.cell (p := ⟨b, off + k * 3, none⟩) hb).trans c1
        have c2 := (hB.cell (p := ⟨b, off + k * 3 + 1, none⟩) hb).trans c2
        have c3 := (hB.cell (p := ⟨b, off + k * 3 + 2, none⟩) hb).trans c3
        have HO := Lib.hid hO
        have HB := Lib.hid hB
        clear hF hO hB hAk
        obtain ⟨kd, an, tx⟩ := A
        go_wp2_with fail
        refine (cut_any tx 200 hAz (by decide) _).mono ?_
        rintro en w' ⟨⟨s, rfl, hss, _⟩, rfl⟩
        have hBlt : B < wr.heap.size := HO.out.lt
        obtain ⟨P6, hP6⟩ : ∃ P6, wr.heap.size = P6 := ⟨_, rfl⟩
        obtain ⟨wa, hwa⟩ : ∃ wa, wr.alloc (.cells #[.int .i64 kd, .int .i64 an, .string tx] 28) = wa := ⟨_, rfl⟩
        have hblk : wa.heap[P6]? = some (.cells #[.int .i64 kd, .int .i64 an, .string tx] 28 (0, 0)) := by rw [← hwa, ← hP6]; exact World.alloc_heap_new _ _
        have HOa : Hid (OutAt B B D.data.toList wa) := Lib.hid (by rw [← hwa]; exact HO.out.alloc _)
        have HBa : Hid (Below w.heap.size w wa) := Lib.hid (by rw [← hwa]; exact HB.out.alloc HB.out.size _)
        have hP6B : P6 ≠ B := by omega
        have hBwa : B ≤ wa.heap.size := by rw [← hwa]; simp; omega
        have a0 : wa.cell? ⟨P6, 0, none⟩ = some (.int .i64 kd) := by simp [World.cell?, hblk]
        have a1 : wa.cell? ⟨P6, 1, none⟩ = some (.int .i64 an) := by simp [World.cell?, hblk]
        have HBlk := Lib.hid hblk
        have HBW := Lib.hid hBwa
        rw [hP6, hwa]
        clear hP6 hwa hblk hBlt hBwa
        by_cases hk0 : kd = 0
        · subst hk0
          go_wp2_with fail
          refine (num_two B B an 7 D.data.toList wa (by have : D.data.toList.length = D.size := rfl; omega) (Nat.le_refl _) HOa.out HBW.out).mono ?_
          rintro e w5 ⟨rfl, hO5, hB5, hK5⟩
          rw [digs_seven] at hO5
          have hblk5 : w5.heap[P6]? = some (.cells #[.int .i64 0, .int .i64 an, .string tx] 28 (0, 0)) := hK5.block _ _ ((Below.heap_alloc _ _ _ (Array.getElem?_eq_some_iff.1 HBlk.out).1).trans HBlk.out) hP6B (fun cur fr e => by cases e)
          have hB5' : Below w.heap.size w w5 := (HBa.out.alloc HBa.out.size _).trans (hB5.mono hBb)
          have b1 : w5.cell? ⟨P6, 1, none⟩ = some (.int .i64 an) := by simp [World.cell?, hblk5]
          have HO5 := Lib.hid hO5
          have HB5 := Lib.hid hB5'
          have HBlk5 := Lib.hid hblk5
          have hN := numT_size an
          have hN9 := digs_nine (clipN an) (clipN_le an)
          obtain ⟨N, hNN⟩ : ∃ N, numT an = N := ⟨_, rfl⟩
          have HNl : Hid (N.data.toList = digs (clipN an)) := Lib.hid (by rw [← hNN]; exact numT_list an)
          have H12 : Hid (∀ w, Calls Try.prog 12 #[.int .i64 an] w fun e w' => e = .returned (.string N) ∧ Below w.heap.size w w') := Lib.hid (by rw [← hNN]; exact refnum_eq an)
          have H13 : Hid (∀ w, Calls Try.prog 13 #[.int .i64 an] w fun e w' => e = .returned (.int .i64 (N.size : Int)) ∧ Below w.heap.size w w') := Lib.hid (by rw [← hNN, numT_size]; exact size_any an)
          rw [hNN] at hN
          have hNs : (N.size : Int) ≤ 9 := by omega
          clear hO5 hB5 hB5' hK5 hblk5 hN hN9 hNN
          go_wp2_with fail
          refine (H12.out _).mono ?_
          rintro e w6 ⟨rfl, hb6⟩
          have d1 : w6.cell? ⟨P6, 1, none⟩ = some (.int .i64 an) := (hb6.cell (p := ⟨P6, 1, none⟩) (Array.getElem?_eq_some_iff.1 HBlk5.out).1).trans b1
          have HO6 := Lib.hid (HO5.out.below hb6)
          have HB6 : Hid (Below w.heap.size w w6) := Lib.hid (HB5.out.trans (hb6.mono HB5.out.size))
          have HP6 : Hid (P6 < w6.heap.size) := Lib.hid (World.block_lt_of_cell? w6 _ d1)
          clear hb6 b1
          go_wp2_with fail
          have k0 := fun d os => cell_regrown d1 d os
          refine wp_region_quiet_below (by kernel_rfl) (by kernel_rfl) ?_
          repeat (go_big_quiet_step (first | exact Calls.regrown_of (H12.out _) | exact Calls.regrown_of (H13.out _)))
          refine wpQuiet_nil ?_
          intro _ hw'
          obtain ⟨⟨dq, osq⟩, hw''⟩ := hw'
          have hb7 := below_regrown w6 dq osq
          rw [← hw''] at hb7
          rename_i w7
          have HO7 := Lib.hid (HO6.out.below hb7)
          have HB7 : Hid (Below w.heap.size w w7) := Lib.hid (HB6.out.trans (hb7.mono HB6.out.size))
          clear hb7 hw'' k0 d1
          go_wp2_with fail
          obtain ⟨D2, hD2⟩ : ∃ D2 : ByteArray, D ++ (N ++ ⟨#[7]⟩) = D2 := ⟨_, rfl⟩
          have hl2 : D2.data.toList = D.data.toList ++ (digs (clipN an) ++ [7]) := by rw [← hD2]; rw [append_list, append_list, HNl.out]
          have hsz2 : (D2.size : Int) ≤ 420 * ((k + 1 : Nat) : Int) := by rw [← hD2]; simp only [ByteArray.size_append]; have h0 : ((⟨#[7]⟩ : ByteArray).size) = 1 := rfl; have h1 : ((⟨#[0]⟩ : ByteArray).size) = 1 := rfl; omega
          rw [hD2]
          have HO8 : Hid (OutAt B B D2.data.toList w7) := Lib.hid (by rw [hl2]; exact HO7.out)
          clear hD2 hl2
          go_wp2_with fail
          rw [neq_self]
          go_wp2_with fail
          refine (bytes_any B B _ _ HO8.out).mono ?_
          rintro e w' ⟨he, rfl⟩
          rw [show (⟨D2.data.toList.toArray⟩ : ByteArray) = D2 from ByteArray.ext (by simp)] at he
          subst he
          go_wp2
          go_roundw
          case rel => exact ⟨k + 1, D2, by go_num, rfl, by omega, by omega, hsz2, Lib.hid ⟨HO8.out, HB7.out⟩⟩
          case measure => first | omega | (simp [intOf]; omega)
        · by_cases hk1 : kd = 1
          · subst hk1
            go_wp2_with fail
            refine (text_two B B s ⟨#[]⟩ D.data.toList wa (by have : D.data.toList.length = D.size := rfl; have h0 : ((⟨#[]⟩ : ByteArray).size) = 0 := rfl; omega) (Nat.le_refl _) HOa.out HBW.out).mono ?_
            rintro e w5 ⟨rfl, hO5, hB5, hK5⟩
            rw [text_empty] at hO5
            have HO5 := Lib.hid hO5
            have HB5 : Hid (Below w.heap.size w w5) := Lib.hid ((HBa.out.alloc HBa.out.size _).trans (hB5.mono hBb))
            have H15 := Lib.hid (reftextw_any s (by omega) w5)
            clear hO5 hB5 hK5
            go_wp2_with fail
            refine H15.out.mono ?_
            rintro e w7 ⟨N, rfl, hN, hb7⟩
            have hNs : (N.size : Int) ≤ 209 := by
              have h := textB_len s
              rw [← hN] at h
              have h' : N.size ≤ 9 + s.size := h
              omega
            have HNl := Lib.hid hN
            have HO7 := Lib.hid (HO5.out.below hb7)
            have HB7 : Hid (Below w.heap.size w w7) := Lib.hid (HB5.out.trans (hb7.mono HB5.out.size))
            clear hN hb7
            go_wp2_with fail
            obtain ⟨D2, hD2⟩ : ∃ D2 : ByteArray, D ++ (N ++ ⟨#[0]⟩) = D2 := ⟨_, rfl⟩
            have hl2 : D2.data.toList = D.data.toList ++ (textB s ++ [0]) := by rw [← hD2]; rw [append_list, append_list, HNl.out]
            have hsz2 : (D2.size : Int) ≤ 420 * ((k + 1 : Nat) : Int) := by rw [← hD2]; simp only [ByteArray.size_append]; have h0 : ((⟨#[7]⟩ : ByteArray).size) = 1 := rfl; have h1 : ((⟨#[0]⟩ : ByteArray).size) = 1 := rfl; omega
            rw [hD2]
            have HO8 : Hid (OutAt B B D2.data.toList w7) := Lib.hid (by rw [hl2]; exact HO7.out)
            clear hD2 hl2
            go_wp2_with fail
            rw [neq_self]
            go_wp2_with fail
            refine (bytes_any B B _ _ HO8.out).mono ?_
            rintro e w' ⟨he, rfl⟩
            rw [show (⟨D2.data.toList.toArray⟩ : ByteArray) = D2 from ByteArray.ext (by simp)] at he
            subst he
            go_wp2
            go_roundw
            case rel => exact ⟨k + 1, D2, by go_num, rfl, by omega, by omega, hsz2, Lib.hid ⟨HO8.out, HB7.out⟩⟩
            case measure => first | omega | (simp [intOf]; omega)
          · have e0 : (kd == 0) = false := by rw [beq_eq_false_iff_ne]; exact hk0
            have e1 : (kd == 1) = false := by rw [beq_eq_false_iff_ne]; exact hk1
            go_wp2_with fail
            refine (raw_two B B s s D.data.toList wa (by have : D.data.toList.length = D.size := rfl; omega) (Nat.le_refl _) HOa.out HBW.out).mono ?_
            rintro e w7 ⟨rfl, hO5, hB5, hK5⟩
            have HO7 := Lib.hid hO5
            have HB7 : Hid (Below w.heap.size w w7) := Lib.hid ((HBa.out.alloc HBa.out.size _).trans (hB5.mono hBb))
            clear hO5 hB5 hK5
            go_wp2_with fail
            obtain ⟨D2, hD2⟩ : ∃ D2 : ByteArray, D ++ (s ++ s) = D2 := ⟨_, rfl⟩
            have hl2 : D2.data.toList = D.data.toList ++ (s.data.toList ++ s.data.toList) := by rw [← hD2]; rw [append_list, append_list]
            have hsz2 : (D2.size : Int) ≤ 420 * ((k + 1 : Nat) : Int) := by rw [← hD2]; simp only [ByteArray.size_append]; have h0 : ((⟨#[7]⟩ : ByteArray).size) = 1 := rfl; have h1 : ((⟨#[0]⟩ : ByteArray).size) = 1 := rfl; omega
            rw [hD2]
            have HO8 : Hid (OutAt B B D2.data.toList w7) := Lib.hid (by rw [hl2]; exact HO7.out)
            clear hD2 hl2
            go_wp2_with fail
            rw [neq_self]
            go_wp2_with fail
            refine (bytes_any B B _ _ HO8.out).mono ?_
            rintro e w' ⟨he, rfl⟩
            rw [show (⟨D2.data.toList.toArray⟩ : ByteArray) = D2 from ByteArray.ext (by simp)] at he
            subst he
            go_wp2
            go_roundw
            case rel => exact ⟨k + 1, D2, by go_num, rfl, by omega, by omega, hsz2, Lib.hid ⟨HO8.out, HB7.out⟩⟩
            case measure => first | omega | (simp [intOf]; omega)
      · go_wp2
        all_goals go_ret
        all_goals exact ⟨rfl, hF.out.2⟩

namespace NumWritesDone
open Go.ChangeShapes Go.WideShapes Go.ChangeAt Go.RowKit
open Go.ChangeMaps (open_string shut_string)
theorem own : ownKnob Try.prog.godebug = none := by kernel_rfl
theorem laidOut : laidOutB Try.prog = true := by kernel_rfl
set_option maxRecDepth 100000 in
theorem lifted (os : Os) (started : os.Started) (H : Type) (enc : TypeId × Value → H) :
    ReturnsInHanded {} Try.checked os 3 .any (Rows.numWritesSpec.pre6 enc Try.prog Try.f3 Rows.numWritesRow.domain false) (Rows.numWritesSpec.post enc Try.prog Try.f3 false true false false) := by
  refine returnsInHanded_of_change (C := Try.checked) own started (by kernel_rfl) Try.func3
    (ChangeSpec.witness6 (enc := enc) (C := Try.checked) false ⟨#[], #[.slice none 0 0], []⟩ 8 (by kernel_rfl) (by kernel_rfl) (by kernel_rfl) (by kernel_rfl)) ?_
  intro W base args ds gs before hval0 hW hcnd _
  have hval : ∀ (j : Nat) t v, Try.f3.params[j]? = some t → args[j]? = some v → Value.okWide Try.prog W .any base t v := hval0
  have hW' := hW
  obtain ⟨p, q, hA0, hV, rfl, hfz, hnd⟩ := hW
  have hA : DataW.TrodAll enc Try.prog W 0 (fun _ => true) true Try.f3.params.toList args.toList ds p := hA0
  rw [Try.params3] at hA hval
  obtain ⟨v0, vs0, d0, ds0, p0, q0, hargs, rfl, rfl, h0, r0⟩ := trodAll_cons hA
  obtain ⟨rfl, rfl, rfl⟩ := trodAll_nil r0
  obtain rfl : args = #[v0] := by cases args; simp_all
  obtain ⟨rfl, rfl⟩ := trodVars_none hV
  obtain ⟨a0, len0, cap0, rfl⟩ := okWide_slice Try.underlying22 (hval 0 22 v0 rfl rfl)
  have k0 := h0
  have lt0 : ∀ x ∈ p0, x.block < W.heap.size := by obtain ⟨m, hm⟩ := k0; exact DataW.trod_lt m _ _ _ hm
  clear hA0 hval0
  have hA : ∃ al : List ActOf, len0 = 0 ∨ ∃ b off, a0 = some ⟨b, off, none⟩ ∧ len0 ≤ al.length ∧ b < W.heap.size ∧ Acts W b off al ∧ (∀ i, (((al.getD i default).text.size : Nat) : Int) ≤ 9223372036854775807) := by
    obtain ⟨fuel, hf⟩ := h0
    rcases open_acts hf with h | ⟨b, off, al, h⟩
    · exact ⟨[], .inl h⟩
    · exact ⟨al, .inr ⟨b, off, h⟩⟩
  obtain ⟨al, hA⟩ := hA
  refine (writes_walk a0 len0 cap0 al W hA).mono fun e W' ⟨he, bel⟩ => ?_
  subst he
  exact ⟨_, rfl, _, _, _, [], _, [], hW', trodAll_mk1 (shut_bool Try.underlying4 _), (trodAll_cons_mk (Below.trod laidOut (by kernel_rfl) (of_decide_eq_true (by kernel_rfl)) k0 bel lt0) trodAll_mk0), rfl, bel.frame _, fun h => by cases h⟩

theorem over : Rows.numWritesRow.holds Try.pinned (OpenSpec.ofChange Rows.numWritesSpec) :=
  OpenClaim.holds_of_wide 3 Try.f3 rfl rfl rfl rfl rfl rfl rfl ⟨rfl, rfl, rfl, rfl, rfl⟩ rfl rfl rfl rfl rfl (by kernel_rfl) Try.func3 (by kernel_rfl)
    (of_decide_eq_true (by kernel_rfl)) (by unfold Func.isWrapper; first | (rw [if_pos (by decide +kernel)]; kernel_rfl) | (rw [if_neg (by decide +kernel)]; exact ⟨rfl, rfl⟩))
    (fun os started H enc _ => lifted os started H enc)
end NumWritesDone
theorem NumWrites_holds : Rows.NumWritesSaid := NumWritesDone.over
#print axioms NumWrites_holds
end Go.Proofs.Ythhaefcglhghfaa
