/- NumTexts: of every list of texts (the first twelve, cut at 150 bytes) what was written, one behind the other, is read. No condition. -/
import Derived.Test.YthhaefcglhghfaaTake
import Derived.SliceStrings
namespace Go.Proofs.Ythhaefcglhghfaa
open Go.RowKit

theorem beq_lists {a b : ByteArray} (h : a.data.toList = b.data.toList) : (a.toList == b.toList) = true := by
  rw [ByteArray.toList_eq, ByteArray.toList_eq, h]; simp
theorem textB_len (s : ByteArray) : (textB s).length ≤ 9 + s.size := by
  have h := digs_nine (clipN s.size) (clipN_le _)
  have hsl : s.data.toList.length = s.size := rfl
  unfold textB
  rw [List.length_append]
  omega
theorem textsOf_len {m : Nat} : ∀ (ts : List ByteArray), (∀ t ∈ ts, (t.size : Int) ≤ m) → (textsOf ts).length ≤ (9 + m) * ts.length
  | [], _ => by simp [textsOf]
  | t :: ts, h => by
    have h1 := textsOf_len ts (fun x hx => h x (List.mem_cons_of_mem _ hx))
    have h2 := textB_len t
    have h3 := h t List.mem_cons_self
    have e : textsOf (t :: ts) = textB t ++ textsOf ts := by simp [textsOf]
    rw [e, List.length_append, List.length_cons, Nat.mul_add, Nat.mul_one]
    omega
theorem textsOf_drop (ts : List ByteArray) (k : Nat) (h : k < ts.length) : textsOf (ts.drop k) = textB (ts.getD k ByteArray.empty) ++ textsOf (ts.drop (k + 1)) := by
  unfold textsOf
  rw [List.drop_eq_getElem_cons h, List.flatMap_cons]
  simp [h]
theorem InSt.grown {p : Nat} {l : List UInt8} {e : Nat} {w w' : World} {row : Option Nat} (h : InSt p l e w) (hg : w.grownBy w' row) (hne : some p ≠ row) : InSt p l e w' := by
  obtain ⟨s, hb, hl, hs⟩ := h
  exact ⟨s, (hg.block p hb.lt hne).trans hb, hl, hs⟩

set_option maxRecDepth 100000 in
set_option maxHeartbeats 2000000 in
theorem texts_walk (v0 : Value) (w : World) (hFew : ∀ w1 : World, Below w.heap.size w w1 → Calls Try.prog 30 #[v0, .int .i64 (12 : Nat), .int .i64 (150 : Nat)] w1 (FewPost 12 150 w1)) :
    Calls Try.prog 8 #[v0] w fun e w' => e = .returned (.bool true) ∧ Below w.heap.size w w' := by
  have HF := Lib.hid hFew
  clear hFew
  go_enter Try.func8, Try.ntmps8
  go_wp2_with fail
  refine (awake_any _).mono ?_
  rintro e w1 ⟨rfl, hb1⟩
  have HB1 := Lib.hid hb1
  clear hb1
  go_wp2_with fail
  refine (HF.out w1 HB1.out).mono ?_
  rintro e w2 ⟨v, ts, rfl, hown, h12, hb2⟩
  have HB2 : Hid (Below w.heap.size w w2) := Lib.hid (HB1.out.trans (hb2.mono HB1.out.size))
  have HZ := Lib.hid hown.2
  have HSp := Lib.hid hown.split
  have hlen := textsOf_len ts hown.2
  have HLen := Lib.hid hlen
  clear hb2 hown hlen
  -- the Out, and what is written
  have hW : Calls Try.prog 14 #[.pointer (some ⟨w2.heap.size, 0, none⟩), v] (w2.alloc (.cells #[.slice none 0 0] 26)) (Wrote w2.heap.size w2.heap.size (textsOf ts) (w2.alloc (.cells #[.slice none 0 0] 26))) := by
    rcases HSp.out with ⟨rfl, rfl⟩ | ⟨g, cap, cur, rfl, hg, _, hst⟩
    · exact text_zero _ _ _ _ [] _ (out_new _ _)
    · have hglt : g < w2.heap.size := (Array.getElem?_eq_some_iff.1 hg).1
      have hg' : (w2.alloc (.cells #[.slice none 0 0] 26)).heap[g]? = some (.cells cur 9 (0, 0)) := (Below.heap_alloc _ _ _ hglt).trans hg
      have h := text_any w2.heap.size w2.heap.size g 0 cap ts [] (w2.alloc (.cells #[.slice none 0 0] 26)) (by omega) (fun k hk => by
          have h1 := textsOf_len (m := 150) (ts.take k) (fun x hx => HZ.out x (List.mem_of_mem_take hx))
          have h2 : (ts.take k).length ≤ 12 := by simp; omega
          have h3 : (9 + 150) * (ts.take k).length ≤ (9 + 150) * 12 := Nat.mul_le_mul_left _ h2
          simp only [List.nil_append]
          omega) (Nat.le_refl _) (out_new _ _) (fun w' _ hk i hi => by
          rw [cell_keeps hk hg' (by decide) (by omega)]
          have hc := hst i hi
          rw [World.cell?_alloc_past _ _ _ hglt]
          exact hc) (by simp)
      simpa using h
  have HW := Lib.hid hW
  clear hW
  go_wp2_with fail
  refine HW.out.mono ?_
  rintro e w3 ⟨rfl, hO3, hB3, hK3⟩
  have hs2 := HB2.out.size
  have HB3 : Hid (Below w.heap.size w w3) := Lib.hid ((HB2.out.alloc hs2 _).trans (hB3.mono hs2))
  have HB23 : Hid (Below w2.heap.size w2 w3) := Lib.hid (((Below.refl _ _).alloc (Nat.le_refl _) _).trans hB3)
  have HO3 := Lib.hid hO3
  have HSt3 : Hid (v = .slice none 0 0 ∧ ts = [] ∨ ∃ g cap, v = .slice (some ⟨g, 0, none⟩) ts.length cap ∧ g < w2.heap.size ∧ Strs w3 g 0 ts) := Lib.hid (by
    rcases HSp.out with ⟨q1, q2⟩ | ⟨g, cap, cur, q1, hg, _, hst⟩
    · exact .inl ⟨q1, q2⟩
    · have hglt : g < w2.heap.size := (Array.getElem?_eq_some_iff.1 hg).1
      exact .inr ⟨g, cap, q1, hglt, fun i hi => (HB23.out.cell (p := ⟨g, 0 + i, none⟩) hglt).trans (hst i hi)⟩)
  have hs23 := HB23.out.size
  clear hO3 hB3 hK3 HSp HW
  go_wp2_with fail
  refine (bytes_any _ _ _ _ HO3.out).mono ?_
  rintro e w' ⟨rfl, rfl⟩
  obtain ⟨D, hD⟩ : ∃ D : ByteArray, (⟨(textsOf ts).toArray⟩ : ByteArray) = D := ⟨_, rfl⟩
  have hDl : D.data.toList = textsOf ts := by rw [← hD]
  have hDs : (D.size : Int) ≤ 2000 := by
    have h1 : D.size = (textsOf ts).length := by rw [← hDl]; rfl
    have h2 := HLen.out
    have h3 : (9 + 150) * ts.length ≤ (9 + 150) * 12 := Nat.mul_le_mul_left _ (by omega)
    omega
  rw [hD]
  have HDl := Lib.hid hDl
  clear hD hDl
  go_wp2_with fail
  refine (of_any D (by omega) _).mono ?_
  rintro e w4 ⟨rfl, hi4, hw4⟩
  rw [HDl.out] at hi4
  have HI4 := Lib.hid hi4
  have HB4 : Hid (Below w.heap.size w w4) := Lib.hid (by rw [hw4]; exact HB3.out.alloc HB3.out.size _)
  have HB24 : Hid (Below w2.heap.size w2 w4) := Lib.hid (by rw [hw4]; exact HB23.out.alloc HB23.out.size _)
  have HSt4 : Hid (v = .slice none 0 0 ∧ ts = [] ∨ ∃ g cap, v = .slice (some ⟨g, 0, none⟩) ts.length cap ∧ g < w2.heap.size ∧ Strs w4 g 0 ts) := Lib.hid (by
    rcases HSt3.out with h | ⟨g, cap, q1, hglt, hst⟩
    · exact .inl h
    · refine .inr ⟨g, cap, q1, hglt, fun i hi => ?_⟩
      rw [hw4, World.cell?_alloc_past _ _ _ (by omega)]
      exact hst i hi)
  obtain ⟨p, hp⟩ : ∃ p, w3.heap.size = p := ⟨_, rfl⟩
  have hp2 : w2.heap.size ≤ p := by omega
  have hpb : w.heap.size ≤ p := by omega
  rw [hp] at HI4 ⊢
  clear hi4 hw4 hp HSt3
  rcases HSt4.out with ⟨rfl, rfl⟩ | ⟨g, cap, rfl, hglt, hst⟩
  · clear HSt4
    go_wp2_with fail
    go_loop [19] (fun i => i = .int .i64 0) (fun _ => 0)
    case atStart => rfl
    case round =>
      subst hrel
      go_wp2_with fail
      refine (end_any _ _ _ _ HI4.out).mono ?_
      rintro e w' ⟨rfl, rfl⟩
      go_wp2_with fail
      go_ret
      exact ⟨rfl, HB4.out⟩
  · obtain ⟨n, hn⟩ : ∃ n, ts.length = n := ⟨_, rfl⟩
    have HN := Lib.hid hn
    have HC := Lib.hid hst
    rw [hn] at h12 ⊢
    clear hn hst HSt4
    go_wp2_with fail
    go_loopw [6, 19] (fun _ i wr => ∃ k : Nat, k ≤ n ∧ i = .int .i64 k ∧ Hid (InSt p (textsOf (ts.drop k)) 0 wr ∧ Below w.heap.size w wr ∧ w4.grownBy wr (some p))) (fun _ i _ => n - (intOf i).toNat)
    case atStart => exact ⟨0, by omega, rfl, Lib.hid ⟨by simpa using HI4.out, HB4.out, grown_refl _ _⟩⟩
    case round =>
      obtain ⟨k, hk, rfl, hF⟩ := hrel
      by_cases hlt : k < n
      · obtain ⟨hi, hB, hG⟩ := hF.out
        have hlk : k < ts.length := by rw [HN.out]; exact hlt
        have hc : wr.cell? ⟨g, k, none⟩ = some (.string (ts.getD k ByteArray.empty)) := by
          have h := HC.out k hlk
          rw [Nat.zero_add] at h
          exact hG.cell h (by intro e; simp at e; omega)
        obtain ⟨s, hs⟩ : ∃ s, ts.getD k ByteArray.empty = s := ⟨_, rfl⟩
        have hsz : (s.size : Int) ≤ (150 : Nat) := by rw [← hs]; exact size_getD HZ.out k
        rw [textsOf_drop ts k hlk, hs] at hi
        rw [hs] at hc
        have ht := intext_any p _ 0 wr hi
        rw [textS_back s _ (by omega)] at ht
        have HT := Lib.hid ht
        have HB := Lib.hid hB
        have HG := Lib.hid hG
        clear hF hi hB hG hs ht
        go_wp2_with fail
        refine HT.out.mono ?_
        rintro e w5 ⟨t, rfl, htl, hi5, hg5⟩
        have e1 := beq_lists htl
        have HF5 : Hid (InSt p (textsOf (ts.drop (k + 1))) 0 w5 ∧ Below w.heap.size w w5 ∧ w4.grownBy w5 (some p)) := Lib.hid ⟨hi5, below_of_grown HB.out hg5 HB.out.size hpb, grown_trans HG.out hg5⟩
        clear htl hi5 hg5
        go_wp2
        go_roundw
        case rel => exact ⟨k + 1, by omega, by go_num, HF5⟩
        case measure => simp [intOf]; omega
      · obtain rfl : k = n := by omega
        obtain ⟨hi, hB, hG⟩ := hF.out
        rw [List.drop_of_length_le (by rw [HN.out]; exact Nat.le_refl _)] at hi
        have HI := Lib.hid hi
        have HB := Lib.hid hB
        clear hF hi hB hG
        go_wp2_with fail
        refine (end_any _ _ _ _ HI.out).mono ?_
        rintro e w' ⟨rfl, rfl⟩
        go_wp2_with fail
        go_ret
        exact ⟨rfl, HB.out⟩
/-- From the argument's reading to the walk's hypothesis. -/
theorem strs_below {w w1 : World} {b off : Nat} {ss : List ByteArray} (h : Strs w b off ss) (hb : Below w.heap.size w w1) : Strs w1 b off ss := fun i hi => by
  have hc := h i hi
  exact (hb.cell (p := ⟨b, off + i, none⟩) (World.block_lt_of_cell? w _ hc)).trans hc

namespace NumTextsDone
open Go.ChangeShapes Go.WideShapes Go.ChangeAt Go.RowKit
open Go.ChangeMaps (open_string shut_string)
theorem own : ownKnob Try.prog.godebug = none := by kernel_rfl
theorem laidOut : laidOutB Try.prog = true := by kernel_rfl
set_option maxRecDepth 100000 in
theorem lifted (os : Os) (started : os.Started) (H : Type) (enc : TypeId × Value → H) :
    ReturnsInHanded {} Try.checked os 8 .any (Rows.numTextsSpec.pre6 enc Try.prog Try.f8 Rows.numTextsRow.domain false) (Rows.numTextsSpec.post enc Try.prog Try.f8 false true false false) := by
  refine returnsInHanded_of_change (C := Try.checked) own started (by kernel_rfl) Try.func8
    (ChangeSpec.witness6 (enc := enc) (C := Try.checked) false ⟨#[], #[.slice none 0 0], []⟩ 8 (by kernel_rfl) (by kernel_rfl) (by kernel_rfl) (by kernel_rfl)) ?_
  intro W base args ds gs before hval0 hW hcnd _
  have hval : ∀ (j : Nat) t v, Try.f8.params[j]? = some t → args[j]? = some v → Value.okWide Try.prog W .any base t v := hval0
  have hW' := hW
  obtain ⟨p, q, hA0, hV, rfl, hfz, hnd⟩ := hW
  have hA : DataW.TrodAll enc Try.prog W 0 (fun _ => true) true Try.f8.params.toList args.toList ds p := hA0
  rw [Try.params8] at hA hval
  obtain ⟨v0, vs0, d0, ds0, p0, q0, hargs, rfl, rfl, h0, r0⟩ := trodAll_cons hA
  obtain ⟨rfl, rfl, rfl⟩ := trodAll_nil r0
  obtain rfl : args = #[v0] := by cases args; simp_all
  obtain ⟨rfl, rfl⟩ := trodVars_none hV
  obtain ⟨a0, len0, cap0, rfl⟩ := okWide_slice Try.underlying57 (hval 0 57 v0 rfl rfl)
  have k0 := h0
  have lt0 : ∀ x ∈ p0, x.block < W.heap.size := by obtain ⟨m, hm⟩ := k0; exact DataW.trod_lt m _ _ _ hm
  clear hA0 hval0
  have hFew : ∀ w1 : World, Below W.heap.size W w1 → Calls Try.prog 30 #[.slice a0 len0 cap0, .int .i64 (12 : Nat), .int .i64 (150 : Nat)] w1 (FewPost 12 150 w1) := by
    intro w1 hb
    obtain ⟨fuel, hf⟩ := h0
    rcases open_strings Try.underlying57 Try.underlying9 (by kernel_rfl) hf with ⟨hcs, _⟩ | ⟨x, l, c, ss, hcs, _, hl, hm, hz, _, hcell, hws⟩
    · simp [Value.cells] at hcs
      obtain ⟨rfl, rfl, rfl⟩ := hcs
      exact few_none _ _ _ _ _
    · simp [Value.cells] at hcs
      obtain ⟨rfl, rfl, rfl⟩ := hcs
      by_cases hl0 : len0 = 0
      · subst hl0
        exact few_none _ _ _ _ _
      · simp at hz
        obtain ⟨b, off, spot⟩ := x
        have hc0 := hcell 0 (by omega)
        have hspot : spot = none := by simpa [Addr.add] using World.cell?_spot hc0
        subst hspot
        have hS : Strs W b off ss := fun i hi => by
          have hc := hcell i hi
          have hadd : (⟨b, off, none⟩ : Addr).add i = ⟨b, off + i, none⟩ := by unfold Addr.add; split <;> simp_all
          rwa [hadd] at hc
        refine few_some 12 150 (by decide) (by decide) ss b off len0 cap0 w1 (by unfold maxLen at hm; omega) (by omega) (fun i => ?_) (strs_below hS hb)
        by_cases hi : i < ss.length
        · have e : ss.getD i ByteArray.empty = ss[i] := by simp [hi]
          rw [e]
          have := hws _ (List.getElem_mem hi)
          unfold maxLen at this
          omega
        · have e : ss.getD i ByteArray.empty = ByteArray.empty := by simp; rw [List.getElem?_eq_none (by omega)]; rfl
          rw [e]
          decide
  refine (texts_walk _ W hFew).mono fun e W' ⟨he, bel⟩ => ?_
  subst he
  exact ⟨_, rfl, _, _, _, [], _, [], hW', trodAll_mk1 (shut_bool Try.underlying4 _), (trodAll_cons_mk (Below.trod laidOut (by kernel_rfl) (of_decide_eq_true (by kernel_rfl)) k0 bel lt0) trodAll_mk0), rfl, bel.frame _, fun h => by cases h⟩

theorem over : Rows.numTextsRow.holds Try.pinned (OpenSpec.ofChange Rows.numTextsSpec) :=
  OpenClaim.holds_of_wide 8 Try.f8 rfl rfl rfl rfl rfl rfl rfl ⟨rfl, rfl, rfl, rfl, rfl⟩ rfl rfl rfl rfl rfl (by kernel_rfl) Try.func8 (by kernel_rfl)
    (of_decide_eq_true (by kernel_rfl)) (by unfold Func.isWrapper; first | (rw [if_pos (by decide +kernel)]; kernel_rfl) | (rw [if_neg (by decide +kernel)]; exact ⟨rfl, rfl⟩))
    (fun os started H enc _ => lifted os started H enc)
end NumTextsDone
theorem NumTexts_holds : Rows.NumTextsSaid := NumTextsDone.over
#print axioms NumTexts_holds
end Go.Proofs.Ythhaefcglhghfaa
