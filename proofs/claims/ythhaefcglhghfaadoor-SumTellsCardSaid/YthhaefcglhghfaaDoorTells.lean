/- SumTells: of every list of texts (the first five, cut at sixty bytes) the sum is the document's, and what is sealed too. No condition. -/
import Derived.Test.YthhaefcglhghfaaDoorOpens
import Derived.OwnWalk
import Derived.Maps.AppendAt
namespace Go.Proofs.YthhaefcglhghfaaDoor
open Go.ChangeShapes Go.WideShapes Go.ChangeAt Go.RowKit

theorem info9 : (Tryd.prog.info? 9).map (fun i => (i.zero, i.size, i.bytes)) = some (some (.string ⟨#[]⟩), 1, 16) := by kernel_rfl
/-- v is a slice of the call's own that holds the texts ts. -/
def Own (base : Nat) (w : World) (v : Value) (ts : List ByteArray) : Prop := w.ownsRow base 9 1 v ts.length (ts.map Value.string) ∧ ∀ t ∈ ts, (t.size : Int) ≤ 60

def FewPost (w : World) (e : Ending) (w' : World) : Prop := ∃ v ts, e = .returned v ∧ Own w.heap.size w' v ts ∧ (ts.length : Int) ≤ 5 ∧ Below w.heap.size w w'

set_option maxHeartbeats 1000000 in
theorem few_some (ss : List ByteArray) (b off len cap : Nat) (w : World) (hlen : (len : Int) ≤ 9223372036854775807) (hls : len ≤ ss.length) (hsz : ∀ i, ((ss.getD i ByteArray.empty).size : Int) ≤ 9223372036854775807)
    (hcell : Strs w b off ss) :
    Calls Tryd.prog 8 #[.slice (some ⟨b, off, none⟩) len cap, .int .i64 5, .int .i64 60] w (FewPost w) := by
  have HC := Lib.hid hcell
  have HZ := Lib.hid hsz
  clear hcell hsz
  obtain ⟨i0, hi, hz0, hz1, hz2⟩ := info_parts info9
  go_enter Tryd.func8, Tryd.ntmps8
  go_wp2
  go_loopw [7, 8] (fun v i wr => ∃ k : Nat, ∃ ts : List ByteArray, k ≤ len ∧ k ≤ 5 ∧ i = .int .i64 k ∧ ts.length = k ∧ Own w.heap.size wr v ts ∧ Below w.heap.size w wr) (fun _ i _ => len - (intOf i).toNat)
  case atStart => exact ⟨0, [], by omega, by omega, rfl, rfl, ⟨World.ownsRow_nil _ _ _ _, by simp⟩, Below.refl _ _⟩
  case round =>
    obtain ⟨k, ts, hk, hk5, rfl, htl, ⟨hrow, hts⟩, hB⟩ := hrel
    rw [htl] at hrow
    have HL := Lib.hid htl
    have HTS := Lib.hid hts
    clear htl hts
    have hle := hB.size
    by_cases hlt : k < len
    · by_cases hlt5 : k < 5
      · have hc0 := HC.out k (by omega)
        have hb0 : b < w.heap.size := World.block_lt_of_cell? w _ hc0
        have hc := (hB.cell (p := ⟨b, off + k, none⟩) hb0).trans hc0
        have hz := HZ.out k
        obtain ⟨s, hs⟩ : ∃ s, ss.getD k ByteArray.empty = s := ⟨_, rfl⟩
        rw [hs] at hc hz
        clear hc0 hs
        have HBw := Lib.hid hB
        clear hB
        go_wp2_with (first | (go_at_call 13; refine (cut_any s 60 hz (by decide) _).mono ?_; rintro e w' ⟨⟨t, rfl, hts, htl⟩, rfl⟩; clear htl) | (at_builtin; refine wpList_append_own _ rfl _ _ 22 rfl w.heap.size 9 i0 (.string ⟨#[]⟩) 1 16 Tryd.underlying22 hi hz0 hz1 hz2 rfl (by decide) _ _ _ rfl (hrow.alloc _) ⟨wr.heap.size, 0, none⟩ 1 1 [.string t] rfl rfl ?c1 ?c2 ?c3 ?c4 ?c5 ?_))
        case c1 => exact cell_one_new _ _ _
        case c2 => simp [Value.oneCell']
        case c3 => unfold maxLen; omega
        case c4 => omega
        case c5 => simp; omega
        intro v' w1 hown' hgrow _
        have hB1 : Below w.heap.size w w1 := (HBw.out.alloc hle _).grown hgrow (by simp; omega) (fun j hj => (hrow.lt j hj).1)
        have HR := Lib.hid hown'
        have HB1 := Lib.hid hB1
        clear hown' hgrow hB1 hrow
        go_wp2
        go_roundw
        case rel => exact ⟨k + 1, ts ++ [t], by omega, by omega, by go_num, by simp [HL.out], ⟨by have h := HR.out; simpa [HL.out] using h, fun x hx => by rcases List.mem_append.1 hx with h | h; exact HTS.out x h; obtain rfl := List.mem_singleton.1 h; exact hts⟩, HB1.out⟩
        case measure => simp [intOf]; omega
      · have HBw := Lib.hid hB
        have HR := Lib.hid hrow
        clear hB hrow
        go_wp2
        go_ret
        exact ⟨_, ts, rfl, ⟨by rw [HL.out]; exact HR.out, HTS.out⟩, by rw [HL.out]; omega, HBw.out⟩
    · have HBw := Lib.hid hB
      have HR := Lib.hid hrow
      clear hB hrow
      go_wp2
      go_ret
      exact ⟨_, ts, rfl, ⟨by rw [HL.out]; exact HR.out, HTS.out⟩, by rw [HL.out]; omega, HBw.out⟩

theorem few_none (a : Option Addr) (cap : Nat) (w : World) :
    Calls Tryd.prog 8 #[.slice a 0 cap, .int .i64 5, .int .i64 60] w (FewPost w) := by
  go_enter Tryd.func8, Tryd.ntmps8
  go_wp2
  go_loop [7, 8] (fun v i => v = .slice none 0 0 ∧ i = .int .i64 0) (fun _ _ => 0)
  case atStart => exact ⟨rfl, rfl⟩
  case round =>
    obtain ⟨rfl, rfl⟩ := hrel
    go_wp2
    go_ret
    exact ⟨_, [], rfl, ⟨World.ownsRow_nil _ _ _ _, by simp⟩, by simp, Below.refl _ _⟩

/-- A slice of the call's own: nil and empty, or its cells. -/
theorem Own.split {base : Nat} {w : World} {v : Value} {ts : List ByteArray} (h : Own base w v ts) : (v = .slice none 0 0 ∧ ts = []) ∨ ∃ g cap, v = .slice (some ⟨g, 0, none⟩) ts.length cap ∧ g < w.heap.size ∧ Strs w g 0 ts := by
  obtain ⟨hr, _⟩ := h
  rcases hr.2 with ⟨hv, h0⟩ | ⟨g, cap, cur, hv, _, hg, _, _, _, _⟩
  · exact .inl ⟨hv, List.length_eq_zero_iff.1 h0⟩
  · refine .inr ⟨g, cap, hv, (Array.getElem?_eq_some_iff.1 hg).1, fun i hi => ?_⟩
    have hc := hr.cells (g := g) (by rw [hv]; rfl) i (.string (ts.getD i ByteArray.empty)) (by simp [hi])
    have hadd : (⟨g, 0, none⟩ : Addr).add i = ⟨g, 0 + i, none⟩ := by unfold Addr.add; split <;> simp_all
    rwa [hadd] at hc
theorem size_getD {ts : List ByteArray} (h : ∀ t ∈ ts, (t.size : Int) ≤ 60) (i : Nat) : ((ts.getD i ByteArray.empty).size : Int) ≤ 60 := by
  by_cases hi : i < ts.length
  · have : ts.getD i ByteArray.empty = ts[i] := by simp [hi]
    rw [this]
    exact h _ (List.getElem_mem hi)
  · have : ts.getD i ByteArray.empty = ByteArray.empty := by simp; rw [List.getElem?_eq_none (by omega)]; rfl
    rw [this]
    decide
set_option maxHeartbeats 1000000 in
theorem tells_walk (v0 : Value) (w : World) (hT : Tab w) (hFew : ∀ w1 : World, Below w.heap.size w w1 → Calls Tryd.prog 8 #[v0, .int .i64 5, .int .i64 60] w1 (FewPost w1)) :
    Calls Tryd.prog 3 #[v0] w fun e w' => e = .returned (.bool true) ∧ Below w.heap.size w w' := by
  have HT := Lib.hid hT
  have HF := Lib.hid hFew
  clear hT hFew
  go_enter Tryd.func3, Tryd.ntmps3
  go_wp2_with fail
  refine (awake_any _ HT.out).mono ?_
  rintro e w1 ⟨rfl, hb1⟩
  have HB1 := Lib.hid hb1
  clear hb1
  have hf1 := HF.out w1 HB1.out
  have HF1 := Lib.hid hf1
  clear hf1
  go_wp2_with fail
  refine HF1.out.mono ?_
  rintro e w2 ⟨v, ts, rfl, hown, h5, hb2⟩
  have HT2 := Lib.hid (tab_of (tab_of HT.out HB1.out) hb2)
  have HB2 := Lib.hid (HB1.out.trans (hb2.mono HB1.out.size))
  have HZ := Lib.hid (size_getD hown.2)
  have HS := Lib.hid hown.split
  clear hb2 hown HB1 HF HF1
  rcases HS.out with ⟨rfl, rfl⟩ | ⟨g, cap, rfl, hg, hc⟩
  · clear HS
    go_wp2_with fail
    go_loop [3, 12] (fun all i => all = .string ⟨#[]⟩ ∧ i = .int .i64 0) (fun _ _ => 0)
    case atStart => exact ⟨rfl, rfl⟩
    case round =>
      obtain ⟨rfl, rfl⟩ := hrel
      obtain ⟨a, ha⟩ : ∃ a : ByteArray, (⟨#[]⟩ : ByteArray) = a := ⟨_, rfl⟩
      have ha0 : (a.size : Int) ≤ 0 := by rw [← ha]; decide
      have hal : a.data.toList = [] := by rw [← ha]
      rw [ha]
      have HA := Lib.hid hal
      clear ha hal
      obtain ⟨ts, hts⟩ : ∃ ts : List ByteArray, ts = [] := ⟨_, rfl⟩
      have HTS := Lib.hid hts
      clear hts
      have hall : a.data.toList = bytesOf ts := by rw [HA.out, HTS.out]; rfl
      have hle : (a.size : Int) ≤ 1000 := by omega
      obtain ⟨S, hS⟩ : ∃ S, sumOf (bytesOf ts) = S := ⟨_, rfl⟩
      have hSb : (S : Int) < 4294967296 := by rw [← hS]; have := sumOf_lt (bytesOf ts); omega
      have h9 : Calls Tryd.prog 9 #[.slice none 0 0] w2 fun e w' => e = .returned (.int .u32 S) ∧ w2 = w' := by
          have h := of_nil w2
          rw [← hS, HTS.out]
          exact h
      have h10 := refof_any a (by omega) w2
      rw [hall, hS] at h10
      clear hS hall
      have HG := Lib.hid h9
      have HI := Lib.hid h10
      have HJ := Lib.hid (seal_any a hle w2 HT2.out)
      clear h9 h10
      go_wp2_with fail
      refine HG.out.mono ?_
      rintro e w' ⟨rfl, rfl⟩
      go_wp2_with fail
      refine HI.out.mono ?_
      rintro e w' ⟨rfl, rfl⟩
      go_wp2_with fail
      refine HJ.out.mono ?_
      rintro e w3 ⟨⟨u, rfl, _, hu⟩, hb3⟩
      have HB3 := Lib.hid (HB2.out.trans (hb3.mono HB2.out.size))
      have HU := Lib.hid hu
      clear hb3 hu
      go_wp2_with fail
      refine (refseal_any a (by omega) _).mono ?_
      rintro e w4 ⟨⟨u', rfl, _, hu'⟩, hb4⟩
      have e1 := beq_lists (HU.out.trans hu'.symm)
      have HB4 := Lib.hid (HB3.out.trans (hb4.mono HB3.out.size))
      clear hb4 hu'
      go_wp2_with fail
      go_ret
      exact ⟨rfl, HB4.out⟩
  · have HC := Lib.hid hc
    obtain ⟨n, hn⟩ : ∃ n, ts.length = n := ⟨_, rfl⟩
    rw [hn] at h5 ⊢
    have HN := Lib.hid hn
    clear hc hn HS
    go_wp2_with fail
    go_loop [3, 12] (fun all i => ∃ k : Nat, ∃ a : ByteArray, k ≤ n ∧ i = .int .i64 k ∧ all = .string a ∧ (a.size : Int) ≤ 60 * k ∧ Hid (a.data.toList = bytesOf (ts.take k))) (fun _ i => n - (intOf i).toNat)
    case atStart => exact ⟨0, ⟨#[]⟩, by omega, rfl, rfl, by decide, Lib.hid (by simp [bytesOf])⟩
    case round =>
      obtain ⟨k, a, hk, rfl, rfl, ha, HA⟩ := hrel
      by_cases hlt : k < n
      · have hc := HC.out k (by rw [HN.out]; exact hlt)
        have hz := HZ.out k
        obtain ⟨s, hs⟩ : ∃ s, ts.getD k ByteArray.empty = s := ⟨_, rfl⟩
        rw [hs, Nat.zero_add] at hc
        rw [hs] at hz
        have HSS := Lib.hid hs
        clear hs
        go_wp2
        go_round
        case rel => exact ⟨k + 1, _, by omega, by go_num, rfl, by simp; omega, Lib.hid (by rw [bytesOf_snoc ts k (by rw [HN.out]; exact hlt), HSS.out, ← HA.out]; simp)⟩
        case measure => simp [intOf]; omega
      · obtain rfl : k = n := by omega
        have hall : a.data.toList = bytesOf ts := by rw [HA.out, ← HN.out, List.take_length]
        have hle : (a.size : Int) ≤ 1000 := by omega
        obtain ⟨S, hS⟩ : ∃ S, sumOf (bytesOf ts) = S := ⟨_, rfl⟩
        have hSb : (S : Int) < 4294967296 := by rw [← hS]; have := sumOf_lt (bytesOf ts); omega
        have h9 : Calls Tryd.prog 9 #[.slice (some ⟨g, 0, none⟩) k cap] w2 fun e w' => e = .returned (.int .u32 S) ∧ w2 = w' := by
          have h := of_some ts g 0 cap w2 (by rw [HN.out]; omega) (fun i => by have := HZ.out i; omega) HC.out HT2.out
          rw [hS, HN.out] at h
          exact h
        have h10 := refof_any a (by omega) w2
        rw [hall, hS] at h10
        clear hS hall
        have HG := Lib.hid h9
        have HI := Lib.hid h10
        have HJ := Lib.hid (seal_any a hle w2 HT2.out)
        clear h9 h10
        go_wp2_with fail
        refine HG.out.mono ?_
        rintro e w' ⟨rfl, rfl⟩
        go_wp2_with fail
        refine HI.out.mono ?_
        rintro e w' ⟨rfl, rfl⟩
        go_wp2_with fail
        refine HJ.out.mono ?_
        rintro e w3 ⟨⟨u, rfl, _, hu⟩, hb3⟩
        have HB3 := Lib.hid (HB2.out.trans (hb3.mono HB2.out.size))
        have HU := Lib.hid hu
        clear hb3 hu
        go_wp2_with fail
        refine (refseal_any a (by omega) _).mono ?_
        rintro e w4 ⟨⟨u', rfl, _, hu'⟩, hb4⟩
        have e1 := beq_lists (HU.out.trans hu'.symm)
        have HB4 := Lib.hid (HB3.out.trans (hb4.mono HB3.out.size))
        clear hb4 hu'
        go_wp2_with fail
        go_ret
        exact ⟨rfl, HB4.out⟩

namespace SumTellsDone
theorem strs_below {w w1 : World} {b off : Nat} {ss : List ByteArray} (h : Strs w b off ss) (hb : Below w.heap.size w w1) : Strs w1 b off ss := fun i hi => by
  have hc := h i hi
  exact (hb.cell (p := ⟨b, off + i, none⟩) (World.block_lt_of_cell? w _ hc)).trans hc
theorem contract (H : Type) (enc : TypeId × Value → H) (W : World) (base : Nat) (args : Array Value) (ds gs : List (DataW H)) (before : List MemPlace)
    (hval : ∀ (j : Nat) t v, Tryd.f3.params[j]? = some t → args[j]? = some v → Value.okWide Tryd.prog W .any base t v)
    (hW : DataW.Whole enc Tryd.prog Tryd.f3.params.toList Rows.sumTellsSpec.vars false W args.toList ds gs before) (hL : laidMetH Tryd.prog Rows.sumTellsRow.laid W) :
    Calls Tryd.prog 3 args W fun e W' => ∃ v, e = .returned v ∧ Rows.sumTellsSpec.post enc Tryd.prog Tryd.f3 false true false false W args v W' := by
  have hW' := hW
  obtain ⟨p, q, hA0, hV, rfl, hfz, hnd⟩ := hW
  have hA : DataW.TrodAll enc Tryd.prog W 0 (fun _ => true) true Tryd.f3.params.toList args.toList ds p := hA0
  rw [Tryd.params3] at hA hval
  obtain ⟨v0, vs0, d0, ds0, p0, q0, hargs, rfl, rfl, h0, r0⟩ := trodAll_cons hA
  obtain ⟨rfl, rfl, rfl⟩ := trodAll_nil r0
  obtain rfl : args = #[v0] := by cases args; simp_all
  obtain ⟨rfl, rfl⟩ := trodVars_none hV
  obtain ⟨a0, len0, cap0, rfl⟩ := okWide_slice Tryd.underlying22 (hval 0 22 v0 rfl rfl)
  have k0 := h0
  have lt0 : ∀ x ∈ p0, x.block < W.heap.size := by obtain ⟨m, hm⟩ := k0; exact DataW.trod_lt m _ _ _ hm
  clear hA0
  have hFew : ∀ w1 : World, Below W.heap.size W w1 → Calls Tryd.prog 8 #[.slice a0 len0 cap0, .int .i64 5, .int .i64 60] w1 (FewPost w1) := by
    intro w1 hb
    obtain ⟨fuel, hf⟩ := h0
    rcases open_strings Tryd.underlying22 Tryd.underlying9 (by kernel_rfl) hf with ⟨hcs, _⟩ | ⟨x, l, c, ss, hcs, _, hl, hm, hz, _, hcell, hws⟩
    · simp [Value.cells] at hcs
      obtain ⟨rfl, rfl, rfl⟩ := hcs
      exact few_none _ _ _
    · simp [Value.cells] at hcs
      obtain ⟨rfl, rfl, rfl⟩ := hcs
      by_cases hl0 : len0 = 0
      · subst hl0
        exact few_none _ _ _
      · simp at hz
        obtain ⟨b, off, spot⟩ := x
        have hc0 := hcell 0 (by omega)
        have hspot : spot = none := by simpa [Addr.add] using World.cell?_spot hc0
        subst hspot
        have hS : Strs W b off ss := fun i hi => by
          have hc := hcell i hi
          have hadd : (⟨b, off, none⟩ : Addr).add i = ⟨b, off + i, none⟩ := by unfold Addr.add; split <;> simp_all
          rwa [hadd] at hc
        refine few_some ss b off len0 cap0 w1 (by unfold maxLen at hm; omega) (by omega) (fun i => ?_) (strs_below hS hb)
        by_cases hi : i < ss.length
        · have e : ss.getD i ByteArray.empty = ss[i] := by simp [hi]
          rw [e]
          have := hws _ (List.getElem_mem hi)
          unfold maxLen at this
          omega
        · have e : ss.getD i ByteArray.empty = ByteArray.empty := by simp; rw [List.getElem?_eq_none (by omega)]; rfl
          rw [e]
          decide
  refine (tells_walk _ W (tab_laid hL) hFew).mono fun e W' ⟨he, bel⟩ => ?_
  subst he
  exact ⟨_, rfl, _, _, _, [], _, [], hW', trodAll_mk1 (shut_bool Tryd.underlying4 _), (trodAll_cons_mk (Below.trod laidOut (by kernel_rfl) (of_decide_eq_true (by kernel_rfl)) k0 bel lt0) trodAll_mk0), rfl, bel.frame _, fun h => by cases h⟩

/-- A WORLD FOR THE WITNESS: the settled one, the table (block 0) holding what its initialiser lays. -/
noncomputable def laidWorld (os : Os) : World :=
  { World.holding Tryd.prog os ⟨#[], #[], []⟩ with heap := (World.holding Tryd.prog os ⟨#[], #[], []⟩).heap.modify 0 fun
      | .cells _ t frozen => .cells ((halfInts.map fun z => Value.int .u32 z).toArray) t frozen
      | o => o }
theorem laid_met (os : Os) : laidMet Tryd.prog Rows.sumTellsRow.laid ((laidWorld os).forCall (fun _ _ => 0) ⟨#[], #[.slice none 0 0], []⟩).memory :=
  laidMet_of_run' 8 (by kernel_rfl) (by kernel_rfl)
theorem reads (os : Os) {H : Type} (enc : TypeId × Value → H) : ∃ places, DataW.whole enc Tryd.prog ((laidWorld os).forCall (fun _ _ => 0) ⟨#[], #[.slice none 0 0], []⟩).memory Tryd.f3.params.toList Rows.sumTellsSpec.vars false #[Value.slice none 0 0].toList 8 = some ([.nil], [], places) :=
  ⟨[], by kernel_rfl⟩

set_option maxRecDepth 100000 in
theorem lifted (os : Os) (started : os.Started) (H : Type) (enc : TypeId × Value → H) (F : Stop.Interp) :
    ReturnsInHanded {} Tryd.checked os 3 .any ((OpenSpec.ofChange Rows.sumTellsSpec).preRow enc Tryd.prog Tryd.f3 Rows.sumTellsRow.domain false Rows.sumTellsRow.laid) (((OpenSpec.ofChange Rows.sumTellsSpec).at F).post enc Tryd.prog Tryd.f3 false true false false) := by
  obtain ⟨places, hx⟩ := reads os enc
  refine returnsInHanded_of_row (C := Tryd.checked) (s := OpenSpec.ofChange Rows.sumTellsSpec) ownKnobNone started (by kernel_rfl) Tryd.func3
    (witness_row_at (enc := enc) (C := Tryd.checked) false (laidWorld os) #[.slice none 0 0] rfl (by kernel_rfl) (by kernel_rfl) (by kernel_rfl)
      (OpenSpec.preRow_of_cond 8 hx (by kernel_rfl) (fun k hk => by cases hk) (by kernel_rfl) (laid_met os))) ?_
  intro W base args ds gs before hval hW _ _ _ hL _ _
  exact contract H enc W base args ds gs before hval hW hL

theorem said : Rows.SumTellsSaid :=
  OpenClaim.holds_of_cond 3 Tryd.f3 rfl rfl rfl rfl rfl rfl rfl ⟨rfl, rfl, rfl, rfl, rfl⟩ rfl rfl rfl rfl rfl (by kernel_rfl) Tryd.func3 (by kernel_rfl)
    (of_decide_eq_true (by kernel_rfl)) (by unfold Func.isWrapper; first | (rw [if_pos (by decide +kernel)]; kernel_rfl) | (rw [if_neg (by decide +kernel)]; exact ⟨rfl, rfl⟩))
    (fun os started H enc _ F => by rw [OpenClaim.pre_eq_preRow]; exact lifted os started H enc F)

theorem plain (f : FuncId) (fn : Func) (hf : Tryd.pinned.checked.prog.funcNamed "tidewrack/tidewracklaw02.SumTells" = some f) (hfn : Tryd.pinned.checked.prog.funcs[f]? = some fn) :
    false = Tryd.pinned.checked.prog.looks [] ∧ ∀ (j : Nat) t, fn.params[j]? = some t → Tryd.pinned.checked.prog.wantsStandIn t = false := by
  obtain rfl : f = 3 := Option.some.inj ((show Tryd.prog.funcNamed "tidewrack/tidewracklaw02.SumTells" = some 3 by kernel_rfl).symm.trans hf) |>.symm
  obtain rfl : fn = Tryd.f3 := (Option.some.inj (Tryd.func3.symm.trans hfn)).symm
  refine ⟨by kernel_rfl, fun j t ht => ?_⟩
  rw [Tryd.params3] at ht
  obtain rfl : t = 22 := by simpa using Array.mem_of_getElem? ht
  exact (show Tryd.prog.wantsStandIn 22 = false by kernel_rfl)

theorem card : Rows.SumTellsCardSaid :=
  Claim7.holds_tied_plain_at .later [] _ _ _ _ said (fun _ h => by cases h) (by kernel_rfl) (fun _ h => by cases h) sumTells_row_tie rfl ⟨rfl, rfl⟩ (by kernel_rfl) rfl plain (by kernel_rfl)
end SumTellsDone
theorem SumTells_holds : Rows.SumTellsCardSaid := SumTellsDone.card
#print axioms SumTells_holds
end Go.Proofs.YthhaefcglhghfaaDoor
