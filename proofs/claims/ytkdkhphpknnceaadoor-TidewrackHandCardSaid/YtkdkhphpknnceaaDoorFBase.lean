/- Glyphs in memory: their runes, and a clone of them. -/
import Derived.Test.YtkdkhphpknnceaaDoorHBase
import Derived.Test.YtkdkhphpknnceaaDoorMerged1
import Derived.Test.YtkdkhphpknnceaaDoorWFit
namespace Go.Proofs.YtkdkhphpknnceaaDoor.F
open Go.RowKit H
open W (OwnR RunesIn Rn Tab blkOf blkOf_sub blkOf_some runes_one wpList_append_runes take_snoc)

theorem gluT : PairT .i32 31 44 16 := ⟨Tryd.underlying31, by kernel_rfl, by decide⟩
def RngG (l : List (Int × Int)) : Prop := ∀ g ∈ l, -2147483648 ≤ g.1 ∧ g.1 ≤ 2147483647
/-- pairs of our own come back -/
def CloPost (l : List (Int × Int)) (w : World) (e : Ending) (w' : World) : Prop := ∃ v, e = .returned v ∧ OwnQ .i32 44 w.heap.size v l w' ∧ Below w.heap.size w w'
theorem OwnP.lit2 (w : World) : OwnQ .i32 44 w.heap.size (.slice (some ⟨w.heap.size, 0, none⟩) 0 0) [] (w.alloc (.cells #[] 44)) := (OwnP.lit .i32 _ w w.heap.size (Nat.le_refl _)).toQ
set_option maxHeartbeats 2000000 in
theorem clone_pairs (a : Option Addr) (n c : Nat) (l : List (Int × Int)) (w : World) (hI : PairsIn .i32 a n c l w) (hnil : a = none → c = 0) (hn : n ≤ 1000000) :
    Calls Tryd.prog 16 #[.slice a n c] w (CloPost l w) := by
  obtain ⟨P, hP⟩ : ∃ P, CloPost l w = P := ⟨_, rfl⟩
  rw [hP]
  have HP := Lib.hid hP
  cases a with
  | none =>
    have h0 : l = [] := hI.at_.resolve_right (by rintro ⟨b, off, e, -⟩; cases e)
    obtain rfl : c = 0 := hnil rfl
    obtain rfl : n = 0 := by have := hI.fit; omega
    have hend : Hid (P (.returned (.slice none 0 0)) w) := Lib.hid (by rw [← HP.out, h0]; exact ⟨_, rfl, OwnQ.nil _ _ _ _, Below.refl _ _⟩)
    clear hP hI h0 hnil
    have qn : ∀ (w : World), (binOp .eql 31 (.slice none 0 0) (.slice none 0 0)).run Tryd.prog w = .ok (.bool true) w := fun w => Lib.run_eql_slice_nil w _ _ none 0 0 0 0 Tryd.underlying31
    go_enter Tryd.func16, Tryd.ntmps16
    go_wp2_with fail
    exact hend.out
  | some ad =>
    have hb1 : Below w.heap.size w (w.alloc (.cells #[] 44)) := (Below.refl _ _).alloc (Nat.le_refl _) _
    have HO1 := Lib.hid (OwnP.lit2 w)
    have HI1 := Lib.hid (hI.belowAll hb1)
    have HS1 := Lib.hid hb1.size
    have HLn : Hid ((l.length : Int) ≤ 1000000) := Lib.hid (by rw [← hI.len]; omega)
    have HB1 := Lib.hid hb1
    clear hP hb1 hI hnil
    have qn : ∀ (w : World), (binOp .eql 31 (.slice (some ad) n c) (.slice none 0 0)).run Tryd.prog w = .ok (.bool false) w := fun w => Lib.run_eql_slice_nil w _ _ (some ad) n c 0 0 Tryd.underlying31
    go_enter Tryd.func16, Tryd.ntmps16
    go_wp2_with (refine wpList_append_q gluT rfl _ _ rfl rfl w.heap.size _ [] (some ad) n c l rfl rfl HO1.out HI1.out (by simp) HLn.out HS1.out ?_)
    intro v' w' hg
    have HE : Hid (OwnQ .i32 44 w.heap.size v' l w' ∧ Below w.heap.size w w') := Lib.hid ⟨by simpa using hg.own, HB1.out.grown hg.grown HS1.out (fun q hq => (HO1.out.own q hq).1)⟩
    clear hg
    go_wp2
    rw [← HP.out]
    exact ⟨_, rfl, HE.out.1, HE.out.2⟩
def RunPost (l : List (Int × Int)) (w : World) (e : Ending) (w' : World) : Prop := ∃ v, e = .returned v ∧ OwnR w.heap.size v (runesF l) w' ∧ Below w.heap.size w w'
theorem runes_snoc (l : List (Int × Int)) (j : Nat) (z s : Int) (h : l[j]? = some (z, s)) : runesF (l.take (j + 1)) = runesF (l.take j) ++ [z] := by
  obtain ⟨hj, he⟩ := List.getElem?_eq_some_iff.1 h
  rw [List.take_succ_eq_append_getElem hj, he]
  unfold runesF
  rw [List.map_append]
  rfl
set_option maxRecDepth 100000 in
set_option maxHeartbeats 4000000 in
theorem runes_any (a : Option Addr) (n c : Nat) (l : List (Int × Int)) (w : World) (h : PairsIn .i32 a n c l w) (hn : (n : Int) ≤ 1000000) :
    Calls Tryd.prog 15 #[.slice a n c] w (RunPost l w) := by
  obtain ⟨P, hP⟩ : ∃ P, RunPost l w = P := ⟨_, rfl⟩
  rw [hP]
  have HP := Lib.hid hP
  have HL := Lib.hid h.len
  have H1 := Lib.hid h
  obtain ⟨rb, hrb⟩ : ∃ rb, w.heap.size = rb := ⟨_, rfl⟩
  have HRb := Lib.hid hrb
  clear hP h hrb
  go_enter Tryd.func15, Tryd.ntmps15
  go_wp2_with fail
  go_loopw [3, 8] (fun s i wr => ∃ j : Nat, i = .int .i64 (j : Int) ∧ j ≤ n ∧ Hid (OwnR rb s (runesF (l.take j)) wr ∧ Below rb w wr ∧ rb ≤ wr.heap.size)) (fun _ i _ => n - (intOf i).toNat)
  case atStart => exact ⟨0, rfl, Nat.zero_le _, Lib.hid ⟨OwnR.nil _ _, Below.refl _ _, by rw [HRb.out]; exact Nat.le_refl _⟩⟩
  case round =>
    obtain ⟨j, rfl, hj, HF⟩ := hrel
    by_cases hlt : j < n
    · have hd : decide (j < n) = true := decide_eq_true hlt
      have hjI : (j : Int) < n := by omega
      have hjl : j < l.length := by rw [← HL.out]; exact hlt
      obtain ⟨b, off, rfl, hb, hA⟩ := H1.out.at_.resolve_left (by intro e; rw [e] at hjl; simp at hjl)
      obtain ⟨⟨z, sty⟩, hg⟩ : ∃ g, l[j]? = some g := ⟨_, List.getElem?_eq_getElem hjl⟩
      have hk := hA j _ hg
      have hsn := runes_snoc l j z sty hg
      have hbb : Below w.heap.size w wr := by rw [HRb.out]; exact HF.out.2.1
      have k0 := (hbb.cell (p := ⟨b, off + j * 2, none⟩) hb).trans hk.1
      have k1 := (hbb.cell (p := ⟨b, off + j * 2 + 1, none⟩) hb).trans hk.2
      simp only at k0 k1
      have HSn := Lib.hid hsn
      have hrn : (runesF (l.take j)).length ≤ 1000000 := by rw [runesF_len, List.length_take]; omega
      have HRn := Lib.hid hrn
      clear hA hjl hg hk hsn hbb hb hrn
      have HR1 : Hid (RunesIn (some ⟨wr.heap.size + 1, 0, none⟩) 1 [z] ((wr.alloc (.cells #[.int .i32 z, .int .i64 sty] 44)).alloc (.cells #[.int .i32 z] 21))) := Lib.hid (by
        have h := runes_one (wr.alloc (.cells #[.int .i32 z, .int .i64 sty] 44)) z 21
        rwa [World.size_alloc] at h)
      have HBs : Hid (Below wr.heap.size wr ((wr.alloc (.cells #[.int .i32 z, .int .i64 sty] 44)).alloc (.cells #[.int .i32 z] 21))) := Lib.hid (((Below.refl _ _).alloc (Nat.le_refl _) _).alloc (by simp) _)
      go_wp2_with (at_builtin; refine wpList_append_runes rfl _ _ rfl rfl rb _ (runesF (l.take j)) (some ⟨wr.heap.size + 1, 0, none⟩) 1 1 [z] rfl rfl (HF.out.1.belowAll HBs.out) HR1.out (fun e => by cases e) (by have := HRn.out; omega) (by simp) (Nat.le_trans HF.out.2.2 HBs.out.size) ?_)
      intro v' w5 hown' hgr
      rw [← HSn.out] at hown'
      have HE : Hid (OwnR rb v' (runesF (l.take (j + 1))) w5 ∧ Below rb w w5 ∧ rb ≤ w5.heap.size) := Lib.hid ⟨hown', (HF.out.2.1.trans (HBs.out.mono HF.out.2.2)).grown hgr (Nat.le_trans HF.out.2.2 HBs.out.size) (fun q hq => HF.out.1.ownBlock q hq), Nat.le_trans (Nat.le_trans HF.out.2.2 HBs.out.size) hgr.size⟩
      clear hown' hgr HR1 HBs k0 k1
      go_wp2_with fail
      go_roundw
      case rel => exact ⟨j + 1, by go_num, by omega, HE⟩
      case measure => simp [intOf]; omega
    · obtain rfl : j = n := by omega
      have hd : decide (j < j) = false := by simp
      have hta : l.take j = l := by rw [HL.out]; exact List.take_length
      have hend : Hid (P (.returned u3) wr) := Lib.hid (by
        rw [← HP.out]
        have h := HF.out
        rw [hta] at h
        refine ⟨_, rfl, ?_⟩
        rw [HRb.out]
        exact ⟨h.1, h.2.1⟩)
      clear hta HF hlt
      go_wp2_with fail
      exact hend.out
/-- the runes of what stands behind the first ones -/
theorem runes_from {a : Option Addr} {n c : Nat} {zs : List Int} {w : World} (h : RunesIn a n zs w) (hc : n ≤ c) (k : Nat) (hk : k ≤ n) (hsp : ∀ x, a = some x → x = ⟨x.block, x.off, none⟩) :
    RunesIn (if c = k then a else Option.map (fun x => x.add k) a) (n - k) (zs.drop k) w := by
  have hl := h.1
  refine ⟨by rw [List.length_drop]; omega, ?_⟩
  by_cases h0 : zs.drop k = []
  · exact .inl h0
  · have hk2 : k < n := by
      rcases Nat.lt_or_ge k n with h1 | h1
      · exact h1
      · exact absurd (List.drop_eq_nil_of_le (by omega)) h0
    obtain ⟨b, off, rfl, hb, hi⟩ := h.2.resolve_left (by rintro rfl; simp at h0)
    refine .inr ⟨b, off + k, ?_, hb, fun i hi' => ?_⟩
    · rw [if_neg (by omega)]
      show some ((⟨b, off, none⟩ : Addr).add k) = _
      congr 1
      unfold Addr.add
      split <;> simp_all
    · rw [List.length_drop] at hi'
      have := hi (k + i) (by omega)
      rw [Nat.add_assoc, this]
      congr 2
      simp [List.getD_eq_getElem?_getD, List.getElem?_drop]
end Go.Proofs.YtkdkhphpknnceaaDoor.F
