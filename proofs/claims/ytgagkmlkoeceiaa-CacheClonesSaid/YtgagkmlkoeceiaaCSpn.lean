/- The contract of cache.Spans. -/
import Derived.Test.YtgagkmlkoeceiaaMerged4
import Derived.Test.YtgagkmlkoeceiaaHAdd
import Derived.Test.YtgagkmlkoeceiaaHOwn
import Derived.Maps.RangeWalk
namespace Go.Proofs.Ytgagkmlkoeceiaa.C
open Go.RowKit Go.Maps Go.Proofs.Ytgagkmlkoeceiaa.H
open Go.Proofs.Ytgagkmlkoeceiaa.W (OwnI IntsIn wpList_append_ints ints_one take_snoc)

theorem alloc_below (w : World) (o : Obj) : Below w.heap.size w (w.alloc o) := (Below.refl _ _).alloc (Nat.le_refl _) _
/-- the numbers that the range has handed on -/
def ColI (D : DataW Unit) (left : Lit → Bool) (zs : List Int) : Prop := zs.Nodup ∧ ∀ x, x ∈ zs ↔ (Maps.has D (kz x) = true ∧ left (kz x) = false)
theorem ColI.start (D : DataW Unit) : ColI D (Maps.has D) [] := ⟨List.nodup_nil, fun x => by cases Maps.has D (kz x) <;> simp⟩
theorem ColI.step {D : DataW Unit} {left : Lit → Bool} {zs : List Int} (h : ColI D left zs) {x : Int} {y : DataW Unit} (hl : left (kz x) = true) (hat : ∀ zd, D.atKey (kz x) zd = y) : ColI D (fun z => left z && !z.sameKey (kz x)) (zs ++ [x]) := by
  have hhas : Maps.has D (kz x) = true := has_true_of_atKey hat
  have hnew : x ∉ zs := fun hx => by have := ((h.2 x).1 hx).2; rw [hl] at this; cases this
  refine ⟨List.nodup_append.2 ⟨h.1, by simp, fun a ha b hb => by simp at hb; subst hb; exact fun e => hnew (e ▸ ha)⟩, fun y => ?_⟩
  by_cases hy : y = x
  · subst hy
    have hk : (kz y).sameKey (kz y) = true := by simp [Lit.sameKey, kz]
    simp [hhas, hk]
  · have hk : (kz y).sameKey (kz x) = false := by simp [Lit.sameKey, kz, hy]
    simp [h.2 y, hy, hk]
theorem ColI.perm {D : DataW Unit} {left : Lit → Bool} {zs : List Int} {es : List (Int × Nat)} (h : ColI D left zs) (hl : ∀ kl, left kl = false) (hM : MapIs D es) (hn : (es.map (·.1)).Nodup) : zs.Perm (es.map (·.1)) := by
  refine (List.perm_ext_iff_of_nodup h.1 hn).2 fun x => ?_
  rw [h.2 x, hl, hM.has, List.any_eq_true, List.mem_map]
  constructor
  · rintro ⟨⟨y, hy, e⟩, -⟩
    exact ⟨y, hy, by simpa using e⟩
  · rintro ⟨y, hy, rfl⟩
    exact ⟨⟨y, hy, by simp⟩, rfl⟩
/-- the range over the map, under way -/
structure RgI (m rb n : Nat) (D : DataW Unit) (left : Lit → Bool) (cnt : Nat) (zs : List Int) (s : Value) (w wr : World) : Prop where
  rg : wr.ranges Try.prog 3 ptrR m rb n D left cnt
  col : ColI D left zs
  own : OwnI (rb + 1) s zs wr
  below : Below rb w wr
  size : rb + 1 ≤ wr.heap.size
  len : zs.length + cnt ≤ n
/-- a span of each number -/
def spI (zs : List Int) : List Sp := zs.map fun i => (i, i + 1)
/-- the spans of a cache -/
def spansC (L : List (Int × List (Int × Int))) : List Sp := addsS [] (spI (sortI (L.map (·.1))))
theorem sort_perm {zs ys : List Int} (h : zs.Perm ys) : sortI zs = sortI ys := by
  have tr : ∀ a b c : Int, decide (a ≤ b) = true → decide (b ≤ c) = true → decide (a ≤ c) = true := fun a b c h1 h2 => by simp only [decide_eq_true_eq] at *; omega
  have tt : ∀ a b : Int, (decide (a ≤ b) || decide (b ≤ a)) = true := fun a b => by simp only [Bool.or_eq_true, decide_eq_true_eq]; omega
  refine List.Perm.eq_of_pairwise (le := fun a b : Int => decide (a ≤ b) = true) (fun a b _ _ h1 h2 => ?_) (List.pairwise_mergeSort tr tt zs) (List.pairwise_mergeSort tr tt ys) (((List.mergeSort_perm zs _).trans h).trans (List.mergeSort_perm ys _).symm)
  simp only [decide_eq_true_eq] at h1 h2
  omega
/-- the set that Spans makes -/
def One (b : Nat) (l : List Sp) (W w : World) : Prop := ∃ M, St b M l w ∧ (∀ p ∈ M, W.heap.size ≤ p) ∧ Below W.heap.size W w
theorem One.new (W : World) : One W.heap.size [] W (W.alloc (.cells #[.slice none 0 0] 84)) :=
  ⟨_, St.new W, (fun p hp => by rw [List.mem_singleton.1 hp]; exact Nat.le_refl _), alloc_below W _⟩
theorem One.bel {b : Nat} {l : List Sp} {W w : World} (h : One b l W w) : Below W.heap.size W w := h.choose_spec.2.2
theorem pair_one {g : Nat} {a1 a2 : Int} {w : World} (h : w.heap[g]? = some (.cells #[.int .i64 a1, .int .i64 a2] 81 (0, 0))) : PairsIn .i64 (some ⟨g, 0, none⟩) 1 1 [(a1, a2)] w :=
  ⟨rfl, Nat.le_refl _, by decide, .inr ⟨g, 0, rfl, (Array.getElem?_eq_some_iff.1 h).1, fun i u hi => by
    match i, hi with
    | 0, hi => cases hi; exact ⟨by rw [cell_block h]; rfl, by rw [cell_block h]; rfl⟩
    | i + 1, hi => simp at hi⟩⟩
theorem One.add {b : Nat} {l : List Sp} {W w : World} (h : One b l W w) (hn : Nm l) (hl : l.length < 100000) (x1 x2 : Int) :
    Calls Try.prog 32 #[.pointer (some ⟨b, 0, none⟩), .slice (some ⟨w.heap.size, 0, none⟩) 1 1] (w.alloc (.cells #[.int .i64 x1, .int .i64 x2] 81)) fun e w' => e = .returned (.tuple #[]) ∧ One b (addS l (x1, x2)) W w' := by
  obtain ⟨M, hs, hg, hb⟩ := h
  refine (add_any (l := l) (some ⟨w.heap.size, 0, none⟩) 1 1 [(x1, x2)] _ (hs.below (alloc_below w _)) hn (by simp; omega) (pair_one (heap_alloc_new w _)) ?_).mono ?_
  · intro g off e hm
    cases e
    exact absurd (hs.lt _ hm) (by omega)
  · rintro e w' ⟨rfl, M', h1, hk, hM⟩
    have hsz : w.heap.size ≤ (w.alloc (.cells #[.int .i64 x1, .int .i64 x2] 81)).heap.size := (alloc_below w _).size
    exact ⟨rfl, M', h1, fun p hp => (hM p hp).elim (hg p) (fun h => Nat.le_trans hb.size (Nat.le_trans hsz h)), hk.below hg (hb.trans ((alloc_below w _).mono hb.size)) (Nat.le_trans hb.size hsz)⟩
theorem sort_own {base : Nat} {v : Value} {zs : List Int} {w : World} (h : OwnI base v zs w) (hl : zs.length ≤ 1000000) : ∃ a c, v = .slice a zs.length c ∧ (zs.length : Int) ≤ c ∧ (c : Int) ≤ 9223372036854775807 ∧ Calls Try.prog 31 #[.slice a zs.length c] w fun e w' => e = .returned (.tuple #[]) ∧ IntsIn a zs.length (sortI zs) w' ∧ KeepB v.ownBlock.toList w w' := by
  have hsl : (sortI zs).length = zs.length := List.length_mergeSort _
  obtain ⟨a, c, rfl, hI, -, -, h1, h2⟩ := W.OwnI.shape h
  refine ⟨a, c, rfl, h1, h2, ?_⟩
  rcases h.2 with ⟨hn, h0⟩ | ⟨g, cap, cur, hv, hbase, hg, hc, hm, hs, ht⟩
  · have h3 : zs = [] := List.length_eq_zero_iff.1 (by rw [h0])
    subst h3
    refine (sort_nil a c w).mono ?_
    rintro e w' ⟨rfl, rfl⟩
    exact ⟨rfl, ⟨by simp [sortI], .inl (by simp [sortI])⟩, KeepB.refl _ _⟩
  · injection hv with hv1 hv2 hv3
    subst hv1 hv3
    have hcell := hI.2
    refine (sort_any g c zs w (Array.getElem?_eq_some_iff.1 hg).1 (fun j hj => ?_) (fun j _ => frozen_block hg _) hl).mono ?_
    · rcases hI.2 with h3 | ⟨b, off, e, hb, hi⟩
      · rw [h3] at hj; simp at hj
      · injection e with e
        injection e with e1 e2
        subst e1 e2
        exact hi j hj
    · rintro e w' ⟨rfl, h3, h4⟩
      refine ⟨rfl, ⟨hsl.symm, .inr ⟨g, 0, rfl, ?_, fun i hi => h3 i (by rw [← hsl]; exact hi)⟩⟩, h4⟩
      have := h4.size
      have := (Array.getElem?_eq_some_iff.1 hg).1
      omega
set_option maxRecDepth 100000 in
set_option maxHeartbeats 8000000 in
theorem cspans_any {c : Nat} {M G : List Nat} {x : Ca} (w : World) (h : Ch c M G x w) : Calls Try.prog 25 #[.pointer (some ⟨c, 0, none⟩)] w (SpPost (spansC x.L) w) := by
  obtain ⟨P, hP⟩ : ∃ P, SpPost (spansC x.L) w = P := ⟨_, rfl⟩
  rw [hP]
  have HP := Lib.hid hP
  obtain ⟨m, e, ns, h, h2, hfit⟩ := h
  obtain ⟨D, hown, hM⟩ := h.mp
  have hc1 := h.c1
  obtain ⟨N, hN⟩ : ∃ N, (entN ns).length = N := ⟨_, rfl⟩
  have hNl : N ≤ 65537 := by rw [← hN]; simpa [entN] using h.few
  have HPm : Hid (∀ left zs, ColI D left zs → (∀ kl, left kl = false) → sortI zs = sortI (x.L.map (·.1)) ∧ zs.length = N) := Lib.hid (fun left zs h3 h4 => by
    have hn : ((entN ns).map (·.1)).Nodup := by unfold entN; rw [List.map_map]; exact h.num
    have h5 := h3.perm h4 hM hn
    have h6 : (entN ns).map (·.1) = x.L.map (·.1) := by rw [← h2]; simp [entN]
    rw [h6] at h5
    refine ⟨sort_perm h5, ?_⟩
    rw [h5.length_eq, ← h6, List.length_map, hN])
  rw [hN] at hown
  have hsz : size D = N := by rw [hM.size, hN]
  have HZr : Hid (∀ z ∈ sortI (x.L.map (·.1)), 0 ≤ z ∧ z ≤ 1152921504606846976) := Lib.hid (fun z hz => by
    have h5 : z ∈ x.L.map (·.1) := (List.mergeSort_perm _ _).mem_iff.1 hz
    rw [← h2, List.map_map] at h5
    obtain ⟨y, hy, rfl⟩ := List.mem_map.1 h5
    exact ⟨(h.wf y hy).1, (h.wf y hy).2.1⟩)
  have HSz := Lib.hid hsz
  have hml : m < w.heap.size := hown.lt
  have HMl := Lib.hid hml
  clear hP h h2 hfit hM hN hsz
  go_enter Try.func25, Try.ntmps25
  go_wp2_with (first | (at_range; refine wpList_range_own _ rfl _ _ rfl 3 47 keyedInt Try.underlying46 ptrR m N D rfl hown ?_; intro w0 hrg0 hg0 hs0) | go_in)
  have HR0 : Hid (RgI m w.heap.size N D (Maps.has D) (size D) [] (.slice none 0 0) w w0) := Lib.hid ⟨hrg0, ColI.start D, W.OwnI.nil _ _, ⟨hg0.os, hg0.tape, hg0.output, hg0.size, fun i hi => hg0.block i hi (by simp)⟩, by omega, by simp [HSz.out]⟩
  clear hrg0 hg0 hs0 hc1 hown
  go_frame
  go_loopw [3] (fun s wr => ∃ left cnt zs, Hid (RgI m w.heap.size N D left cnt zs s w wr)) (fun _ wr => wr.rangeLeft m w.heap.size)
  case atStart => exact ⟨_, _, _, HR0⟩
  case round =>
    obtain ⟨left, cnt, zs, HF⟩ := hrel
    go_wp2_with (first | (at_next; refine wpList_next_ranges _ rfl _ rfl 3 keyedInt ptrR (Value.int .i64) (fun v : Value => v) (fun key kl hkey => by obtain ⟨x, rfl, _⟩ := Maps.keyOf_int_inv Try.underlying3 hkey; exact ⟨x, rfl⟩) (fun v y _ => ⟨v, rfl⟩) m w.heap.size N D left cnt rfl HF.out.rg ?_ ?_) | go_in)
    · intro hc0 hl0
      obtain ⟨e1, e2⟩ := HPm.out left zs HF.out.col hl0
      obtain ⟨a, cp, rfl, hcp1, hcp2, hsrt⟩ := sort_own HF.out.own (by rw [e2]; omega)
      rw [e2] at hcp1 hsrt
      rw [e1] at hsrt
      have HSo := Lib.hid hsrt
      have HE2 := Lib.hid e2
      obtain ⟨ys, hys⟩ : ∃ ys, sortI (x.L.map (·.1)) = ys := ⟨_, rfl⟩
      rw [hys] at HSo HZr
      have HYs := Lib.hid hys
      have HYl : Hid (ys.length = N) := Lib.hid (by rw [← hys, ← e1, List.length_mergeSort, e2])
      clear hsrt hys e1 hl0
      rw [HE2.out]
      go_wp2_with fail
      refine HSo.out.mono ?_
      rintro r w4 ⟨rfl, hI4, hk4⟩
      have HI4 := Lib.hid hI4
      have HB4 : Hid (Below w.heap.size w w4) := Lib.hid (hk4.below (base := w.heap.size) (fun q hq => by have := HF.out.own.ownBlock q (by rw [HE2.out]; simpa using hq); omega) HF.out.below (by have := HF.out.size; omega))
      clear hI4 hk4 e2
      try dsimp only
      rename_i K9 hK9
      refine hK9 _ _ ?_
      have HO0 := Lib.hid (One.new w4)
      go_wp2_with fail
      go_loopw [25] (fun i wr => ∃ k : Nat, i = .int .i64 (k : Int) ∧ k ≤ N ∧ Hid (One w4.heap.size (addsS [] (spI (ys.take k))) w4 wr)) (fun i _ => N - (intOf i).toNat)
      case atStart => exact ⟨0, rfl, Nat.zero_le _, HO0⟩
      case round =>
        obtain ⟨k, rfl, hk, H5⟩ := hrel
        by_cases hlt : k < N
        · have hd : decide (k < N) = true := decide_eq_true hlt
          have hkI : (k : Int) < N := by omega
          have hky : k < ys.length := by rw [HYl.out]; exact hlt
          obtain ⟨b, off, rfl, hb, hi⟩ := HI4.out.2.resolve_left (by intro e9; rw [e9] at hky; simp at hky)
          obtain ⟨z, hz⟩ : ∃ z, ys[k]? = some z := ⟨_, List.getElem?_eq_getElem hky⟩
          have hzr := HZr.out z (List.mem_of_getElem? hz)
          have k0 := (H5.out.bel.cell (p := ⟨b, off + k, none⟩) hb).trans (hi k hky)
          rw [show ys.getD k 0 = z by simp [List.getD_eq_getElem?_getD, hz]] at k0
          try simp only at k0
          have hsn : addsS [] (spI (ys.take (k + 1))) = addS (addsS [] (spI (ys.take k))) (z, z + 1) := by
            rw [List.take_succ_eq_append_getElem hky, (List.getElem?_eq_some_iff.1 hz).2]
            unfold spI
            rw [List.map_append]
            exact addsS_snoc _ _ _
          have HSn := Lib.hid hsn
          have hll : (addsS [] (spI (ys.take k))).length < 100000 := by
            have h7 := addsS_len [] (spI (ys.take k))
            have h8 : (spI (ys.take k)).length ≤ k := by unfold spI; rw [List.length_map, List.length_take]; exact Nat.min_le_left _ _
            simp only [List.length_nil] at h7
            omega
          have HAd := Lib.hid (H5.out.add (Nm.nil.adds _) hll z (z + 1))
          obtain ⟨s1', hs1⟩ : ∃ s1', wr.heap.size = s1' := ⟨_, rfl⟩
          rw [hs1] at HAd
          have HS1 := Lib.hid hs1
          have hz1 : z + 1 ≤ 9223372036854775807 := by omega
          have hz2 : -9223372036854775808 ≤ z + 1 := by omega
          clear hb hi hz hsn hll hs1 hky
          go_wp2_with fail
          rw [HS1.out]
          refine HAd.out.mono ?_
          rintro r w5 ⟨rfl, h3⟩
          rw [← HSn.out] at h3
          have H6 := Lib.hid h3
          clear h3 HAd HS1 HSn
          try dsimp only
          rename_i K8 hK8
          refine hK8 _ _ ?_
          go_wp2_with fail
          go_roundw
          case rel => exact ⟨k + 1, by go_num, by omega, H6⟩
          case measure => simp [intOf]; omega
        · obtain rfl : k = N := by omega
          have hd : decide (k < k) = false := by simp
          obtain ⟨Mf, hMf, -⟩ := H5.out
          have hbel := H5.out.bel
          rw [List.take_of_length_le (by rw [HYl.out]; exact Nat.le_refl _)] at hMf
          have hll : (addsS [] (spI ys)).length ≤ 1000000 := by
            have h7 := addsS_len [] (spI ys)
            have h9 := HYl.out
            have h8 : (spI ys).length = ys.length := by unfold spI; rw [List.length_map]
            simp only [List.length_nil] at h7
            omega
          obtain ⟨vl, hMf⟩ := hMf
          have HSp := Lib.hid (spans_any hMf (by omega))
          have HBl := Lib.hid hbel
          clear hMf hbel hll H5 hlt
          go_wp2_with fail
          refine HSp.out.mono ?_
          rintro r w5 ⟨v, rfl, h3, h4⟩
          have HEnd : Hid (P (.returned v) w5) := Lib.hid (by
            rw [← HP.out]
            have hsw : w.heap.size ≤ wr.heap.size := Nat.le_trans HB4.out.size HBl.out.size
            refine ⟨v, rfl, ?_, ((HB4.out.trans (HBl.out.mono HB4.out.size)).trans (h4.mono hsw))⟩
            have e9 : spansC x.L = addsS [] (spI ys) := by unfold spansC; rw [HYs.out]
            rw [e9]
            exact h3.weaken hsw)
          clear h3 h4
          try dsimp only
          rename_i K8 hK8
          refine hK8 _ _ ?_
          go_wp2
          exact HEnd.out
    · intro z cv kl y ps w1 cnt1 hkey hlk hv hat hrg1 hlt hg1 hs1 hen
      obtain ⟨z', ez, rfl, hwz⟩ := Maps.keyOf_int_inv Try.underlying3 hkey
      cases ez
      have hne : ∀ q, (u3).ownBlock = some q → some w.heap.size ≠ some q := fun q hq e9 => by have := HF.out.own.ownBlock q hq; injection e9; omega
      have hnm : ∀ q, (u3).ownBlock = some q → some m ≠ some q := fun q hq e9 => by have := HF.out.own.ownBlock q hq; have := HMl.out; injection e9; omega
      have hsz1 := hg1.size
      have ho1 : OwnI (w.heap.size + 1) u3 zs w1 := U.kept_apart HF.out.own hg1 hne
      have hb1 : Below w.heap.size w w1 := HF.out.below.grown hg1 (by have := HF.out.size; omega) (fun q hq => by cases hq; exact Nat.le_refl _)
      have hzl : ((zs.length : Nat) : Int) ≤ 1000000 := by have := HF.out.len; omega
      have HO : Hid (OwnI (w.heap.size + 1) u3 zs (w1.alloc (.cells #[.int .i64 z] 3))) := Lib.hid (ho1.alloc _)
      have HI1 : Hid (IntsIn (some ⟨w1.heap.size, 0, none⟩) 1 [z] (w1.alloc (.cells #[.int .i64 z] 3))) := Lib.hid (ints_one w1 _ _)
      have HZl := Lib.hid hzl
      have HSz1 : Hid (w.heap.size + 1 ≤ w1.heap.size) := Lib.hid (by have := HF.out.size; omega)
      have HSz2 : Hid (w.heap.size + 1 ≤ (w1.alloc (.cells #[.int .i64 z] 3)).heap.size) := Lib.hid (by have := HSz1.out; simp; omega)
      have HRg := Lib.hid hrg1
      have HCol := Lib.hid (HF.out.col.step hlk hat)
      have HB1 := Lib.hid hb1
      have HNe := Lib.hid hne
      have HNm := Lib.hid hnm
      have HLt := Lib.hid hlt
      clear hkey hlk hv hat hrg1 hlt hg1 hs1 hsz1 ho1 hb1 hzl hne hnm hwz
      go_wp2_with (at_builtin; go_loud (refine wpList_append_ints rfl _ _ rfl rfl (w.heap.size + 1) u3 zs (some ⟨w1.heap.size, 0, none⟩) 1 1 [z] rfl rfl HO.out HI1.out (fun e => by cases e) HZl.out (by simp) HSz2.out ?_))
      intro v' w3 hown' hgr
      have hrg3 := (HRg.out.alloc (.cells #[.int .i64 z] 3)).kept hgr (fun e9 => HNm.out m e9.symm rfl) (fun e9 => HNe.out _ e9.symm rfl)
      have hb3 : Below w.heap.size w w3 := (HB1.out.alloc (by have := HSz1.out; omega) _).grown hgr (by have := HSz2.out; omega) (fun q hq => by have := HO.out.ownBlock q hq; omega)
      have hs3 : w.heap.size + 1 ≤ w3.heap.size := Nat.le_trans HSz2.out hgr.size
      have HE : Hid (RgI m w.heap.size N D (fun zz => left zz && !zz.sameKey (kz z)) cnt1 (zs ++ [z]) v' w w3) := Lib.hid ⟨hrg3, HCol.out, hown', hb3, hs3, by have := HF.out.len; have := HLt.out; simp; omega⟩
      have HM9 : Hid (w3.rangeLeft m w.heap.size < wr.rangeLeft m w.heap.size) := Lib.hid (by rw [hrg3.left_eq, HF.out.rg.left_eq]; exact HLt.out)
      clear hown' hgr hrg3 hb3 hs3 hen
      go_wp2_with fail
      go_roundw
      case rel => exact ⟨_, _, _, HE⟩
      case measure => exact HM9.out
end Go.Proofs.Ytgagkmlkoeceiaa.C
