/- The contracts of slices.Grow of none, and of slices.Concat, at cells. -/
import Derived.Test.YtkggmcnocpgnbaaDoorVPut
import Derived.Lib.AppendZeros
import Derived.Lib.Buffer
namespace Go.Proofs.YtkggmcnocpgnbaaDoor.K
open Go.RowKit

set_option maxRecDepth 100000 in
set_option maxHeartbeats 4000000 in
theorem grow_any (n : Nat) (hn : (n : Int) ≤ 3000000) (w : World) : Calls Tryd.prog 120 #[.slice none 0 0, .int .i64 (n : Int)] w (CelPost 105 w.heap.size [] w) := by
  obtain ⟨P, hP⟩ : ∃ P, CelPost 105 w.heap.size [] w = P := ⟨_, rfl⟩
  rw [hP]
  have HP := Lib.hid hP
  clear hP
  have hneg : decide ((n : Int) < 0) = false := decide_eq_false (by omega)
  by_cases h0 : n = 0
  · subst h0
    go_enter Tryd.func120, Tryd.ntmps120
    go_wp2_with fail
    rw [← HP.out]
    exact ⟨_, rfl, OwnC.nil _ _ _ _, Below.refl _ _⟩
  · obtain ⟨i0, hin, hz0, hz1, hz2⟩ := info_parts rowT.info
    have happ := Lib.run_append_nil_zeros (P := Tryd.prog) w 25 3 25 105 i0 _ .i64 .i64 Tryd.underlying25 Tryd.underlying3 hin hz0 n (by omega) (by rw [hz1]; decide) (by omega) (by rw [hz2]; omega)
    have hg1 : n ≤ grownCap w n 0 105 := grownCap_ge w _ 0 _
    have hg2 : grownCap w n 0 105 ≤ maxLen := grownCap_le_maxLen w _ 0 _ (by unfold maxLen; omega)
    obtain ⟨cap, hcap⟩ : ∃ cap, grownCap w n 0 105 = cap := ⟨_, rfl⟩
    rw [hcap] at happ hg1 hg2
    obtain ⟨Z, hZ⟩ : ∃ Z, (Builtin.zeroCells (Value.agg #[.int .i32 0, .int .i64 0, .int .i64 0]).cells n ++ Builtin.zeroCells (Value.agg #[.int .i32 0, .int .i64 0, .int .i64 0]).cells (cap - n)) = Z := ⟨_, rfl⟩
    have hZs : Z.size = cap * 3 := by
      rw [← hZ, Array.size_append, size_zeroCells, size_zeroCells, show (Value.agg #[.int .i32 0, .int .i64 0, .int .i64 0]).cells.size = 3 from rfl, ← Nat.add_mul]
      congr 1
      omega
    rw [hZ] at happ
    have hpos : decide (0 < n) = true := decide_eq_true (by omega)
    have hOw : OwnC .i32 105 w.heap.size (.slice (some ⟨w.heap.size, 0, none⟩) 0 cap) [] (w.drew.alloc (.cells Z 105)) :=
      ⟨rfl, .inr ⟨w.heap.size, cap, Z, rfl, Nat.le_refl _, World.alloc_heap_new w.drew _, Nat.zero_le _, hg2, hZs, rfl⟩⟩
    have hBl : Below w.heap.size w (w.drew.alloc (.cells Z 105)) := (Below.refl _ _).drew.alloc (Nat.le_refl _) _
    have HOw := Lib.hid hOw
    have HBl := Lib.hid hBl
    have hcn : (n : Int) ≤ cap := by omega
    have HApp := Lib.hid happ
    clear hOw hBl hZs hZ hcap hg2 hin hz0 hz1 hz2 h0 happ
    go_enter Tryd.func120, Tryd.ntmps120
    go_wp2_with (at_builtin; refine Lib.wpList_append_run _ rfl _ _ _ _ rfl _ _ rfl rfl _ _ HApp.out ?_)
    go_wp2_with fail
    rw [← HP.out]
    exact ⟨_, rfl, HOw.out, HBl.out⟩
/-- one of the slices that are put together -/
structure Seg where
  a : Option Addr
  n : Nat
  c : Nat
  l : List Cel
def totL (ss : List Seg) : Nat := (ss.map (·.n)).sum
def catL (ss : List Seg) : List Cel := ss.flatMap (·.l)
theorem totL_succ {ss : List Seg} {j : Nat} (h : j < ss.length) : totL (ss.take (j + 1)) = totL (ss.take j) + ss[j].n := by
  unfold totL
  rw [List.take_succ_eq_append_getElem h, List.map_append, List.sum_append]
  simp
theorem catL_succ {ss : List Seg} {j : Nat} (h : j < ss.length) : catL (ss.take (j + 1)) = catL (ss.take j) ++ ss[j].l := by
  unfold catL
  rw [List.take_succ_eq_append_getElem h, List.flatMap_append]
  simp
theorem totL_le {ss : List Seg} (j : Nat) : totL (ss.take j) ≤ totL ss := by
  have h := List.take_append_drop j ss
  unfold totL
  conv => rhs; rw [← h]
  rw [List.map_append, List.sum_append]
  omega
theorem catL_length : ∀ {ss : List Seg}, (∀ s ∈ ss, s.n = s.l.length) → (catL ss).length = totL ss
  | [], _ => rfl
  | s :: ss, h => by
    have ih := catL_length (ss := ss) (fun x hx => h x (by simp [hx]))
    unfold catL totL at ih ⊢
    rw [List.flatMap_cons, List.length_append, ih, List.map_cons, List.sum_cons, h s (by simp)]

set_option maxRecDepth 100000 in
set_option maxHeartbeats 8000000 in
theorem concat_any (b k k2 : Nat) (ss : List Seg) (w : World) (hlen : ss.length = k) (hb : b < w.heap.size) (hcell : ∀ i (h : i < ss.length), w.cell? ⟨b, i, none⟩ = some (.slice ss[i].a ss[i].n ss[i].c))
    (hin : ∀ i (h : i < ss.length), CelsIn .i32 ss[i].a ss[i].n ss[i].l w ∧ (ss[i].a = none → ss[i].c = 0)) (htot : (totL ss : Int) ≤ 1000000) (hk : (k : Int) ≤ 1000) (hk2 : k ≤ k2) :
    Calls Tryd.prog 107 #[.slice (some ⟨b, 0, none⟩) k k2] w (CelPost 105 w.heap.size (catL ss) w) := by
  obtain ⟨P, hP⟩ : ∃ P, CelPost 105 w.heap.size (catL ss) w = P := ⟨_, rfl⟩
  rw [hP]
  have HP := Lib.hid hP
  obtain ⟨rb, hrb⟩ : ∃ rb, w.heap.size = rb := ⟨_, rfl⟩
  have HRb := Lib.hid hrb
  have HLen := Lib.hid hlen
  have HB := Lib.hid hb
  have HCell := Lib.hid hcell
  have HIn := Lib.hid hin
  have HTot := Lib.hid htot
  obtain ⟨S, hS⟩ : ∃ S, totL ss = S := ⟨_, rfl⟩
  have hS1 : (S : Int) ≤ 1000000 := by rw [← hS]; exact htot
  have HS := Lib.hid hS
  have HG := Lib.hid (grow_any S (by omega) w)
  clear hP hlen hb hcell hin htot hrb hS
  go_enter Tryd.func107, Tryd.ntmps107
  go_wp2_with fail
  go_loopw [3, 11] (fun z i wr => ∃ j t : Nat, i = .int .i64 (j : Int) ∧ z = .int .i64 (t : Int) ∧ j ≤ k ∧ (t : Int) ≤ 1000000 ∧ Hid (t = totL (ss.take j)) ∧ w = wr) (fun _ i _ => k - (intOf i).toNat)
  case atStart => exact ⟨0, 0, rfl, rfl, by omega, by omega, Lib.hid rfl, rfl⟩
  case round =>
    obtain ⟨j, t, rfl, rfl, hj, ht, HT, rfl⟩ := hrel
    by_cases hlt : j < k
    · have hd : decide (j < k) = true := by simp; omega
      have hjl : j < ss.length := by rw [HLen.out]; exact hlt
      have c0 := HCell.out j hjl
      have hsc := totL_succ hjl
      have hle := totL_le (ss := ss) (j + 1)
      rw [HS.out] at hle
      obtain ⟨sg, hsg⟩ : ∃ sg, ss[j] = sg := ⟨_, rfl⟩
      rw [hsg] at c0 hsc
      obtain ⟨sa, sn, sc, sl⟩ := sg
      simp only at c0 hsc
      have hneg : decide ((t : Int) + (sn : Int) < 0) = false := decide_eq_false (by omega)
      have hts : (t : Int) + (sn : Int) ≤ 1000000 := by have := HT.out; omega
      have HT' : Hid (t + sn = totL (ss.take (j + 1))) := Lib.hid (by rw [hsc, ← HT.out])
      have hsn : (sn : Int) ≤ 1000000 := by omega
      clear hsc hle hsg
      go_wp2_with fail
      go_roundw
      case rel => exact ⟨j + 1, t + sn, by go_num, by go_num, by omega, by omega, HT', by first | rfl | trivial⟩
      case measure => simp [intOf]; omega
    · obtain rfl : j = k := by omega
      have hd : decide ((j : Int) < (j : Int)) = false := by simp
      have hfin : ss.take j = ss := List.take_of_length_le (Nat.le_of_eq HLen.out)
      have htS : t = S := by rw [HT.out, hfin, HS.out]
      subst htS
      clear hfin
      go_wp2_with (go_at_call 120; refine HG.out.mono ?_; rintro e w1 ⟨v1, rfl, hO1, hb1⟩)
      go_loopw [6, 27] (fun v i wr => ∃ q : Nat, i = .int .i64 (q : Int) ∧ q ≤ j ∧ Hid (OwnC .i32 105 rb v (catL (ss.take q)) wr ∧ Below rb w wr)) (fun _ i _ => j - (intOf i).toNat)
      case atStart => exact ⟨0, rfl, by omega, Lib.hid ⟨by rw [← HRb.out]; exact hO1, by rw [← HRb.out]; exact hb1⟩⟩
      case round =>
        obtain ⟨q, rfl, hq, HF⟩ := hrel
        by_cases hlq : q < j
        · have hdq : decide (q < j) = true := by simp; omega
          have hql : q < ss.length := by rw [HLen.out]; exact hlq
          have c0 := (HF.out.2.cell (p := ⟨b, q, none⟩) (by show b < rb; rw [← HRb.out]; exact HB.out)).trans (HCell.out q hql)
          obtain ⟨hi, hni⟩ := HIn.out q hql
          have hcs := catL_succ hql
          have hcl : (catL (ss.take q)).length = totL (ss.take q) := catL_length (fun s hs => by
            obtain ⟨i, hi', rfl⟩ := List.mem_iff_getElem.1 hs
            have := (HIn.out i (by rw [List.length_take] at hi'; omega)).1.len
            rw [List.getElem_take]
            exact this)
          have hle := totL_le (ss := ss) q
          have hle2 := totL_le (ss := ss) (q + 1)
          rw [totL_succ hql] at hle2
          obtain ⟨sg, hsg⟩ : ∃ sg, ss[q] = sg := ⟨_, rfl⟩
          rw [hsg] at c0 hi hni hcs hle2
          obtain ⟨sa, sn, sc, sl⟩ := sg
          simp only at c0 hi hni hcs hle2
          have HL1 : Hid (((catL (ss.take q)).length : Int) ≤ 1000000) := Lib.hid (by rw [hcl]; have := HTot.out; omega)
          have HL2 : Hid ((sl.length : Int) ≤ 1000000) := Lib.hid (by rw [← hi.len]; have := HTot.out; omega)
          have HI : Hid (CelsIn .i32 sa sn sl wr) := Lib.hid (hi.belowAll (by rw [HRb.out]; exact HF.out.2))
          have HNi := Lib.hid hni
          have HCs := Lib.hid hcs
          have HSz : Hid (rb ≤ wr.heap.size) := Lib.hid (by have := HF.out.2.size; have := HRb.out; omega)
          have HO := Lib.hid HF.out.1
          clear hi hni hcs hcl hle hle2 hsg
          go_wp2_with (at_builtin; refine wpList_append_cells rowT rfl _ _ rfl rfl rb _ (catL (ss.take q)) sa sn sc sl rfl rfl HO.out HI.out HNi.out HL1.out HL2.out HSz.out ?_)
          intro v' w' hown hg
          have HF' : Hid (OwnC .i32 105 rb v' (catL (ss.take (q + 1))) w' ∧ Below rb w w') := Lib.hid ⟨by rw [HCs.out]; exact hown, HF.out.2.grown hg.grown HSz.out (fun p hp => (HF.out.1.ownBlock p hp).1)⟩
          clear hown hg
          go_wp2
          go_roundw
          case rel => exact ⟨q + 1, by go_num, by omega, HF'⟩
          case measure => simp [intOf]; omega
        · obtain rfl : q = j := by omega
          have hdq : decide ((q : Int) < (q : Int)) = false := by simp
          have hfin : ss.take q = ss := List.take_of_length_le (Nat.le_of_eq HLen.out)
          have HE := Lib.hid hfin
          clear hfin
          go_wp2_with fail
          rw [← HP.out]
          have h := HF.out
          rw [HE.out] at h
          exact ⟨_, rfl, by rw [HRb.out]; exact h.1, by rw [HRb.out]; exact h.2⟩
end Go.Proofs.YtkggmcnocpgnbaaDoor.K
