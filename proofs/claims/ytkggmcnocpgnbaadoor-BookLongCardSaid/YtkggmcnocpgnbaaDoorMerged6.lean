/- The contracts of slices.Grow of none, and of slices.Concat, at cells. -/
import Derived.Test.YtkggmcnocpgnbaaDoorMerged4
import Derived.Lib.AppendZeros
import Derived.Lib.Buffer
import Derived.Test.YtkggmcnocpgnbaaDoorRelV
namespace Go.Proofs.YtkggmcnocpgnbaaDoor.K
open Go.RowKit

set_option maxRecDepth 100000 in
set_option maxHeartbeats 4000000 in
theorem grow_any (n : Nat) (hn : (n : Int) ≤ 3000000) (w : World) : Calls Tryd.prog 120 #[.slice none 0 0, .int .i64 (n : Int)] w (CelPost 105 w.heap.size [] w) := by
  obtain ⟨P, hP⟩ : ∃ P, CelPost 105 w.heap.size [] w = P := ⟨_, rfl⟩
  rw [hP]
  have HP := Lib.hid hP
  clear hP
  have hneg : decide ((n : Int) < 0) = false := decide_eq_false (by omega)
  by_cases h0 : n = 0
  · subst h0
    go_enter Tryd.func120, Tryd.ntmps120
    go_wp2_with fail
    rw [← HP.out]
    exact ⟨_, rfl, OwnC.nil _ _ _ _, Below.refl _ _⟩
  · obtain ⟨i0, hin, hz0, hz1, hz2⟩ := info_parts rowT.info
    have happ := Lib.run_append_nil_zeros (P := Tryd.prog) w 25 3 25 105 i0 _ .i64 .i64 Tryd.underlying25 Tryd.underlying3 hin hz0 n (by omega) (by rw [hz1]; decide) (by omega) (by rw [hz2]; omega)
    have hg1 : n ≤ grownCap w n 0 105 := grownCap_ge w _ 0 _
    have hg2 : grownCap w n 0 105 ≤ maxLen := grownCap_le_maxLen w _ 0 _ (by unfold maxLen; omega)
    obtain ⟨cap, hcap⟩ : ∃ cap, grownCap w n 0 105 = cap := ⟨_, rfl⟩
    rw [hcap] at happ hg1 hg2
    obtain ⟨Z, hZ⟩ : ∃ Z, (Builtin.zeroCells (Value.agg #[.int .i32 0, .int .i64 0, .int .i64 0]).cells n ++ Builtin.zeroCells (Value.agg #[.int .i32 0, .int .i64 0, .int .i64 0]).cells (cap - n)) = Z := ⟨_, rfl⟩
    have hZs : Z.size = cap * 3 := by
      rw [← hZ, Array.size_append, size_zeroCells, size_zeroCells, show (Value.agg #[.int .i32 0, .int .i64 0, .int .i64 0]).cells.size = 3 from rfl, ← Nat.add_mul]
      congr 1
      omega
    rw [hZ] at happ
    have hpos : decide (0 < n) = true := decide_eq_true (by omega)
    have hOw : OwnC .i32 105 w.heap.size (.slice (some ⟨w.heap.size, 0, none⟩) 0 cap) [] (w.drew.alloc (.cells Z 105)) :=
      ⟨rfl, .inr ⟨w.heap.size, cap, Z, rfl, Nat.le_refl _, World.alloc_heap_new w.drew _, Nat.zero_le _, hg2, hZs, rfl⟩⟩
    have hBl : Below w.heap.size w (w.drew.alloc (.cells Z 105)) := (Below.refl _ _).drew.alloc (Nat.le_refl _) _
    have HOw := Lib.hid hOw
    have HBl := Lib.hid hBl
    have hcn : (n : Int) ≤ cap := by omega
    have HApp := Lib.hid happ
    clear hOw hBl hZs hZ hcap hg2 hin hz0 hz1 hz2 h0 happ
    go_enter Tryd.func120, Tryd.ntmps120
    go_wp2_with (at_builtin; refine Lib.wpList_append_run _ rfl _ _ _ _ rfl _ _ rfl rfl _ _ HApp.out ?_)
    go_wp2_with fail
    rw [← HP.out]
    exact ⟨_, rfl, HOw.out, HBl.out⟩
/-- one of the slices that are put together -/
structure Seg where
  a : Option Addr
  n : Nat
  c : Nat
  l : List Cel
def totL (ss : List Seg) : Nat := (ss.map (·.n)).sum
def catL (ss : List Seg) : List Cel := ss.flatMap (·.l)
theorem totL_succ {ss : List Seg} {j : Nat} (h : j < ss.length) : totL (ss.take (j + 1)) = totL (ss.take j) + ss[j].n := by
  unfold totL
  rw [List.take_succ_eq_append_getElem h, List.map_append, List.sum_append]
  simp
theorem catL_succ {ss : List Seg} {j : Nat} (h : j < ss.length) : catL (ss.take (j + 1)) = catL (ss.take j) ++ ss[j].l := by
  unfold catL
  rw [List.take_succ_eq_append_getElem h, List.flatMap_append]
  simp
theorem totL_le {ss : List Seg} (j : Nat) : totL (ss.take j) ≤ totL ss := by
  have h := List.take_append_drop j ss
  unfold totL
  conv => rhs; rw [← h]
  rw [List.map_append, List.sum_append]
  omega
theorem catL_length : ∀ {ss : List Seg}, (∀ s ∈ ss, s.n = s.l.length) → (catL ss).length = totL ss
  | [], _ => rfl
  | s :: ss, h => by
    have ih := catL_length (ss := ss) (fun x hx => h x (by simp [hx]))
    unfold catL totL at ih ⊢
    rw [List.flatMap_cons, List.length_append, ih, List.map_cons, List.sum_cons, h s (by simp)]

set_option maxRecDepth 100000 in
set_option maxHeartbeats 8000000 in
theorem concat_any (b k k2 : Nat) (ss : List Seg) (w : World) (hlen : ss.length = k) (hb : b < w.heap.size) (hcell : ∀ i (h : i < ss.length), w.cell? ⟨b, i, none⟩ = some (.slice ss[i].a ss[i].n ss[i].c))
    (hin : ∀ i (h : i < ss.length), CelsIn .i32 ss[i].a ss[i].n ss[i].l w ∧ (ss[i].a = none → ss[i].c = 0)) (htot : (totL ss : Int) ≤ 1000000) (hk : (k : Int) ≤ 1000) (hk2 : k ≤ k2) :
    Calls Tryd.prog 107 #[.slice (some ⟨b, 0, none⟩) k k2] w (CelPost 105 w.heap.size (catL ss) w) := by
  obtain ⟨P, hP⟩ : ∃ P, CelPost 105 w.heap.size (catL ss) w = P := ⟨_, rfl⟩
  rw [hP]
  have HP := Lib.hid hP
  obtain ⟨rb, hrb⟩ : ∃ rb, w.heap.size = rb := ⟨_, rfl⟩
  have HRb := Lib.hid hrb
  have HLen := Lib.hid hlen
  have HB := Lib.hid hb
  have HCell := Lib.hid hcell
  have HIn := Lib.hid hin
  have HTot := Lib.hid htot
  obtain ⟨S, hS⟩ : ∃ S, totL ss = S := ⟨_, rfl⟩
  have hS1 : (S : Int) ≤ 1000000 := by rw [← hS]; exact htot
  have HS := Lib.hid hS
  have HG := Lib.hid (grow_any S (by omega) w)
  clear hP hlen hb hcell hin htot hrb hS
  go_enter Tryd.func107, Tryd.ntmps107
  go_wp2_with fail
  go_loopw [3, 11] (fun z i wr => ∃ j t : Nat, i = .int .i64 (j : Int) ∧ z = .int .i64 (t : Int) ∧ j ≤ k ∧ (t : Int) ≤ 1000000 ∧ Hid (t = totL (ss.take j)) ∧ w = wr) (fun _ i _ => k - (intOf i).toNat)
  case atStart => exact ⟨0, 0, rfl, rfl, by omega, by omega, Lib.hid rfl, rfl⟩
  case round =>
    obtain ⟨j, t, rfl, rfl, hj, ht, HT, rfl⟩ := hrel
    by_cases hlt : j < k
    · have hd : decide (j < k) = true := by simp; omega
      have hjl : j < ss.length := by rw [HLen.out]; exact hlt
      have c0 := HCell.out j hjl
      have hsc := totL_succ hjl
      have hle := totL_le (ss := ss) (j + 1)
      rw [HS.out] at hle
      obtain ⟨sg, hsg⟩ : ∃ sg, ss[j] = sg := ⟨_, rfl⟩
      rw [hsg] at c0 hsc
      obtain ⟨sa, sn, sc, sl⟩ := sg
      simp only at c0 hsc
      have hneg : decide ((t : Int) + (sn : Int) < 0) = false := decide_eq_false (by omega)
      have hts : (t : Int) + (sn : Int) ≤ 1000000 := by have := HT.out; omega
      have HT' : Hid (t + sn = totL (ss.take (j + 1))) := Lib.hid (by rw [hsc, ← HT.out])
      have hsn : (sn : Int) ≤ 1000000 := by omega
      clear hsc hle hsg
      go_wp2_with fail
      go_roundw
      case rel => exact ⟨j + 1, t + sn, by go_num, by go_num, by omega, by omega, HT', by first | rfl | trivial⟩
      case measure => simp [intOf]; omega
    · obtain rfl : j = k := by omega
      have hd : decide ((j : Int) < (j : Int)) = false := by simp
      have hfin : ss.take j = ss := List.take_of_length_le (Nat.le_of_eq HLen.out)
      have htS : t = S := by rw [HT.out, hfin, HS.out]
      subst htS
      clear hfin
      go_wp2_with (go_at_call 120; refine HG.out.mono ?_; rintro e w1 ⟨v1, rfl, hO1, hb1⟩)
      go_loopw [6, 27] (fun v i wr => ∃ q : Nat, i = .int .i64 (q : Int) ∧ q ≤ j ∧ Hid (OwnC .i32 105 rb v (catL (ss.take q)) wr ∧ Below rb w wr)) (fun _ i _ => j - (intOf i).toNat)
      case atStart => exact ⟨0, rfl, by omega, Lib.hid ⟨by rw [← HRb.out]; exact hO1, by rw [← HRb.out]; exact hb1⟩⟩
      case round =>
        obtain ⟨q, rfl, hq, HF⟩ := hrel
        by_cases hlq : q < j
        · have hdq : decide (q < j) = true := by simp; omega
          have hql : q < ss.length := by rw [HLen.out]; exact hlq
          have c0 := (HF.out.2.cell (p := ⟨b, q, none⟩) (by show b < rb; rw [← HRb.out]; exact HB.out)).trans (HCell.out q hql)
          obtain ⟨hi, hni⟩ := HIn.out q hql
          have hcs := catL_succ hql
          have hcl : (catL (ss.take q)).length = totL (ss.take q) := catL_length (fun s hs => by
            obtain ⟨i, hi', rfl⟩ := List.mem_iff_getElem.1 hs
            have := (HIn.out i (by rw [List.length_take] at hi'; omega)).1.len
            rw [List.getElem_take]
            exact this)
          have hle := totL_le (ss := ss) q
          have hle2 := totL_le (ss := ss) (q + 1)
          rw [totL_succ hql] at hle2
          obtain ⟨sg, hsg⟩ : ∃ sg, ss[q] = sg := ⟨_, rfl⟩
          rw [hsg] at c0 hi hni hcs hle2
          obtain ⟨sa, sn, sc, sl⟩ := sg
          simp only at c0 hi hni hcs hle2
          have HL1 : Hid (((catL (ss.take q)).length : Int) ≤ 1000000) := Lib.hid (by rw [hcl]; have := HTot.out; omega)
          have HL2 : Hid ((sl.length : Int) ≤ 1000000) := Lib.hid (by rw [← hi.len]; have := HTot.out; omega)
          have HI : Hid (CelsIn .i32 sa sn sl wr) := Lib.hid (hi.belowAll (by rw [HRb.out]; exact HF.out.2))
          have HNi := Lib.hid hni
          have HCs := Lib.hid hcs
          have HSz : Hid (rb ≤ wr.heap.size) := Lib.hid (by have := HF.out.2.size; have := HRb.out; omega)
          have HO := Lib.hid HF.out.1
          clear hi hni hcs hcl hle hle2 hsg
          go_wp2_with (at_builtin; refine wpList_append_cells rowT rfl _ _ rfl rfl rb _ (catL (ss.take q)) sa sn sc sl rfl rfl HO.out HI.out HNi.out HL1.out HL2.out HSz.out ?_)
          intro v' w' hown hg
          have HF' : Hid (OwnC .i32 105 rb v' (catL (ss.take (q + 1))) w' ∧ Below rb w w') := Lib.hid ⟨by rw [HCs.out]; exact hown, HF.out.2.grown hg.grown HSz.out (fun p hp => (HF.out.1.ownBlock p hp).1)⟩
          clear hown hg
          go_wp2
          go_roundw
          case rel => exact ⟨q + 1, by go_num, by omega, HF'⟩
          case measure => simp [intOf]; omega
        · obtain rfl : q = j := by omega
          have hdq : decide ((q : Int) < (q : Int)) = false := by simp
          have hfin : ss.take q = ss := List.take_of_length_le (Nat.le_of_eq HLen.out)
          have HE := Lib.hid hfin
          clear hfin
          go_wp2_with fail
          rw [← HP.out]
          have h := HF.out
          rw [HE.out] at h
          exact ⟨_, rfl, by rw [HRb.out]; exact h.1, by rw [HRb.out]; exact h.2⟩
end Go.Proofs.YtkggmcnocpgnbaaDoor.K

/- The contract of the program's some; slices of cells, as they are put together. -/
namespace Go.Proofs.YtkggmcnocpgnbaaDoor.K
open Go.RowKit

def someS (n : Nat) (at_ k : Int) : Nat × Nat := if at_ < 0 ∨ (n : Int) ≤ at_ then (0, 0) else (at_.toNat, (nearS k (n - at_)).toNat)
theorem someS_le (n : Nat) (at_ k : Int) : (someS n at_ k).1 + (someS n at_ k).2 ≤ n := by
  unfold someS nearS
  split
  · simp
  · simp only; omega
set_option maxRecDepth 100000 in
set_option maxHeartbeats 4000000 in
theorem some_any (a : Option Addr) (n c : Nat) (wr0 : Bool) (at_ k : Int) (w : World) (hn : (n : Int) ≤ 1000000) :
    Calls Tryd.prog 118 #[.agg #[.slice a n c, .bool wr0], .int .i64 at_, .int .i64 k] w fun e w' => e = .returned (.tuple #[.int .i64 ((someS n at_ k).1 : Int), .int .i64 ((someS n at_ k).2 : Int)]) ∧ Below w.heap.size w w' := by
  obtain ⟨rb, hrb⟩ : ∃ rb, w.heap.size = rb := ⟨_, rfl⟩
  rw [hrb]
  obtain ⟨w1, hw1⟩ : ∃ w1, w.alloc (.cells #[.slice a n c, .bool wr0] 27) = w1 := ⟨_, rfl⟩
  have hb1 : Below rb w w1 := by rw [← hw1, ← hrb]; exact (Below.refl _ _).alloc (Nat.le_refl _) _
  have hr1 : RoB 27 rb (.slice a n c) wr0 w1 := by rw [← hw1, ← hrb]; exact RoB.new _ _ _ _
  have c0 := hr1.c0
  have HB1 := Lib.hid hb1
  have HW1 := Lib.hid hw1
  have HRb := Lib.hid hrb
  clear hb1 hr1 hw1 hrb
  by_cases h1 : at_ < 0
  · have hS : someS n at_ k = (0, 0) := by unfold someS; rw [if_pos (.inl h1)]
    rw [hS]
    have d1 : decide (at_ < 0) = true := decide_eq_true h1
    clear h1 hS
    go_enter Tryd.func118, Tryd.ntmps118
    go_upto_region 1 with fail
    rw [HW1.out, HRb.out]
    go_wp2_with fail
    exact bodyPost_ret (results_tmp2 rfl _ _ _) rfl ⟨rfl, HB1.out⟩
  · have d1 : decide (at_ < 0) = false := decide_eq_false h1
    by_cases h2 : (n : Int) ≤ at_
    · have hS : someS n at_ k = (0, 0) := by unfold someS; rw [if_pos (.inr h2)]
      rw [hS]
      have d2 : decide ((n : Int) ≤ at_) = true := decide_eq_true h2
      clear h1 h2 hS
      go_enter Tryd.func118, Tryd.ntmps118
      go_upto_region 1 with fail
      rw [HW1.out, HRb.out]
      go_wp2_with fail
      exact bodyPost_ret (results_tmp2 rfl _ _ _) rfl ⟨rfl, HB1.out⟩
    · obtain ⟨A, rfl⟩ : ∃ A : Nat, at_ = (A : Int) := ⟨at_.toNat, by omega⟩
      have d2 : decide (n ≤ A) = false := decide_eq_false (by omega)
      obtain ⟨M, hM⟩ : ∃ M : Nat, (n : Int) - (A : Int) = (M : Int) := ⟨n - A, by omega⟩
      obtain ⟨q, hq, hqM⟩ := nearS_nat k M
      have hS : someS n A k = (A, q) := by
        unfold someS
        rw [if_neg (by omega), hM, hq]
        rfl
      rw [hS]
      have HNe := Lib.hid (fun (v : World) => nearest_any k M v)
      rw [hq] at HNe
      clear h1 h2 hS hq
      go_enter Tryd.func118, Tryd.ntmps118
      go_upto_region 1 with fail
      rw [HW1.out, HRb.out]
      go_wp2_with (go_at_call 49; refine (HNe.out _).mono ?_; rintro e w' ⟨rfl, rfl⟩)
      exact bodyPost_ret (results_tmp2 rfl _ _ _) rfl ⟨rfl, HB1.out⟩
/-- a slice of these cells -/
def SegAt (v : Value) (l : List Cel) (w : World) : Prop := ∃ x n c, v = .slice x n c ∧ CelsIn .i32 x n l w ∧ (x = none → c = 0) ∧ n ≤ c
theorem SegAt.belowAll {v : Value} {l : List Cel} {w w' : World} (h : SegAt v l w) (hb : Below w.heap.size w w') : SegAt v l w' := by
  obtain ⟨x, n, c, rfl, h1, h2, h3⟩ := h
  exact ⟨x, n, c, rfl, h1.belowAll hb, h2, h3⟩
theorem OwnC.seg {T : TypeId} {base : Nat} {v : Value} {l : List Cel} {w : World} (h : OwnC .i32 T base v l w) : SegAt v l w := by
  obtain ⟨a, c, rfl, h1, _, h2, h3, _⟩ := h.shape
  exact ⟨a, _, c, rfl, h1, h2, h3⟩
theorem CelsIn.dropOf {rk : IntKind} {a : Option Addr} {n : Nat} {l : List Cel} {w : World} (h : CelsIn rk a n l w) {k : Nat} (hk : k ≤ n) (c : Nat) (hc : n ≤ c) : CelsIn rk (if c = k then a else a.map (fun x => x.add (k * 3))) (n - k) (l.drop k) w := by
  have hl := h.len
  rcases h.at_ with e | ⟨b, off, ha, hb, hi⟩
  · refine ⟨by rw [List.length_drop]; omega, .inl (by rw [e]; simp)⟩
  · by_cases hck : c = k
    · rw [if_pos hck]
      refine ⟨by rw [List.length_drop]; omega, .inl (List.eq_nil_of_length_eq_zero (by rw [List.length_drop]; omega))⟩
    · rw [if_neg hck, ha]
      have hadd : ((⟨b, off, none⟩ : Addr).add (k * 3)) = ⟨b, off + k * 3, none⟩ := by unfold Addr.add; split <;> simp_all
      show CelsIn rk (some ((⟨b, off, none⟩ : Addr).add (k * 3))) _ _ _
      rw [hadd]
      rw [ha] at h
      exact CelsIn.drop h hk
theorem SegAt.cut {a : Option Addr} {n c : Nat} {l : List Cel} {w : World} (h : CelsIn .i32 a n l w) (h0 : a = none → c = 0) (hc : n ≤ c) {lo hi : Nat} (h1 : lo ≤ hi) (h2 : hi ≤ n) : SegAt (.slice (if c = lo then a else a.map (fun x => x.add (lo * 3))) (hi - lo) (c - lo)) ((l.take hi).drop lo) w := by
  refine ⟨_, _, _, rfl, (h.take h2).dropOf h1 c (by omega), fun e => ?_, by omega⟩
  split at e
  · omega
  · cases a with
    | none => have := h0 rfl; omega
    | some x => cases e
theorem SegAt.front {a : Option Addr} {n c : Nat} {l : List Cel} {w : World} (h : CelsIn .i32 a n l w) (h0 : a = none → c = 0) (hc : n ≤ c) {hi : Nat} (h2 : hi ≤ n) : SegAt (.slice a hi c) (l.take hi) w := ⟨_, _, _, rfl, h.take h2, h0, by omega⟩
theorem SegAt.back {a : Option Addr} {n c : Nat} {l : List Cel} {w : World} (h : CelsIn .i32 a n l w) (h0 : a = none → c = 0) (hc : n ≤ c) {lo : Nat} (h1 : lo ≤ n) : SegAt (.slice (if c = lo then a else a.map (fun x => x.add (lo * 3))) (n - lo) (c - lo)) (l.drop lo) w := by
  have := SegAt.cut h h0 hc h1 (Nat.le_refl n)
  rw [List.take_of_length_le (Nat.le_of_eq h.len.symm)] at this
  exact this
/-- put together out of a new slice of slices -/
theorem concat3 (v1 v2 v3 : Value) (l1 l2 l3 : List Cel) (w : World) (T : TypeId) (h1 : SegAt v1 l1 w) (h2 : SegAt v2 l2 w) (h3 : SegAt v3 l3 w) (hn : ((l1.length + l2.length + l3.length : Nat) : Int) ≤ 1000000) :
    Calls Tryd.prog 107 #[.slice (some ⟨w.heap.size, 0, none⟩) 3 3] (w.alloc (.cells #[v1, v2, v3] T)) (CelPost 105 (w.heap.size + 1) (l1 ++ l2 ++ l3) (w.alloc (.cells #[v1, v2, v3] T))) := by
  have hb : Below w.heap.size w (w.alloc (.cells #[v1, v2, v3] T)) := (Below.refl _ _).alloc (Nat.le_refl _) _
  obtain ⟨x1, n1, c1, rfl, i1, z1, -⟩ := h1.belowAll hb
  obtain ⟨x2, n2, c2, rfl, i2, z2, -⟩ := h2.belowAll hb
  obtain ⟨x3, n3, c3, rfl, i3, z3, -⟩ := h3.belowAll hb
  have h := concat_any w.heap.size 3 3 [⟨x1, n1, c1, l1⟩, ⟨x2, n2, c2, l2⟩, ⟨x3, n3, c3, l3⟩] (w.alloc (.cells #[.slice x1 n1 c1, .slice x2 n2 c2, .slice x3 n3 c3] T)) rfl (by rw [World.size_alloc]; exact Nat.lt_succ_self _)
    (fun i hi => by
      rw [World.cell?_alloc_new]
      match i, hi with
      | 0, _ => rfl
      | 1, _ => rfl
      | 2, _ => rfl)
    (fun i hi => by
      match i, hi with
      | 0, _ => exact ⟨i1, z1⟩
      | 1, _ => exact ⟨i2, z2⟩
      | 2, _ => exact ⟨i3, z3⟩)
    (by unfold totL; simp; have := i1.len; have := i2.len; have := i3.len; omega) (by decide) (Nat.le_refl _)
  rw [World.size_alloc] at h
  have e : catL [⟨x1, n1, c1, l1⟩, ⟨x2, n2, c2, l2⟩, ⟨x3, n3, c3, l3⟩] = l1 ++ l2 ++ l3 := by unfold catL; simp
  rw [e] at h
  exact h
theorem concat2 (v1 v2 : Value) (l1 l2 : List Cel) (w : World) (T : TypeId) (h1 : SegAt v1 l1 w) (h2 : SegAt v2 l2 w) (hn : ((l1.length + l2.length : Nat) : Int) ≤ 1000000) :
    Calls Tryd.prog 107 #[.slice (some ⟨w.heap.size, 0, none⟩) 2 2] (w.alloc (.cells #[v1, v2] T)) (CelPost 105 (w.heap.size + 1) (l1 ++ l2) (w.alloc (.cells #[v1, v2] T))) := by
  have hb : Below w.heap.size w (w.alloc (.cells #[v1, v2] T)) := (Below.refl _ _).alloc (Nat.le_refl _) _
  obtain ⟨x1, n1, c1, rfl, i1, z1, -⟩ := h1.belowAll hb
  obtain ⟨x2, n2, c2, rfl, i2, z2, -⟩ := h2.belowAll hb
  have h := concat_any w.heap.size 2 2 [⟨x1, n1, c1, l1⟩, ⟨x2, n2, c2, l2⟩] (w.alloc (.cells #[.slice x1 n1 c1, .slice x2 n2 c2] T)) rfl (by rw [World.size_alloc]; exact Nat.lt_succ_self _)
    (fun i hi => by
      rw [World.cell?_alloc_new]
      match i, hi with
      | 0, _ => rfl
      | 1, _ => rfl)
    (fun i hi => by
      match i, hi with
      | 0, _ => exact ⟨i1, z1⟩
      | 1, _ => exact ⟨i2, z2⟩)
    (by unfold totL; simp; have := i1.len; have := i2.len; omega) (by decide) (Nat.le_refl _)
  rw [World.size_alloc] at h
  have e : catL [⟨x1, n1, c1, l1⟩, ⟨x2, n2, c2, l2⟩] = l1 ++ l2 := by unfold catL; simp
  rw [e] at h
  exact h
end Go.Proofs.YtkggmcnocpgnbaaDoor.K
