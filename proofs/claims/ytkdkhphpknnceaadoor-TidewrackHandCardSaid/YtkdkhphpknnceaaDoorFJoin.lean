/- Rows that are joined: the contracts of slices.Grow of none, slices.Concat, and flow.Join. -/
import Derived.Test.YtkdkhphpknnceaaDoorFCut
import Derived.Lib.AppendZeros
import Derived.Lib.Buffer
namespace Go.Proofs.YtkdkhphpknnceaaDoor.F
open Go.RowKit H

/-- a slice of rows -/
structure SvIn (a : Option Addr) (n c : Nat) (us : List Sv) (w : World) : Prop where
  len : n = us.length
  fit : n ≤ c
  top : (c : Int) ≤ 9223372036854775807
  at_ : us = [] ∨ ∃ b off, a = some ⟨b, off, none⟩ ∧ b < w.heap.size ∧ ∀ i u, us[i]? = some u → w.cell? ⟨b, off + i, none⟩ = some (.slice u.a u.n u.c)
theorem SvIn.belowAll {a : Option Addr} {n c : Nat} {us : List Sv} {w w' : World} (h : SvIn a n c us w) (hb : Below w.heap.size w w') : SvIn a n c us w' := by
  refine ⟨h.len, h.fit, h.top, h.at_.imp id ?_⟩
  rintro ⟨b, off, ha, hl, hi⟩
  exact ⟨b, off, ha, Nat.lt_of_lt_of_le hl hb.size, fun i u hu => (hb.cell (p := ⟨b, off + i, none⟩) hl).trans (hi i u hu)⟩
/-- and what they hold -/
def SvV (rk : IntKind) (us : List Sv) (L : List (List (Int × Int))) (w : World) : Prop := us.length = L.length ∧ ∀ (i : Nat) (u : Sv) (l : List (Int × Int)), us[i]? = some u → L[i]? = some l → PairsIn rk u.a u.n u.c l w ∧ (u.a = none → u.c = 0)
theorem SvV.belowAll {rk : IntKind} {us : List Sv} {L : List (List (Int × Int))} {w w' : World} (h : SvV rk us L w) (hb : Below w.heap.size w w') : SvV rk us L w' := ⟨h.1, fun i u l h1 h2 => ⟨(h.2 i u l h1 h2).1.belowAll hb, (h.2 i u l h1 h2).2⟩⟩
def RowsIn (rk : IntKind) (a : Option Addr) (n c : Nat) (L : List (List (Int × Int))) (w : World) : Prop := ∃ us, SvIn a n c us w ∧ SvV rk us L w
theorem RowsIn.belowAll {rk : IntKind} {a : Option Addr} {n c : Nat} {L : List (List (Int × Int))} {w w' : World} (h : RowsIn rk a n c L w) (hb : Below w.heap.size w w') : RowsIn rk a n c L w' := by
  obtain ⟨us, h1, h2⟩ := h
  exact ⟨us, h1.belowAll hb, h2.belowAll hb⟩
theorem RowsIn.len {rk : IntKind} {a : Option Addr} {n c : Nat} {L : List (List (Int × Int))} {w : World} (h : RowsIn rk a n c L w) : n = L.length := by
  obtain ⟨us, h1, h2⟩ := h
  rw [h1.len, h2.1]
theorem own_rows {rk : IntKind} {T G : TypeId} {base : Nat} {v : Value} {us : List Sv} {L : List (List (Int × Int))} {w : World} (h : OwnS T base v us w) (h2 : SvsQ rk G base us L w) : ∃ a c, v = .slice a L.length c ∧ RowsIn rk a L.length c L w := by
  obtain ⟨a, c, e, h3, h4, -, h5⟩ := h.shape
  rw [h2.1] at e h3
  refine ⟨a, c, e, us, ⟨h2.1.symm, h3, h4, h5.imp id ?_⟩, h2.1, fun i u l k1 k2 => ⟨(h2.row k1 k2).1, (h2.row k1 k2).2.2⟩⟩
  rintro ⟨g, e1, -, e2, e3⟩
  exact ⟨g, 0, e1, e2, fun i u hu => by rw [Nat.zero_add]; exact e3 i u hu⟩
set_option maxRecDepth 100000 in
set_option maxHeartbeats 4000000 in
theorem grow_any (n : Nat) (hn : (n : Int) ≤ 3000000) (w : World) : Calls Tryd.prog 44 #[.slice none 0 0, .int .i64 (n : Int)] w (CloPost [] w) := by
  obtain ⟨P, hP⟩ : ∃ P, CloPost [] w = P := ⟨_, rfl⟩
  rw [hP]
  have HP := Lib.hid hP
  clear hP
  have hneg : decide ((n : Int) < 0) = false := decide_eq_false (by omega)
  by_cases h0 : n = 0
  · subst h0
    go_enter Tryd.func44, Tryd.ntmps44
    go_wp2_with fail
    rw [← HP.out]
    exact ⟨_, rfl, OwnQ.nil _ _ _ _, Below.refl _ _⟩
  · obtain ⟨i0, hin, hz0, hz1, hz2⟩ := info_parts gluT.info
    have happ := Lib.run_append_nil_zeros (P := Tryd.prog) w 31 3 31 44 i0 _ .i64 .i64 Tryd.underlying31 Tryd.underlying3 hin hz0 n (by omega) (by rw [hz1]; decide) (by omega) (by rw [hz2]; omega)
    have hg1 : n ≤ grownCap w n 0 44 := grownCap_ge w _ 0 _
    have hg2 : grownCap w n 0 44 ≤ maxLen := grownCap_le_maxLen w _ 0 _ (by unfold maxLen; omega)
    obtain ⟨cap, hcap⟩ : ∃ cap, grownCap w n 0 44 = cap := ⟨_, rfl⟩
    rw [hcap] at happ hg1 hg2
    obtain ⟨Z, hZ⟩ : ∃ Z, (Builtin.zeroCells (Value.agg #[.int .i32 0, .int .i64 0]).cells n ++ Builtin.zeroCells (Value.agg #[.int .i32 0, .int .i64 0]).cells (cap - n)) = Z := ⟨_, rfl⟩
    have hZs : Z.size = cap * 2 := by
      rw [← hZ, Array.size_append, size_zeroCells, size_zeroCells, show (Value.agg #[.int .i32 0, .int .i64 0]).cells.size = 2 from rfl, ← Nat.add_mul]
      congr 1
      omega
    rw [hZ] at happ
    have hpos : decide (0 < n) = true := decide_eq_true (by omega)
    have hOw : OwnQ .i32 44 w.heap.size (.slice (some ⟨w.heap.size, 0, none⟩) 0 cap) [] (w.drew.alloc (.cells Z 44)) :=
      .inr ⟨w.heap.size, 0, cap, Z, rfl, Nat.le_refl _, World.alloc_heap_new w.drew _, Nat.zero_le _, hg2, by omega, fun j u hj => by simp [flatP] at hj⟩
    have hBl : Below w.heap.size w (w.drew.alloc (.cells Z 44)) := (Below.refl _ _).drew.alloc (Nat.le_refl _) _
    have HOw := Lib.hid hOw
    have HBl := Lib.hid hBl
    have hcn : (n : Int) ≤ cap := by omega
    have HApp := Lib.hid happ
    clear hOw hBl hZs hZ hcap hg2 hin hz0 hz1 hz2 h0 happ
    go_enter Tryd.func44, Tryd.ntmps44
    go_wp2_with (at_builtin; refine Lib.wpList_append_run _ rfl _ _ _ _ rfl _ _ rfl rfl _ _ HApp.out ?_)
    go_wp2_with fail
    rw [← HP.out]
    exact ⟨_, rfl, HOw.out, HBl.out⟩
theorem totS_succ {L : List (List (Int × Int))} {j : Nat} {l : List (Int × Int)} (h : L[j]? = some l) : (L.take (j + 1)).flatten = (L.take j).flatten ++ l := by
  obtain ⟨hj, he⟩ := List.getElem?_eq_some_iff.1 h
  rw [List.take_succ_eq_append_getElem hj, he, List.flatten_append]
  simp
theorem tot_le (L : List (List (Int × Int))) (j : Nat) : (L.take j).flatten.length ≤ L.flatten.length := by
  have h := List.take_append_drop j L
  have h2 : L.flatten = (L.take j).flatten ++ (L.drop j).flatten := by rw [← List.flatten_append, h]
  rw [h2, List.length_append]
  omega
set_option maxRecDepth 100000 in
set_option maxHeartbeats 8000000 in
theorem concat_any (a : Option Addr) (k c : Nat) (L : List (List (Int × Int))) (w : World) (h : RowsIn .i32 a k c L w) (htot : (L.flatten.length : Int) ≤ 1000000) (hk : (k : Int) ≤ 1000000) :
    Calls Tryd.prog 29 #[.slice a k c] w (CloPost L.flatten w) := by
  obtain ⟨P, hP⟩ : ∃ P, CloPost L.flatten w = P := ⟨_, rfl⟩
  rw [hP]
  have HP := Lib.hid hP
  obtain ⟨rb, hrb⟩ : ∃ rb, w.heap.size = rb := ⟨_, rfl⟩
  have HRb := Lib.hid hrb
  have HLen := Lib.hid h.len
  obtain ⟨us, hs, hv⟩ := h
  have HS0 := Lib.hid hs
  have HV := Lib.hid hv
  have HUl : Hid (us.length = k) := Lib.hid hs.len.symm
  have HTot := Lib.hid htot
  obtain ⟨S, hS⟩ : ∃ S, L.flatten.length = S := ⟨_, rfl⟩
  have hS1 : (S : Int) ≤ 1000000 := by rw [← hS]; exact htot
  have HS := Lib.hid hS
  have HG := Lib.hid (grow_any S (by omega) w)
  clear hP htot hrb hS hs hv
  go_enter Tryd.func29, Tryd.ntmps29
  go_wp2_with fail
  go_loopw [3, 11] (fun z i wr => ∃ j t : Nat, i = .int .i64 (j : Int) ∧ z = .int .i64 (t : Int) ∧ j ≤ k ∧ (t : Int) ≤ 1000000 ∧ Hid (t = (L.take j).flatten.length) ∧ w = wr) (fun _ i _ => k - (intOf i).toNat)
  case atStart => exact ⟨0, 0, rfl, rfl, by omega, by omega, Lib.hid rfl, rfl⟩
  case round =>
    obtain ⟨j, t, rfl, rfl, hj, ht, HT, rfl⟩ := hrel
    by_cases hlt : j < k
    · have hd : decide (j < k) = true := by simp; omega
      have hjI : (j : Int) < k := by omega
      obtain ⟨u, hu⟩ : ∃ u, us[j]? = some u := ⟨_, List.getElem?_eq_getElem (by rw [HUl.out]; exact hlt)⟩
      obtain ⟨l, hl⟩ : ∃ l, L[j]? = some l := ⟨_, List.getElem?_eq_getElem (by rw [← HLen.out]; exact hlt)⟩
      obtain ⟨b, off, rfl, hb, hat⟩ := HS0.out.at_.resolve_left (by rintro rfl; cases hu)
      have c0 := hat j u hu
      have hpl := (HV.out.2 j u l hu hl).1.len
      have hsc := congrArg List.length (totS_succ hl)
      rw [List.length_append, ← hpl] at hsc
      have hle := tot_le L (j + 1)
      rw [HS.out] at hle
      obtain ⟨sa, sn, sc⟩ := u
      simp only at c0 hsc
      have hneg : decide ((t : Int) + (sn : Int) < 0) = false := decide_eq_false (by omega)
      have hts : (t : Int) + (sn : Int) ≤ 1000000 := by have := HT.out; omega
      have HT' : Hid (t + sn = (L.take (j + 1)).flatten.length) := Lib.hid (by rw [hsc, ← HT.out])
      have hsn : (sn : Int) ≤ 1000000 := by omega
      clear hsc hle hat hpl hb hu hl
      go_wp2_with fail
      go_roundw
      case rel => exact ⟨j + 1, t + sn, by go_num, by go_num, by omega, by omega, HT', by first | rfl | trivial⟩
      case measure => simp [intOf]; omega
    · obtain rfl : j = k := by omega
      have hd : decide ((j : Int) < (j : Int)) = false := by simp
      have hfin : L.take j = L := List.take_of_length_le (by rw [← HLen.out]; exact Nat.le_refl _)
      have htS : t = S := by rw [HT.out, hfin, HS.out]
      subst htS
      clear hfin
      go_wp2_with (go_at_call 44; refine HG.out.mono ?_; rintro e w1 ⟨v1, rfl, hO1, hb1⟩)
      go_loopw [6, 27] (fun v i wr => ∃ q : Nat, i = .int .i64 (q : Int) ∧ q ≤ j ∧ Hid (OwnQ .i32 44 rb v (L.take q).flatten wr ∧ Below rb w wr)) (fun _ i _ => j - (intOf i).toNat)
      case atStart => exact ⟨0, rfl, by omega, Lib.hid ⟨by rw [← HRb.out]; exact hO1, by rw [← HRb.out]; exact hb1⟩⟩
      case round =>
        obtain ⟨q, rfl, hq, HF⟩ := hrel
        by_cases hlq : q < j
        · have hdq : decide (q < j) = true := by simp; omega
          have hqI : (q : Int) < j := by omega
          obtain ⟨u, hu⟩ : ∃ u, us[q]? = some u := ⟨_, List.getElem?_eq_getElem (by rw [HUl.out]; exact hlq)⟩
          obtain ⟨l, hl⟩ : ∃ l, L[q]? = some l := ⟨_, List.getElem?_eq_getElem (by rw [← HLen.out]; exact hlq)⟩
          have hbw : Below w.heap.size w wr := by rw [HRb.out]; exact HF.out.2
          obtain ⟨b, off, rfl, hb, hat⟩ := (HS0.out.belowAll hbw).at_.resolve_left (by rintro rfl; cases hu)
          have c0 := hat q u hu
          have hrow := ((HV.out.belowAll hbw).2 q u l hu hl).1
          have hcs := totS_succ hl
          have hle := tot_le L q
          have hle2 := tot_le L (q + 1)
          rw [hcs, List.length_append] at hle2
          obtain ⟨sa, sn, sc⟩ := u
          simp only at c0 hrow
          have HL1 : Hid ((((L.take q).flatten).length : Int) ≤ 1000000) := Lib.hid (by have := HTot.out; omega)
          have HL2 : Hid ((l.length : Int) ≤ 1000000) := Lib.hid (by have := HTot.out; omega)
          have HI := Lib.hid hrow
          have HCs := Lib.hid hcs
          have HSz : Hid (rb ≤ wr.heap.size) := Lib.hid (by have := HF.out.2.size; have := HRb.out; omega)
          have HO := Lib.hid HF.out.1
          clear hrow hcs hle hle2 hat hu hl hbw hb
          go_wp2_with (at_builtin; refine wpList_append_q gluT rfl _ _ rfl rfl rb _ (L.take q).flatten sa sn sc l rfl rfl HO.out HI.out HL1.out HL2.out HSz.out ?_)
          intro v' w' hg
          have HF' : Hid (OwnQ .i32 44 rb v' (L.take (q + 1)).flatten w' ∧ Below rb w w') := Lib.hid ⟨by rw [HCs.out]; exact hg.own, HF.out.2.grown hg.grown HSz.out (fun p hp => (HF.out.1.own p hp).1)⟩
          clear hg
          go_wp2
          go_roundw
          case rel => exact ⟨q + 1, by go_num, by omega, HF'⟩
          case measure => simp [intOf]; omega
        · obtain rfl : q = j := by omega
          have hdq : decide ((q : Int) < (q : Int)) = false := by simp
          have hfin : L.take q = L := List.take_of_length_le (by rw [← HLen.out]; exact Nat.le_refl _)
          have HE := Lib.hid hfin
          clear hfin
          go_wp2_with fail
          rw [← HP.out]
          have h := HF.out
          rw [HE.out] at h
          exact ⟨_, rfl, by rw [HRb.out]; exact h.1, by rw [HRb.out]; exact h.2⟩
theorem join_any (a : Option Addr) (k c : Nat) (L : List (List (Int × Int))) (w : World) (h : RowsIn .i32 a k c L w) (htot : (L.flatten.length : Int) ≤ 1000000) (hk : (k : Int) ≤ 1000000) :
    Calls Tryd.prog 11 #[.slice a k c] w (CloPost L.flatten w) := by
  obtain ⟨P, hP⟩ : ∃ P, CloPost L.flatten w = P := ⟨_, rfl⟩
  rw [hP]
  have HP := Lib.hid hP
  have HC := Lib.hid (concat_any a k c L w h htot hk)
  clear hP h htot hk
  go_enter Tryd.func11, Tryd.ntmps11
  go_wp2_with fail
  refine HC.out.mono ?_
  rintro e w1 ⟨v1, rfl, hO1, hb1⟩
  have HE : Hid (P (.returned v1) w1) := Lib.hid (by rw [← HP.out]; exact ⟨_, rfl, hO1, hb1⟩)
  clear hO1 hb1
  go_wp2_with fail
  exact HE.out
end Go.Proofs.YtkdkhphpknnceaaDoor.F
