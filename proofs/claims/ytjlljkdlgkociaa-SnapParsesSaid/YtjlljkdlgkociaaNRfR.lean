/- The contract of the document's ReadRow. -/
import Derived.Test.YtjlljkdlgkociaaNLim
import Derived.Test.YtjlljkdlgkociaaNRdRow
import Derived.Test.YtjlljkdlgkociaaMerged7
namespace Go.Proofs.Ytjlljkdlgkociaa.K
open Go.RowKit Go.Proofs.Ytjlljkdlgkociaa.I

/-- what it leaves -/
def RfPost (q : Sta × Ro) (w : World) (e : Ending) (w' : World) : Prop := ∃ (t : ByteArray) (v : Value), e = .returned (.tuple #[.agg #[.string t, .int .i64 (q.1.2 : Int)], .agg #[v, .bool q.2.wrapped]]) ∧ t.data.toList = q.1.1 ∧ (t.size : Int) ≤ 1000000 ∧ OwnC .i64 95 w.heap.size v q.2.l w' ∧ Below w.heap.size w w'
/-- its blocks: what is read, and its two results -/
structure RfR (rb : Nat) (s : ByteArray) (e : Nat) (w wr : World) : Prop where
  b : Below rb w wr
  i : wr.heap[rb]? = some (.cells #[.string s, .int .i64 (e : Int)] 65 (0, 0))
  o : wr.heap[rb + 1]? = some (.cells #[.string ⟨#[]⟩, .int .i64 0] 65 (0, 0))
  r : wr.heap[rb + 2]? = some (.cells #[.slice none 0 0, .bool false] 75 (0, 0))
section
variable {rb : Nat} {s s' : ByteArray} {e e' : Nat} {w wr w' : World}
theorem RfR.size (h : RfR rb s e w wr) : rb + 3 ≤ wr.heap.size := (Array.getElem?_eq_some_iff.1 h.r).1
theorem RfR.more (h : RfR rb s e w wr) (hb : Below (rb + 3) wr w') : RfR rb s e w w' :=
  ⟨h.b.trans (hb.mono (by omega)), (hb.block rb (by omega)).trans h.i, (hb.block (rb + 1) (by omega)).trans h.o, (hb.block (rb + 2) (by omega)).trans h.r⟩
theorem RfR.below (h : RfR rb s e w wr) (hb : Below wr.heap.size wr w') : RfR rb s e w w' := h.more (hb.mono h.size)
theorem RfR.set (h : RfR rb s e w wr) (s' : ByteArray) (e' : Nat) : RfR rb s' e' w ((wr.setCell ⟨rb, 0, none⟩ (.string s')).setCell ⟨rb, 1, none⟩ (.int .i64 (e' : Int))) := by
  refine ⟨(h.b.setCell (p := ⟨rb, 0, none⟩) (Nat.le_refl _) _).setCell (p := ⟨rb, 1, none⟩) (Nat.le_refl _) _, by simp [World.setCell, Array.getElem?_modify, h.i], ?_, ?_⟩
  · rw [Below.heap_setCell _ _ _ _ (by show rb + 1 ≠ rb; omega), Below.heap_setCell _ _ _ _ (by show rb + 1 ≠ rb; omega)]
    exact h.o
  · rw [Below.heap_setCell _ _ _ _ (by show rb + 2 ≠ rb; omega), Below.heap_setCell _ _ _ _ (by show rb + 2 ≠ rb; omega)]
    exact h.r
theorem RfR.i0 (h : RfR rb s e w wr) : wr.cell? ⟨rb, 0, none⟩ = some (.string s) := by rw [cell_block h.i]; rfl
theorem RfR.i1 (h : RfR rb s e w wr) : wr.cell? ⟨rb, 1, none⟩ = some (.int .i64 (e : Int)) := by rw [cell_block h.i]; rfl
theorem RfR.outB (h : RfR rb s e w wr) (v0 v1 v2 v3 : Value) : Below rb w ((((wr.setCell ⟨rb + 1, 0, none⟩ v0).setCell ⟨rb + 1, 1, none⟩ v1).setCell ⟨rb + 2, 0, none⟩ v2).setCell ⟨rb + 2, 1, none⟩ v3) :=
  (((h.b.setCell (p := ⟨rb + 1, 0, none⟩) (by show rb ≤ rb + 1; omega) _).setCell (p := ⟨rb + 1, 1, none⟩) (by show rb ≤ rb + 1; omega) _).setCell (p := ⟨rb + 2, 0, none⟩) (by show rb ≤ rb + 2; omega) _).setCell (p := ⟨rb + 2, 1, none⟩) (by show rb ≤ rb + 2; omega) _
end
/-- and a cell's block and the cells that were read -/
structure RfS (rb cb : Nat) (s : ByteArray) (e : Nat) (a b c : Int) (v : Value) (l : List Cel) (w u : World) : Prop where
  r : RfR rb s e w u
  k : u.heap[cb]? = some (.cells #[.int .i64 a, .int .i64 b, .int .i64 c] 95 (0, 0))
  p : rb + 3 ≤ cb
  o : OwnC .i64 95 (rb + 3) v l u
  n : ∀ q, v.ownBlock = some q → q ≠ cb
section
variable {rb cb : Nat} {s : ByteArray} {e : Nat} {a b c : Int} {v : Value} {l : List Cel} {w u u' : World}
theorem RfS.lt (h : RfS rb cb s e a b c v l w u) : cb < u.heap.size := (Array.getElem?_eq_some_iff.1 h.k).1
theorem RfS.below (h : RfS rb cb s e a b c v l w u) (hb : Below u.heap.size u u') : RfS rb cb s e a b c v l w u' :=
  ⟨h.r.below hb, (hb.block cb h.lt).trans h.k, h.p, h.o.belowAll hb, h.n⟩
theorem RfS.set (h : RfS rb cb s e a b c v l w u) (s' : ByteArray) (e' : Nat) : RfS rb cb s' e' a b c v l w ((u.setCell ⟨rb, 0, none⟩ (.string s')).setCell ⟨rb, 1, none⟩ (.int .i64 (e' : Int))) :=
  ⟨h.r.set s' e', by rw [Below.heap_setCell _ _ _ _ (by show cb ≠ rb; have := h.p; omega), Below.heap_setCell _ _ _ _ (by show cb ≠ rb; have := h.p; omega)]; exact h.k, h.p, h.o.set2 (by omega) _ _, h.n⟩
theorem RfS.cell (h : RfS rb cb s e a b c v l w u) (i : Nat) (z : Int) {a' b' c' : Int} (hz : (#[Value.int .i64 a, .int .i64 b, .int .i64 c]).setIfInBounds i (.int .i64 z) = #[.int .i64 a', .int .i64 b', .int .i64 c']) : RfS rb cb s e a' b' c' v l w (u.setCell ⟨cb, i, none⟩ (.int .i64 z)) := by
  have hg : Below (rb + 3) u (u.setCell ⟨cb, i, none⟩ (.int .i64 z)) := (Below.refl _ _).setCell (p := ⟨cb, i, none⟩) h.p _
  refine ⟨h.r.more hg, ?_, h.p, h.o.setCell h.n i _, h.n⟩
  have hk := h.k
  unfold World.setCell
  simp only [Array.getElem?_modify, hk]
  simp [← hz]
theorem RfS.k0 (h : RfS rb cb s e a b c v l w u) : u.cell? ⟨cb, 0, none⟩ = some (.int .i64 a) := by rw [cell_block h.k]; rfl
theorem RfS.k1 (h : RfS rb cb s e a b c v l w u) : u.cell? ⟨cb, 1, none⟩ = some (.int .i64 b) := by rw [cell_block h.k]; rfl
theorem RfS.k2 (h : RfS rb cb s e a b c v l w u) : u.cell? ⟨cb, 2, none⟩ = some (.int .i64 c) := by rw [cell_block h.k]; rfl
end
def errOf (rb : Nat) (w : World) : Nat := match w.cell? ⟨rb, 1, none⟩ with
  | some (.int _ k) => if k = 0 then 1 else 0
  | _ => 0
theorem RfR.err {rb : Nat} {s : ByteArray} {e : Nat} {w u : World} (h : RfR rb s e w u) : errOf rb u = if e = 0 then 1 else 0 := by
  unfold errOf
  rw [h.i1]
  simp
theorem atS_bad {st : Sta} {m : Nat} (h : st.2 ≠ 0) : (atS st m).1.2 ≠ 0 := fun e => h (atS_zero e).1
theorem rowS_end {f m : Nat} {st : Sta} {pr : Option Cel} (h : m = 0 ∨ st.2 ≠ 0) : rowS f m st pr = (st, []) := by
  cases f with
  | zero => rfl
  | succ f => rw [rowS, if_pos h]
theorem last_rep (L : List Cel) (n : Nat) (c : Cel) (h : 1 ≤ n) : (L ++ List.replicate n c).getLast? = some c := by
  obtain ⟨k, rfl⟩ : ∃ k, n = k + 1 := ⟨n - 1, by omega⟩
  rw [List.getLast?_append, List.replicate_succ', List.getLast?_append]
  rfl
/-- between two runs that are read -/
structure RfI (rb m0 : Nat) (tot : Sta × List (Nat × Cel)) (u : Value) (L : List Cel) (t : ByteArray) (sj : Sta) (w wr : World) : Prop where
  r : RfR rb t sj.2 w wr
  t : t.data.toList = sj.1 ∧ (t.size : Int) ≤ 1000000
  o : OwnC .i64 95 (rb + 3) u L wr
  ok : InOk sj
  run : ∃ m f pr, (sj.2 = 0 → L.length + m = m0 ∧ pr = L.getLast?) ∧ (m < f ∨ sj.2 ≠ 0) ∧ (rowS f m sj pr).1 = tot.1 ∧ (tot.1.2 = 0 → L ++ expR (rowS f m sj pr).2 = expR tot.2)
  len : L.length ≤ m0
theorem RfS.push {rb cb : Nat} {s : ByteArray} {e : Nat} {a b c : Int} {v v' : Value} {l l' : List Cel} {w u u1 u2 : World} {n : Nat} {out : List Value} (h : RfS rb cb s e a b c v l w u) (hb : Below u.heap.size u u1) (ho : OwnC .i64 95 (rb + 3) v' l' u2) (hg : U.Grew (rb + 3) 95 3 v n out u1 v' u2) : RfS rb cb s e a b c v' l' w u2 := by
  have h1 := h.below hb
  have hb2 : Below (rb + 3) u1 u2 := (Below.refl _ _).grown hg.grown h1.r.size (fun q hq => (h1.o.ownBlock q hq).1)
  refine ⟨h1.r.more hb2, (hg.grown.block cb h1.lt (fun e => h1.n cb e.symm rfl)).trans h1.k, h.p, ho, fun q hq => ?_⟩
  rcases hg.block q hq with h2 | h2
  · exact h1.n q h2
  · have := h1.lt; omega
theorem RfI.next {rb cb m0 m gq x2 j lj2 : Nat} {tot : Sta × List (Nat × Cel)} {t : ByteArray} {lk : List UInt8} {ek : Nat} {a b c : Int} {va : Option Addr} {vc : Nat} {L : List Cel} {w wr : World}
    (h : RfS rb cb t ek a b c (.slice va lj2 vc) (L ++ List.replicate j ⟨a, b, c⟩) w wr) (ht : t.data.toList = ((lk, ek) : Sta).1 ∧ (t.size : Int) ≤ 1000000) (hok : InOk (lk, ek)) (hj : (ek = 0 → j = x2) ∧ (ek ≠ 0 → j = 0)) (hx : ek = 0 → 1 ≤ x2 ∧ x2 ≤ m) (hlm : L.length + m = m0)
    (hrun : (rowS gq (m - x2) (lk, ek) (some ⟨a, b, c⟩)).1 = tot.1 ∧ (tot.1.2 = 0 → L ++ expR ((x2, (⟨a, b, c⟩ : Cel)) :: (rowS gq (m - x2) (lk, ek) (some ⟨a, b, c⟩)).2) = expR tot.2)) (hf : m < gq + 1) : RfI rb m0 tot (.slice va lj2 vc) (L ++ List.replicate j ⟨a, b, c⟩) t (lk, ek) w wr := by
  refine ⟨h.r, ht, h.o, hok, ⟨m - x2, gq, some ⟨a, b, c⟩, fun h0 => ?_, ?_, hrun.1, fun h0 => ?_⟩, ?_⟩
  · have h1 := hx h0
    have h2 := hj.1 h0
    subst h2
    exact ⟨by rw [List.length_append, List.length_replicate]; omega, (last_rep L j _ h1.1).symm⟩
  · by_cases h0 : ek = 0
    · have := hx h0; exact .inl (by omega)
    · exact .inr h0
  · have h1 : ek = 0 := by
      by_cases h1 : ek = 0
      · exact h1
      · have h2 := hrun.1
        rw [rowS_end (.inr h1)] at h2
        have h3 : (lk, ek) = tot.1 := h2
        rw [← h3] at h0
        exact h0
    rw [hj.1 h1, ← hrun.2 h0]
    unfold expR
    rw [List.flatMap_cons, List.append_assoc]
  · rw [List.length_append, List.length_replicate]
    by_cases h0 : ek = 0
    · have := hx h0; have := hj.1 h0; omega
    · have := hj.2 h0; omega
set_option maxRecDepth 100000 in
set_option maxHeartbeats 16000000 in
theorem nrfrow_any (s : ByteArray) (hs : (s.size : Int) ≤ 1000000) (st : Sta) (hst : s.data.toList = st.1) (hok : InOk st) (W : Int) (hW : W ≤ 2000) (hW2 : -9223372036854775808 ≤ W) (w : World) : Calls Try.prog 29 #[.agg #[.string s, .int .i64 (st.2 : Int)], .int .i64 W] w (RfPost (readR st W.toNat) w) := by
  obtain ⟨rb, hrb⟩ : ∃ rb, w.heap.size = rb := ⟨_, rfl⟩
  obtain ⟨P, hP⟩ : ∃ P, RfPost (readR st W.toNat) w = P := ⟨_, rfl⟩
  rw [hP]
  have HP := Lib.hid hP
  obtain ⟨l0, e0⟩ := st
  simp only at hst ⊢
  obtain ⟨w3, hw3⟩ : ∃ w3, ((w.alloc (.cells #[.string s, .int .i64 (e0 : Int)] 65)).alloc (.cells #[.string ⟨#[]⟩, .int .i64 0] 65)).alloc (.cells #[.slice none 0 0, .bool false] 75) = w3 := ⟨_, rfl⟩
  have hi3 : RfR rb s e0 w w3 := by
    rw [← hw3, ← hrb]
    have b1 : Below w.heap.size w (w.alloc (.cells #[.string s, .int .i64 (e0 : Int)] 65)) := (Below.refl _ _).alloc (Nat.le_refl _) _
    refine ⟨(b1.alloc (by rw [World.size_alloc]; omega) _).alloc (by simp only [World.size_alloc]; omega) _, ?_, ?_, ?_⟩
    · rw [Below.heap_alloc _ _ _ (by simp only [World.size_alloc]; omega), Below.heap_alloc _ _ _ (by simp only [World.size_alloc]; omega)]
      exact heap_alloc_new w _
    · rw [Below.heap_alloc _ _ _ (by simp only [World.size_alloc]; omega)]
      have h := heap_alloc_new (w.alloc (.cells #[.string s, .int .i64 (e0 : Int)] 65)) (.cells #[.string ⟨#[]⟩, .int .i64 0] 65)
      rw [World.size_alloc] at h
      exact h
    · have h := heap_alloc_new ((w.alloc (.cells #[.string s, .int .i64 (e0 : Int)] 65)).alloc (.cells #[.string ⟨#[]⟩, .int .i64 0] 65)) (.cells #[.slice none 0 0, .bool false] 75)
      simp only [World.size_alloc] at h
      exact h
  have HI3 := Lib.hid hi3
  have HW3 := Lib.hid hw3
  have HRb := Lib.hid hrb
  have HT0 : Hid (s.data.toList = ((l0, e0) : Sta).1 ∧ (s.size : Int) ≤ 1000000) := Lib.hid ⟨hst, hs⟩
  have HOk0 : Hid (InOk (l0, e0)) := Lib.hid hok
  have c0 := hi3.i0
  have c1 := hi3.i1
  obtain ⟨m0, hm0⟩ : ∃ m, W.toNat = m := ⟨_, rfl⟩
  have HM0 := Lib.hid hm0
  have hm0b : m0 ≤ 2000 := by omega
  obtain ⟨⟨⟨l1, e1⟩, x1⟩, hq1⟩ : ∃ q, atS (l0, e0) 1 = q := ⟨_, rfl⟩
  have HQ1 : Hid (atS (l0, e0) 1 = ((l1, e1), x1)) := Lib.hid hq1
  have hok1 : InOk (l1, e1) := by have h := atS_ok HOk0.out 1; rw [hq1] at h; exact h
  have HOk1 := Lib.hid hok1
  have hL1 := nlim_any s HT0.out.2 (l0, e0) HT0.out.1 HOk0.out 1 (by first | decide | omega) w3
  rw [hq1] at hL1
  have HL1 : Hid (Calls Try.prog 26 #[.agg #[.string s, .int .i64 (e0 : Int)], .int .i64 1] w3 (LimPost ((l1, e1), x1) w3)) := Lib.hid (by exact hL1)
  clear hq1 hok1 hL1

  obtain ⟨tot, htot⟩ : ∃ tot, rowS (m0 + 1) m0 (l1, e1) none = tot := ⟨_, rfl⟩
  obtain ⟨bw, hbw⟩ : ∃ bw, decide (x1 = 1) = bw := ⟨_, rfl⟩
  have hbw2 : ((x1 : Int) == 1) = bw := by rw [← hbw]; by_cases h : x1 = 1; subst h; rfl; rw [decide_eq_false h, beq_eq_false_iff_ne]; omega
  have HRd : Hid (readR (l0, e0) m0 = (tot.1, if tot.1.2 = 0 then ⟨expR tot.2, bw⟩ else ⟨[], false⟩)) := Lib.hid (by unfold readR; rw [HQ1.out]; simp only; rw [htot, hbw])
  rw [hm0] at HP
  have HTot := Lib.hid htot
  have HBw := Lib.hid hbw2
  clear hP hst hs hok hi3 hw3 hrb hm0 htot hbw hbw2
  go_enter Try.func29, Try.ntmps29
  go_upto_region 1 with fail
  rw [HW3.out, HRb.out]
  go_wp2_with fail
  refine HL1.out.mono ?_
  rintro e wA ⟨t1, rfl, htA, hzA, hbA⟩
  have hiA := HI3.out.below hbA
  have hiB := hiA.set t1 e1
  obtain ⟨wB, hwB⟩ : ∃ wB, (wA.setCell ⟨rb, 0, none⟩ (.string t1)).setCell ⟨rb, 1, none⟩ (.int .i64 (e1 : Int)) = wB := ⟨_, rfl⟩
  have a0 := hiA.i0
  have a1 := hiA.i1
  have b0 := frozen_block hiA.i 0
  have b1 := frozen_block hiA.i 1
  rw [hwB] at hiB
  have HWB := Lib.hid hwB
  have HT1 : Hid (t1.data.toList = l1 ∧ (t1.size : Int) ≤ 1000000) := Lib.hid ⟨htA, hzA⟩
  obtain ⟨gb, hgb⟩ : ∃ g, wB.heap.size = g := ⟨_, rfl⟩
  obtain ⟨wC, hwC⟩ : ∃ wC, wB.alloc (.cells #[] 95) = wC := ⟨_, rfl⟩
  have hbC : Below wB.heap.size wB wC := by rw [← hwC]; exact (Below.refl _ _).alloc (Nat.le_refl _) _
  have hoC : OwnC .i64 95 (rb + 3) (.slice (some ⟨gb, 0, none⟩) 0 0) [] wC := by rw [← hwC, ← hgb]; exact OwnC.lit _ _ wB (rb + 3) hiB.size
  have HIC : Hid (RfI rb m0 tot (.slice (some ⟨gb, 0, none⟩) 0 0) [] t1 (l1, e1) w wC) := Lib.hid ⟨hiB.below hbC, HT1.out, hoC, HOk1.out, ⟨m0, m0 + 1, none, fun _ => ⟨by simp, rfl⟩, .inl (by omega), by rw [HTot.out], fun _ => by rw [HTot.out]; rfl⟩, Nat.zero_le _⟩
  have HWC := Lib.hid hwC
  have HGb := Lib.hid hgb
  clear htA hzA hbA hiA hiB hwB hgb hwC hbC hoC c0 c1 HL1 HI3
  go_upto_region 3 with fail
  rw [HWB.out]
  clear a0 a1 b0 b1
  go_wp2_with fail
  try rw [HWC.out, HGb.out]
  go_loopw [7] (fun u wr => ∃ (L : List Cel) (t : ByteArray) (sj : Sta), Hid (RfI rb m0 tot u L t sj w wr)) (fun u wr => (m0 + 1 - lenOf u) + errOf rb wr)
  case atStart => exact ⟨[], t1, (l1, e1), by first | exact HIC | (rw [HWC.out, HGb.out]; exact HIC)⟩
  case round =>
    obtain ⟨L, t, ⟨lj, ej⟩, HF⟩ := hrel
    obtain ⟨ua, uc, rfl, hinL, hblL, -, hfit, htop⟩ := HF.out.o.shape
    obtain ⟨ln, hln⟩ : ∃ n, L.length = n := ⟨_, rfl⟩
    have HLn := Lib.hid hln
    have hlnb : ln ≤ 2000 := by have := HF.out.len; omega
    rw [hln] at hinL hfit ⊢
    have HIn := Lib.hid hinL
    have HBl := Lib.hid hblL
    have HFt := Lib.hid hfit
    have HTp := Lib.hid htop
    have i0 := HF.out.r.i0
    have i1 := HF.out.r.i1
    simp only at i1
    clear hln hinL hblL hfit htop
    by_cases hlW : (ln : Int) < W
    · by_cases he : ej = 0
      · have hez0 := he
        clear he
        subst hez0
        obtain ⟨w0, hw0⟩ : ∃ w0, w0 = wr := ⟨_, rfl⟩
        subst hw0
        obtain rfl : W = (m0 : Int) := by have := HM0.out; omega
        have dL : decide ((ln : Int) < (m0 : Int)) = true := decide_eq_true hlW
        have dL2 : decide (ln < m0) = true := decide_eq_true (by omega)
        have HErr : Hid (errOf rb w0 = 1) := Lib.hid (by rw [HF.out.r.err]; rfl)
        obtain ⟨m, f, pr, hrun1, hrun2, hrun3, hrun4⟩ := HF.out.run
        obtain ⟨hlm, hpr⟩ := hrun1 rfl
        have HLm := Lib.hid hlm
        rw [HLn.out] at hlm
        have hmf : m < f := hrun2.resolve_right (fun h => h rfl)
        obtain ⟨gq, hgq, hgo⟩ := rowS_go (st := (lj, 0)) (pr := pr) (show m ≠ 0 by omega) rfl hmf
        rw [hgo] at hrun3 hrun4
        have HRun := Lib.hid (And.intro hrun3 hrun4)
        have HFk : Hid (m < gq + 1) := Lib.hid (by omega)
        have HPv := Lib.hid hpr
        have hsub : (m0 : Int) - (ln : Int) = (m : Int) := by omega
        have hmb : m ≤ 2000 := by omega
        obtain ⟨cb, hcb⟩ : ∃ cb, w0.heap.size = cb := ⟨_, rfl⟩
        obtain ⟨w1, hw1⟩ : ∃ w1, w0.alloc (.cells #[.int .i64 0, .int .i64 0, .int .i64 0] 95) = w1 := ⟨_, rfl⟩
        have hb1 : Below w0.heap.size w0 w1 := by rw [← hw1]; exact (Below.refl _ _).alloc (Nat.le_refl _) _
        have ho0 := HF.out.o
        rw [HLn.out] at ho0
        have hS1 : RfS rb cb t 0 0 0 0 (.slice ua ln uc) L w w1 := ⟨HF.out.r.below hb1, by rw [← hw1, ← hcb]; exact heap_alloc_new w0 _, by have := HF.out.r.size; omega, ho0.belowAll hb1, fun q hq => by have := (ho0.ownBlock q hq).2; omega⟩
        have HS1 := Lib.hid hS1
        have HTj : Hid (t.data.toList = ((lj, 0) : Sta).1 ∧ (t.size : Int) ≤ 1000000) := Lib.hid HF.out.t
        have HOkj : Hid (InOk (lj, 0)) := Lib.hid HF.out.ok
        have HW1 := Lib.hid hw1
        have HCb := Lib.hid hcb
        obtain ⟨⟨⟨l2, e2⟩, x2⟩, hq2⟩ : ∃ q, atS (lj, 0) m = q := ⟨_, rfl⟩
        have HQ2 : Hid (atS (lj, 0) m = ((l2, e2), x2)) := Lib.hid hq2
        have hok2 : InOk (l2, e2) := by have h := atS_ok HOkj.out m; rw [hq2] at h; exact h
        have HOk2 := Lib.hid hok2
        have hL2 := nlim_any t HTj.out.2 (lj, 0) HTj.out.1 HOkj.out m (by first | decide | omega) w1
        rw [hq2] at hL2
        have HL2 : Hid (Calls Try.prog 26 #[.agg #[.string t, .int .i64 (0 : Int)], .int .i64 (m : Int)] w1 (LimPost ((l2, e2), x2) w1)) := Lib.hid (by exact hL2)
        clear hq2 hok2 hL2
        clear hrun1 hrun2 hrun3 hrun4 hpr hmf hgq hgo hcb hw1 hb1 ho0 hS1 HF HIn HBl HFt HTp
        go_upto_region 7 with fail
        rw [HW1.out, HCb.out]
        clear i0 i1
        have q0 := HS1.out.r.i0
        have q1 := HS1.out.r.i1
        go_wp2_with fail
        refine HL2.out.mono ?_
        rintro e wA2 ⟨t2, rfl, htA, hzA, hbA⟩
        have hA := HS1.out.below hbA
        have hB := hA.set t2 e2
        have a0 := hA.r.i0
        have a1 := hA.r.i1
        have b0 := frozen_block hA.r.i 0
        have b1 := frozen_block hA.r.i 1
        obtain ⟨wB2, hwB⟩ : ∃ wB, (wA2.setCell ⟨rb, 0, none⟩ (.string t2)).setCell ⟨rb, 1, none⟩ (.int .i64 (e2 : Int)) = wB := ⟨_, rfl⟩
        rw [hwB] at hB
        have i0 := hB.r.i0
        have i1 := hB.r.i1
        have HS2 := Lib.hid hB
        have HT2 : Hid (t2.data.toList = l2 ∧ (t2.size : Int) ≤ 1000000) := Lib.hid ⟨htA, hzA⟩
        have HWB2 := Lib.hid hwB
        clear htA hzA hbA hA hB hwB q0 q1 HL2
        go_upto_region 8 with fail
        rw [HWB2.out]
        clear a0 a1 b0 b1
        by_cases hz : e2 = 0
        · by_cases hx : x2 = 0
          · have q2 : ((e2 : Int) == 0) = true := by rw [hz]; rfl
            have q3 : ((x2 : Int) == 0) = true := by rw [hx]; rfl
            have b0 := frozen_block HS2.out.r.i 0
            have b1 := frozen_block HS2.out.r.i 1
            obtain ⟨wZ, hwZ⟩ : ∃ wE, (wB2.setCell ⟨rb, 0, none⟩ (.string ⟨#[]⟩)).setCell ⟨rb, 1, none⟩ (.int .i64 1) = wE := ⟨_, rfl⟩
            obtain ⟨tz, lz, ez, hSz, htz, hzf, hokz, hez⟩ : ∃ (tz : ByteArray) (lz : List UInt8) (ez : Nat), RfS rb cb tz ez 0 0 0 (.slice ua ln uc) L w wZ ∧ (tz.data.toList = ((lz, ez) : Sta).1 ∧ (tz.size : Int) ≤ 1000000) ∧ zeroF (l2, e2) x2 = (lz, ez) ∧ InOk (lz, ez) ∧ ez ≠ 0 := ⟨⟨#[]⟩, [], 1, by rw [← hwZ]; exact HS2.out.set ⟨#[]⟩ 1, ⟨rfl, by decide⟩, by unfold zeroF; rw [if_pos hx, hz]; rfl, fun _ => rfl, by decide⟩
            have HSz := Lib.hid hSz
            have HTz := Lib.hid htz
            have HZf := Lib.hid hzf
            have HOkz := Lib.hid hokz
            have HEz := Lib.hid hez
            have HWZ := Lib.hid hwZ
            clear hSz htz hzf hokz hez hwZ hz hx
            go_upto_region 10 with fail
            rw [HWZ.out]
            clear i0 i1 b0 b1 q2 q3
            obtain ⟨⟨⟨l3, e3⟩, x3⟩, hq3⟩ : ∃ q, atS (lz, ez) 1114111 = q := ⟨_, rfl⟩
            have HQ3 : Hid (atS (lz, ez) 1114111 = ((l3, e3), x3)) := Lib.hid hq3
            have hok3 : InOk (l3, e3) := by have h := atS_ok HOkz.out 1114111; rw [hq3] at h; exact h
            have HOk3 := Lib.hid hok3
            have hL3 := nlim_any tz HTz.out.2 (lz, ez) HTz.out.1 HOkz.out 1114111 (by first | decide | omega) wZ
            rw [hq3] at hL3
            have HL3 : Hid (Calls Try.prog 26 #[.agg #[.string tz, .int .i64 (ez : Int)], .int .i64 1114111] wZ (LimPost ((l3, e3), x3) wZ)) := Lib.hid (by exact hL3)
            clear hq3 hok3 hL3
            have q0 := HSz.out.r.i0
            have q1 := HSz.out.r.i1
            go_wp2_with fail
            refine HL3.out.mono ?_
            rintro e wA3 ⟨t3, rfl, htA, hzA, hbA⟩
            have hA := HSz.out.below hbA
            have hB := hA.set t3 e3
            have hC := hB.cell 0 (x3 : Int) (a' := (x3 : Int)) (b' := 0) (c' := 0) rfl
            have a0 := hA.r.i0
            have a1 := hA.r.i1
            have b0 := frozen_block hA.r.i 0
            have b1 := frozen_block hA.r.i 1
            have j0 := hA.k0
            have j1 := frozen_block hA.k 0
            have hne1 : cb ≠ rb := by have := hA.p; omega
            have hne2 : rb ≠ cb := by have := hA.p; omega
            obtain ⟨wC3, hwC⟩ : ∃ wC, ((wA3.setCell ⟨rb, 0, none⟩ (.string t3)).setCell ⟨rb, 1, none⟩ (.int .i64 (e3 : Int))).setCell ⟨cb, 0, none⟩ (.int .i64 (x3 : Int)) = wC := ⟨_, rfl⟩
            rw [hwC] at hC
            have HS3 := Lib.hid hC
            have HT3 : Hid (t3.data.toList = ((l3, e3) : Sta).1 ∧ (t3.size : Int) ≤ 1000000) := Lib.hid ⟨htA, hzA⟩
            have HWC3 := Lib.hid hwC
            clear htA hzA hbA hA hB hC hwC q0 q1 HL3
            go_upto_region 11 with (fail)
            rw [HWC3.out]
            clear a0 a1 b0 b1 j0 j1 hne1 hne2
            obtain ⟨⟨⟨l4, e4⟩, x4⟩, hq4⟩ : ∃ q, atS (l3, e3) 647 = q := ⟨_, rfl⟩
            have HQ4 : Hid (atS (l3, e3) 647 = ((l4, e4), x4)) := Lib.hid hq4
            have hok4 : InOk (l4, e4) := by have h := atS_ok HOk3.out 647; rw [hq4] at h; exact h
            have HOk4 := Lib.hid hok4
            have hL4 := nlim_any t3 HT3.out.2 (l3, e3) HT3.out.1 HOk3.out 647 (by first | decide | omega) wC3
            rw [hq4] at hL4
            have HL4 : Hid (Calls Try.prog 26 #[.agg #[.string t3, .int .i64 (e3 : Int)], .int .i64 647] wC3 (LimPost ((l4, e4), x4) wC3)) := Lib.hid (by exact hL4)
            clear hq4 hok4 hL4
            have q0 := HS3.out.r.i0
            have q1 := HS3.out.r.i1
            go_wp2_with fail
            refine HL4.out.mono ?_
            rintro e wA4 ⟨t4, rfl, htA, hzA, hbA⟩
            have hA := HS3.out.below hbA
            have hB := hA.set t4 e4
            have hC := hB.cell 1 (x4 : Int) (a' := (x3 : Int)) (b' := (x4 : Int)) (c' := 0) rfl
            have a0 := hA.r.i0
            have a1 := hA.r.i1
            have b0 := frozen_block hA.r.i 0
            have b1 := frozen_block hA.r.i 1
            have j0 := hA.k1
            have j1 := frozen_block hA.k 1
            have hne1 : cb ≠ rb := by have := hA.p; omega
            have hne2 : rb ≠ cb := by have := hA.p; omega
            obtain ⟨wC4, hwC⟩ : ∃ wC, ((wA4.setCell ⟨rb, 0, none⟩ (.string t4)).setCell ⟨rb, 1, none⟩ (.int .i64 (e4 : Int))).setCell ⟨cb, 1, none⟩ (.int .i64 (x4 : Int)) = wC := ⟨_, rfl⟩
            rw [hwC] at hC
            have HS4 := Lib.hid hC
            have HT4 : Hid (t4.data.toList = ((l4, e4) : Sta).1 ∧ (t4.size : Int) ≤ 1000000) := Lib.hid ⟨htA, hzA⟩
            have HWC4 := Lib.hid hwC
            clear htA hzA hbA hA hB hC hwC q0 q1 HL4
            go_upto_region 12 with (fail)
            rw [HWC4.out]
            clear a0 a1 b0 b1 j0 j1 hne1 hne2
            obtain ⟨⟨⟨l5, e5⟩, x5⟩, hq5⟩ : ∃ q, atS (l4, e4) 3 = q := ⟨_, rfl⟩
            have HQ5 : Hid (atS (l4, e4) 3 = ((l5, e5), x5)) := Lib.hid hq5
            have hok5 : InOk (l5, e5) := by have h := atS_ok HOk4.out 3; rw [hq5] at h; exact h
            have HOk5 := Lib.hid hok5
            have hL5 := nlim_any t4 HT4.out.2 (l4, e4) HT4.out.1 HOk4.out 3 (by first | decide | omega) wC4
            rw [hq5] at hL5
            have HL5 : Hid (Calls Try.prog 26 #[.agg #[.string t4, .int .i64 (e4 : Int)], .int .i64 3] wC4 (LimPost ((l5, e5), x5) wC4)) := Lib.hid (by exact hL5)
            clear hq5 hok5 hL5
            have q0 := HS4.out.r.i0
            have q1 := HS4.out.r.i1
            go_wp2_with fail
            refine HL5.out.mono ?_
            rintro e wA5 ⟨t5, rfl, htA, hzA, hbA⟩
            have hA := HS4.out.below hbA
            have hB := hA.set t5 e5
            have hC := hB.cell 2 (x5 : Int) (a' := (x3 : Int)) (b' := (x4 : Int)) (c' := (x5 : Int)) rfl
            have a0 := hA.r.i0
            have a1 := hA.r.i1
            have b0 := frozen_block hA.r.i 0
            have b1 := frozen_block hA.r.i 1
            have j0 := hA.k2
            have j1 := frozen_block hA.k 2
            have hne1 : cb ≠ rb := by have := hA.p; omega
            have hne2 : rb ≠ cb := by have := hA.p; omega
            obtain ⟨wC5, hwC⟩ : ∃ wC, ((wA5.setCell ⟨rb, 0, none⟩ (.string t5)).setCell ⟨rb, 1, none⟩ (.int .i64 (e5 : Int))).setCell ⟨cb, 2, none⟩ (.int .i64 (x5 : Int)) = wC := ⟨_, rfl⟩
            rw [hwC] at hC
            have HS5 := Lib.hid hC
            have HT5 : Hid (t5.data.toList = ((l5, e5) : Sta).1 ∧ (t5.size : Int) ≤ 1000000) := Lib.hid ⟨htA, hzA⟩
            have HWC5 := Lib.hid hwC
            clear htA hzA hbA hA hB hC hwC q0 q1 HL5
            go_upto_region 13 with (fail)
            rw [HWC5.out]
            clear a0 a1 b0 b1 j0 j1 hne1 hne2
            have HRs : Hid (runS (lj, 0) m = ((l5, e5), (x2, ⟨(x3 : Int), (x4 : Int), (x5 : Int)⟩))) := Lib.hid (by
              have h1 : r1 (lj, 0) m = ((l2, e2), x2) := by rw [r1_def]; exact HQ2.out
              have h2 : r2 (lj, 0) m = ((l3, e3), x3) := by rw [r2_def, h1]; simp only; rw [HZf.out]; exact HQ3.out
              have h3 : r3 (lj, 0) m = ((l4, e4), x4) := by rw [r3_def, h2]; exact HQ4.out
              have h4 : r4 (lj, 0) m = ((l5, e5), x5) := by rw [r4_def, h3]; exact HQ5.out
              unfold runS
              rw [h1, h2, h3, h4])
            have zi := fun d os => cell_regrown HS5.out.r.i1 d os
            have HXb : Hid (x2 ≤ 2000) := Lib.hid (by have h := atS_le (lj, 0) m; rw [HQ2.out] at h; have := HLm.out; simp only at h; omega)
            have he5 : e5 ≠ 0 := by
              have h3 := atS_bad (st := (lz, ez)) (m := 1114111) HEz.out
              rw [HQ3.out] at h3
              have h4 := atS_bad (st := (l3, e3)) (m := 647) h3
              rw [HQ4.out] at h4
              have h5 := atS_bad (st := (l4, e4)) (m := 3) h4
              rw [HQ5.out] at h5
              exact h5
            have q5 : ((e5 : Int) == 0) = false := by rw [beq_eq_false_iff_ne]; omega
            have hlk : likeF (l5, e5) pr ⟨(x3 : Int), (x4 : Int), (x5 : Int)⟩ = (l5, e5) := by unfold likeF; split; unfold failS; rw [if_pos (.inl he5)]; rfl
            have HOkk : Hid (InOk (l5, e5)) := Lib.hid (by rw [← hlk]; exact likeF_ok HOk5.out _ _)
            have HXk : Hid (e5 = 0 → 1 ≤ x2 ∧ x2 ≤ m) := Lib.hid (fun h => by
              have h1 := (likeF_zero (st := (l5, e5)) (pr := pr) (c := ⟨(x3 : Int), (x4 : Int), (x5 : Int)⟩) (by rw [hlk]; exact h)).2.2
              have h2 := runS_zero (st := (lj, 0)) (m := m) (by rw [HRs.out]; exact h1)
              rw [HRs.out] at h2
              exact ⟨h2.2.2.1, h2.2.2.2.1⟩)
            have HRunk : Hid ((rowS gq (m - x2) (l5, e5) (some ⟨(x3 : Int), (x4 : Int), (x5 : Int)⟩)).1 = tot.1 ∧ (tot.1.2 = 0 → L ++ expR ((x2, (⟨(x3 : Int), (x4 : Int), (x5 : Int)⟩ : Cel)) :: (rowS gq (m - x2) (l5, e5) (some ⟨(x3 : Int), (x4 : Int), (x5 : Int)⟩)).2) = expR tot.2)) := Lib.hid (by
              have h := HRun.out
              rw [HRs.out] at h
              simp only at h
              rw [hlk] at h
              exact h)
            clear hlk
            have HTk := HT5
            clear he5
            refine wp_region_quiet_below (by kernel_rfl) (by kernel_rfl) ?_
            repeat (go_big_quiet_step (fail))
            refine wpQuiet_nil ?_
            intro _ hw'
            obtain ⟨⟨dq, osq⟩, hw''⟩ := hw'
            have hb9 := below_regrown wC5 dq osq
            obtain ⟨w9, hw9⟩ : ∃ w9, Go.Sort.grow (redrawn wC5 dq) osq = w9 := ⟨_, rfl⟩
            rw [hw'']
            simp only
            rw [hw9] at hb9 ⊢
            have HS9 := Lib.hid (HS5.out.below hb9)
            clear hw'' hw9 hb9 zi
            clear q5
            go_upto_region 15 with fail
            go_wp2_with fail
            go_loopw [7, 10] (fun u i wr => ∃ j : Nat, i = .int .i64 (j : Int) ∧ j ≤ x2 ∧ Hid (RfS rb cb t5 e5 (x3 : Int) (x4 : Int) (x5 : Int) u (L ++ List.replicate j ⟨(x3 : Int), (x4 : Int), (x5 : Int)⟩) w wr ∧ (e5 ≠ 0 → j = 0))) (fun _ i _ => x2 - (intOf i).toNat)
            case atStart => exact ⟨0, rfl, Nat.zero_le _, Lib.hid ⟨by rw [List.replicate_zero, List.append_nil]; exact HS9.out, fun _ => rfl⟩⟩
            case round =>
              obtain ⟨j, rfl, hj, HJ⟩ := hrel
              obtain ⟨hJ, hJ0⟩ := HJ.out
              obtain ⟨va, vc, rfl, -, -, -, hf2, ht2⟩ := hJ.o.shape
              obtain ⟨lj2, hlj2⟩ : ∃ n, (L ++ List.replicate j (⟨(x3 : Int), (x4 : Int), (x5 : Int)⟩ : Cel)).length = n := ⟨_, rfl⟩
              rw [hlj2] at hf2 hJ ⊢
              have HLj2 : Hid (lj2 = ln + j) := Lib.hid (by rw [← hlj2, List.length_append, List.length_replicate, HLn.out])
              have HLj := Lib.hid hlj2
              have HJr := Lib.hid hJ
              have HJ0 := Lib.hid hJ0
              have i0 := hJ.r.i0
              have i1 := hJ.r.i1
              clear hlj2 hf2 ht2 hJ hJ0 HJ
              by_cases hlt : j < x2
              · have d1 : decide ((j : Int) < (x2 : Int)) = true := decide_eq_true (by omega)
                have d2 : decide (j < x2) = true := decide_eq_true hlt
                have hxI : (x2 : Int) ≤ 2000 := by have := HXb.out; omega
                by_cases hek : e5 = 0
                · have q0 : ((e5 : Int) == 0) = true := by rw [hek]; rfl
                  have k0 := HJr.out.k0
                  have k1 := HJr.out.k1
                  have k2 := HJr.out.k2
                  obtain ⟨wD, hwD⟩ : ∃ wD, wr.alloc (.cells #[.int .i64 (x3 : Int), .int .i64 (x4 : Int), .int .i64 (x5 : Int)] 95) = wD := ⟨_, rfl⟩
                  have hbD : Below wr.heap.size wr wD := by rw [← hwD]; exact (Below.refl _ _).alloc (Nat.le_refl _) _
                  have hiD : CelsIn .i64 (some ⟨wr.heap.size, 0, none⟩) 1 [(⟨(x3 : Int), (x4 : Int), (x5 : Int)⟩ : Cel)] wD := by rw [← hwD]; exact cels_one wr ⟨(x3 : Int), (x4 : Int), (x5 : Int)⟩ _
                  have HBD := Lib.hid hbD
                  have HID := Lib.hid hiD
                  have HOD := Lib.hid (HJr.out.o.belowAll hbD)
                  have HSD : Hid (rb + 3 ≤ wD.heap.size) := Lib.hid (Nat.le_trans HJr.out.r.size hbD.size)
                  have HWD := Lib.hid hwD
                  have HLb : Hid (((L ++ List.replicate j (⟨(x3 : Int), (x4 : Int), (x5 : Int)⟩ : Cel)).length : Int) ≤ 1000000) := Lib.hid (by rw [HLj.out]; have := HLj2.out; have := HXb.out; omega)
                  have HEk := Lib.hid hek
                  clear hbD hiD hwD hek
                  go_wp2_with (at_builtin; (try rw [HWD.out]); refine wpList_append_cells refT rfl _ _ rfl rfl (rb + 3) _ (L ++ List.replicate j ⟨(x3 : Int), (x4 : Int), (x5 : Int)⟩) (some ⟨wr.heap.size, 0, none⟩) 1 1 [⟨(x3 : Int), (x4 : Int), (x5 : Int)⟩] (by first | rfl | (rw [HLj.out]; rfl)) rfl HOD.out HID.out (fun e => by cases e) HLb.out (by simp) HSD.out ?_)
                  intro v6 w6 hown hgr
                  have HN6 : Hid (RfS rb cb t5 e5 (x3 : Int) (x4 : Int) (x5 : Int) v6 (L ++ List.replicate (j + 1) ⟨(x3 : Int), (x4 : Int), (x5 : Int)⟩) w w6) := Lib.hid (by
                    have h := HJr.out.push HBD.out hown hgr
                    rw [List.replicate_succ']
                    first | exact h | (rw [← List.append_assoc]; exact h))
                  clear hown hgr k0 k1 k2 HOD HID
                  go_wp2_with fail
                  go_roundw
                  case rel => exact ⟨j + 1, by first | rfl | go_num, by omega, Lib.hid ⟨HN6.out, fun h => absurd HEk.out h⟩⟩
                  case measure => simp [intOf]; omega
                · have q0 : ((e5 : Int) == 0) = false := by rw [beq_eq_false_iff_ne]; omega
                  have hjq : (e5 = 0 → j = x2) ∧ (e5 ≠ 0 → j = 0) := ⟨fun h => absurd h hek, HJ0.out⟩
                  have HJq := Lib.hid hjq
                  clear hek hjq
                  have HNew : Hid (RfI rb m0 tot (.slice va lj2 vc) (L ++ List.replicate j ⟨(x3 : Int), (x4 : Int), (x5 : Int)⟩) t5 (l5, e5) w wr) := Lib.hid (RfI.next HJr.out HTk.out HOkk.out HJq.out HXk.out HLm.out HRunk.out HFk.out)
                  have HMs : Hid ((m0 + 1 - lj2) + errOf rb wr < (m0 + 1 - ln) + errOf rb w0) := Lib.hid (by
                    have h1 := HJr.out.r.err
                    have h2 := HErr.out
                    rw [h1, h2]
                    have h3 := HXk.out
                    have h4 := HLm.out
                    rw [HLn.out] at h4
                    have h5 := HLj2.out
                    split
                    · rename_i h6
                      have := h3 h6
                      have := (HJq.out : (e5 = 0 → j = x2) ∧ (e5 ≠ 0 → j = 0)).1 h6
                      omega
                    · omega)
                  go_wp2_with fail
                  go_roundw
                  case rel => exact ⟨_, _, (l5, e5), HNew⟩
                  case measure => exact HMs.out
              · have d1 : decide ((j : Int) < (x2 : Int)) = false := decide_eq_false (by omega)
                have d2 : decide (j < x2) = false := decide_eq_false hlt
                have hjq : (e5 = 0 → j = x2) ∧ (e5 ≠ 0 → j = 0) := ⟨fun _ => by omega, HJ0.out⟩
                have HJq := Lib.hid hjq
                clear hjq
                have HNew : Hid (RfI rb m0 tot (.slice va lj2 vc) (L ++ List.replicate j ⟨(x3 : Int), (x4 : Int), (x5 : Int)⟩) t5 (l5, e5) w wr) := Lib.hid (RfI.next HJr.out HTk.out HOkk.out HJq.out HXk.out HLm.out HRunk.out HFk.out)
                have HMs : Hid ((m0 + 1 - lj2) + errOf rb wr < (m0 + 1 - ln) + errOf rb w0) := Lib.hid (by
                  have h1 := HJr.out.r.err
                  have h2 := HErr.out
                  rw [h1, h2]
                  have h3 := HXk.out
                  have h4 := HLm.out
                  rw [HLn.out] at h4
                  have h5 := HLj2.out
                  split
                  · rename_i h6
                    have := h3 h6
                    have := (HJq.out : (e5 = 0 → j = x2) ∧ (e5 ≠ 0 → j = 0)).1 h6
                    omega
                  · omega)
                go_wp2_with fail
                go_roundw
                case rel => exact ⟨_, _, (l5, e5), HNew⟩
                case measure => exact HMs.out
          · have q2 : ((e2 : Int) == 0) = true := by rw [hz]; rfl
            have q3 : ((x2 : Int) == 0) = false := by rw [beq_eq_false_iff_ne]; omega
            obtain ⟨tz, lz, ez, hSz, htz, hzf, hokz⟩ : ∃ (tz : ByteArray) (lz : List UInt8) (ez : Nat), RfS rb cb tz ez 0 0 0 (.slice ua ln uc) L w wB2 ∧ (tz.data.toList = ((lz, ez) : Sta).1 ∧ (tz.size : Int) ≤ 1000000) ∧ zeroF (l2, e2) x2 = (lz, ez) ∧ InOk (lz, ez) := ⟨t2, l2, e2, HS2.out, HT2.out, by unfold zeroF; rw [if_neg hx], HOk2.out⟩
            have HSz := Lib.hid hSz
            have HTz := Lib.hid htz
            have HZf := Lib.hid hzf
            have HOkz := Lib.hid hokz
            clear hSz htz hzf hokz hz hx
            go_upto_region 10 with fail
            clear i0 i1 q2 q3
            obtain ⟨⟨⟨l3, e3⟩, x3⟩, hq3⟩ : ∃ q, atS (lz, ez) 1114111 = q := ⟨_, rfl⟩
            have HQ3 : Hid (atS (lz, ez) 1114111 = ((l3, e3), x3)) := Lib.hid hq3
            have hok3 : InOk (l3, e3) := by have h := atS_ok HOkz.out 1114111; rw [hq3] at h; exact h
            have HOk3 := Lib.hid hok3
            have hL3 := nlim_any tz HTz.out.2 (lz, ez) HTz.out.1 HOkz.out 1114111 (by first | decide | omega) wB2
            rw [hq3] at hL3
            have HL3 : Hid (Calls Try.prog 26 #[.agg #[.string tz, .int .i64 (ez : Int)], .int .i64 1114111] wB2 (LimPost ((l3, e3), x3) wB2)) := Lib.hid (by exact hL3)
            clear hq3 hok3 hL3
            have q0 := HSz.out.r.i0
            have q1 := HSz.out.r.i1
            go_wp2_with fail
            refine HL3.out.mono ?_
            rintro e wA3 ⟨t3, rfl, htA, hzA, hbA⟩
            have hA := HSz.out.below hbA
            have hB := hA.set t3 e3
            have hC := hB.cell 0 (x3 : Int) (a' := (x3 : Int)) (b' := 0) (c' := 0) rfl
            have a0 := hA.r.i0
            have a1 := hA.r.i1
            have b0 := frozen_block hA.r.i 0
            have b1 := frozen_block hA.r.i 1
            have j0 := hA.k0
            have j1 := frozen_block hA.k 0
            have hne1 : cb ≠ rb := by have := hA.p; omega
            have hne2 : rb ≠ cb := by have := hA.p; omega
            obtain ⟨wC3, hwC⟩ : ∃ wC, ((wA3.setCell ⟨rb, 0, none⟩ (.string t3)).setCell ⟨rb, 1, none⟩ (.int .i64 (e3 : Int))).setCell ⟨cb, 0, none⟩ (.int .i64 (x3 : Int)) = wC := ⟨_, rfl⟩
            rw [hwC] at hC
            have HS3 := Lib.hid hC
            have HT3 : Hid (t3.data.toList = ((l3, e3) : Sta).1 ∧ (t3.size : Int) ≤ 1000000) := Lib.hid ⟨htA, hzA⟩
            have HWC3 := Lib.hid hwC
            clear htA hzA hbA hA hB hC hwC q0 q1 HL3
            go_upto_region 11 with (fail)
            rw [HWC3.out]
            clear a0 a1 b0 b1 j0 j1 hne1 hne2
            obtain ⟨⟨⟨l4, e4⟩, x4⟩, hq4⟩ : ∃ q, atS (l3, e3) 647 = q := ⟨_, rfl⟩
            have HQ4 : Hid (atS (l3, e3) 647 = ((l4, e4), x4)) := Lib.hid hq4
            have hok4 : InOk (l4, e4) := by have h := atS_ok HOk3.out 647; rw [hq4] at h; exact h
            have HOk4 := Lib.hid hok4
            have hL4 := nlim_any t3 HT3.out.2 (l3, e3) HT3.out.1 HOk3.out 647 (by first | decide | omega) wC3
            rw [hq4] at hL4
            have HL4 : Hid (Calls Try.prog 26 #[.agg #[.string t3, .int .i64 (e3 : Int)], .int .i64 647] wC3 (LimPost ((l4, e4), x4) wC3)) := Lib.hid (by exact hL4)
            clear hq4 hok4 hL4
            have q0 := HS3.out.r.i0
            have q1 := HS3.out.r.i1
            go_wp2_with fail
            refine HL4.out.mono ?_
            rintro e wA4 ⟨t4, rfl, htA, hzA, hbA⟩
            have hA := HS3.out.below hbA
            have hB := hA.set t4 e4
            have hC := hB.cell 1 (x4 : Int) (a' := (x3 : Int)) (b' := (x4 : Int)) (c' := 0) rfl
            have a0 := hA.r.i0
            have a1 := hA.r.i1
            have b0 := frozen_block hA.r.i 0
            have b1 := frozen_block hA.r.i 1
            have j0 := hA.k1
            have j1 := frozen_block hA.k 1
            have hne1 : cb ≠ rb := by have := hA.p; omega
            have hne2 : rb ≠ cb := by have := hA.p; omega
            obtain ⟨wC4, hwC⟩ : ∃ wC, ((wA4.setCell ⟨rb, 0, none⟩ (.string t4)).setCell ⟨rb, 1, none⟩ (.int .i64 (e4 : Int))).setCell ⟨cb, 1, none⟩ (.int .i64 (x4 : Int)) = wC := ⟨_, rfl⟩
            rw [hwC] at hC
            have HS4 := Lib.hid hC
            have HT4 : Hid (t4.data.toList = ((l4, e4) : Sta).1 ∧ (t4.size : Int) ≤ 1000000) := Lib.hid ⟨htA, hzA⟩
            have HWC4 := Lib.hid hwC
            clear htA hzA hbA hA hB hC hwC q0 q1 HL4
            go_upto_region 12 with (fail)
            rw [HWC4.out]
            clear a0 a1 b0 b1 j0 j1 hne1 hne2
            obtain ⟨⟨⟨l5, e5⟩, x5⟩, hq5⟩ : ∃ q, atS (l4, e4) 3 = q := ⟨_, rfl⟩
            have HQ5 : Hid (atS (l4, e4) 3 = ((l5, e5), x5)) := Lib.hid hq5
            have hok5 : InOk (l5, e5) := by have h := atS_ok HOk4.out 3; rw [hq5] at h; exact h
            have HOk5 := Lib.hid hok5
            have hL5 := nlim_any t4 HT4.out.2 (l4, e4) HT4.out.1 HOk4.out 3 (by first | decide | omega) wC4
            rw [hq5] at hL5
            have HL5 : Hid (Calls Try.prog 26 #[.agg #[.string t4, .int .i64 (e4 : Int)], .int .i64 3] wC4 (LimPost ((l5, e5), x5) wC4)) := Lib.hid (by exact hL5)
            clear hq5 hok5 hL5
            have q0 := HS4.out.r.i0
            have q1 := HS4.out.r.i1
            go_wp2_with fail
            refine HL5.out.mono ?_
            rintro e wA5 ⟨t5, rfl, htA, hzA, hbA⟩
            have hA := HS4.out.below hbA
            have hB := hA.set t5 e5
            have hC := hB.cell 2 (x5 : Int) (a' := (x3 : Int)) (b' := (x4 : Int)) (c' := (x5 : Int)) rfl
            have a0 := hA.r.i0
            have a1 := hA.r.i1
            have b0 := frozen_block hA.r.i 0
            have b1 := frozen_block hA.r.i 1
            have j0 := hA.k2
            have j1 := frozen_block hA.k 2
            have hne1 : cb ≠ rb := by have := hA.p; omega
            have hne2 : rb ≠ cb := by have := hA.p; omega
            obtain ⟨wC5, hwC⟩ : ∃ wC, ((wA5.setCell ⟨rb, 0, none⟩ (.string t5)).setCell ⟨rb, 1, none⟩ (.int .i64 (e5 : Int))).setCell ⟨cb, 2, none⟩ (.int .i64 (x5 : Int)) = wC := ⟨_, rfl⟩
            rw [hwC] at hC
            have HS5 := Lib.hid hC
            have HT5 : Hid (t5.data.toList = ((l5, e5) : Sta).1 ∧ (t5.size : Int) ≤ 1000000) := Lib.hid ⟨htA, hzA⟩
            have HWC5 := Lib.hid hwC
            clear htA hzA hbA hA hB hC hwC q0 q1 HL5
            go_upto_region 13 with (fail)
            rw [HWC5.out]
            clear a0 a1 b0 b1 j0 j1 hne1 hne2
            have HRs : Hid (runS (lj, 0) m = ((l5, e5), (x2, ⟨(x3 : Int), (x4 : Int), (x5 : Int)⟩))) := Lib.hid (by
              have h1 : r1 (lj, 0) m = ((l2, e2), x2) := by rw [r1_def]; exact HQ2.out
              have h2 : r2 (lj, 0) m = ((l3, e3), x3) := by rw [r2_def, h1]; simp only; rw [HZf.out]; exact HQ3.out
              have h3 : r3 (lj, 0) m = ((l4, e4), x4) := by rw [r3_def, h2]; exact HQ4.out
              have h4 : r4 (lj, 0) m = ((l5, e5), x5) := by rw [r4_def, h3]; exact HQ5.out
              unfold runS
              rw [h1, h2, h3, h4])
            have zi := fun d os => cell_regrown HS5.out.r.i1 d os
            have HXb : Hid (x2 ≤ 2000) := Lib.hid (by have h := atS_le (lj, 0) m; rw [HQ2.out] at h; have := HLm.out; simp only at h; omega)
            by_cases he5 : e5 = 0
            rotate_left
            · have q5 : ((e5 : Int) == 0) = false := by rw [beq_eq_false_iff_ne]; omega
              have hlk : likeF (l5, e5) pr ⟨(x3 : Int), (x4 : Int), (x5 : Int)⟩ = (l5, e5) := by unfold likeF; split; unfold failS; rw [if_pos (.inl he5)]; rfl
              have HOkk : Hid (InOk (l5, e5)) := Lib.hid (by rw [← hlk]; exact likeF_ok HOk5.out _ _)
              have HXk : Hid (e5 = 0 → 1 ≤ x2 ∧ x2 ≤ m) := Lib.hid (fun h => by
                have h1 := (likeF_zero (st := (l5, e5)) (pr := pr) (c := ⟨(x3 : Int), (x4 : Int), (x5 : Int)⟩) (by rw [hlk]; exact h)).2.2
                have h2 := runS_zero (st := (lj, 0)) (m := m) (by rw [HRs.out]; exact h1)
                rw [HRs.out] at h2
                exact ⟨h2.2.2.1, h2.2.2.2.1⟩)
              have HRunk : Hid ((rowS gq (m - x2) (l5, e5) (some ⟨(x3 : Int), (x4 : Int), (x5 : Int)⟩)).1 = tot.1 ∧ (tot.1.2 = 0 → L ++ expR ((x2, (⟨(x3 : Int), (x4 : Int), (x5 : Int)⟩ : Cel)) :: (rowS gq (m - x2) (l5, e5) (some ⟨(x3 : Int), (x4 : Int), (x5 : Int)⟩)).2) = expR tot.2)) := Lib.hid (by
                have h := HRun.out
                rw [HRs.out] at h
                simp only at h
                rw [hlk] at h
                exact h)
              clear hlk
              have HTk := HT5
              clear he5
              refine wp_region_quiet_below (by kernel_rfl) (by kernel_rfl) ?_
              repeat (go_big_quiet_step (fail))
              refine wpQuiet_nil ?_
              intro _ hw'
              obtain ⟨⟨dq, osq⟩, hw''⟩ := hw'
              have hb9 := below_regrown wC5 dq osq
              obtain ⟨w9, hw9⟩ : ∃ w9, Go.Sort.grow (redrawn wC5 dq) osq = w9 := ⟨_, rfl⟩
              rw [hw'']
              simp only
              rw [hw9] at hb9 ⊢
              have HS9 := Lib.hid (HS5.out.below hb9)
              clear hw'' hw9 hb9 zi
              clear q5
              go_upto_region 15 with fail
              go_wp2_with fail
              go_loopw [7, 10] (fun u i wr => ∃ j : Nat, i = .int .i64 (j : Int) ∧ j ≤ x2 ∧ Hid (RfS rb cb t5 e5 (x3 : Int) (x4 : Int) (x5 : Int) u (L ++ List.replicate j ⟨(x3 : Int), (x4 : Int), (x5 : Int)⟩) w wr ∧ (e5 ≠ 0 → j = 0))) (fun _ i _ => x2 - (intOf i).toNat)
              case atStart => exact ⟨0, rfl, Nat.zero_le _, Lib.hid ⟨by rw [List.replicate_zero, List.append_nil]; exact HS9.out, fun _ => rfl⟩⟩
              case round =>
                obtain ⟨j, rfl, hj, HJ⟩ := hrel
                obtain ⟨hJ, hJ0⟩ := HJ.out
                obtain ⟨va, vc, rfl, -, -, -, hf2, ht2⟩ := hJ.o.shape
                obtain ⟨lj2, hlj2⟩ : ∃ n, (L ++ List.replicate j (⟨(x3 : Int), (x4 : Int), (x5 : Int)⟩ : Cel)).length = n := ⟨_, rfl⟩
                rw [hlj2] at hf2 hJ ⊢
                have HLj2 : Hid (lj2 = ln + j) := Lib.hid (by rw [← hlj2, List.length_append, List.length_replicate, HLn.out])
                have HLj := Lib.hid hlj2
                have HJr := Lib.hid hJ
                have HJ0 := Lib.hid hJ0
                have i0 := hJ.r.i0
                have i1 := hJ.r.i1
                clear hlj2 hf2 ht2 hJ hJ0 HJ
                by_cases hlt : j < x2
                · have d1 : decide ((j : Int) < (x2 : Int)) = true := decide_eq_true (by omega)
                  have d2 : decide (j < x2) = true := decide_eq_true hlt
                  have hxI : (x2 : Int) ≤ 2000 := by have := HXb.out; omega
                  by_cases hek : e5 = 0
                  · have q0 : ((e5 : Int) == 0) = true := by rw [hek]; rfl
                    have k0 := HJr.out.k0
                    have k1 := HJr.out.k1
                    have k2 := HJr.out.k2
                    obtain ⟨wD, hwD⟩ : ∃ wD, wr.alloc (.cells #[.int .i64 (x3 : Int), .int .i64 (x4 : Int), .int .i64 (x5 : Int)] 95) = wD := ⟨_, rfl⟩
                    have hbD : Below wr.heap.size wr wD := by rw [← hwD]; exact (Below.refl _ _).alloc (Nat.le_refl _) _
                    have hiD : CelsIn .i64 (some ⟨wr.heap.size, 0, none⟩) 1 [(⟨(x3 : Int), (x4 : Int), (x5 : Int)⟩ : Cel)] wD := by rw [← hwD]; exact cels_one wr ⟨(x3 : Int), (x4 : Int), (x5 : Int)⟩ _
                    have HBD := Lib.hid hbD
                    have HID := Lib.hid hiD
                    have HOD := Lib.hid (HJr.out.o.belowAll hbD)
                    have HSD : Hid (rb + 3 ≤ wD.heap.size) := Lib.hid (Nat.le_trans HJr.out.r.size hbD.size)
                    have HWD := Lib.hid hwD
                    have HLb : Hid (((L ++ List.replicate j (⟨(x3 : Int), (x4 : Int), (x5 : Int)⟩ : Cel)).length : Int) ≤ 1000000) := Lib.hid (by rw [HLj.out]; have := HLj2.out; have := HXb.out; omega)
                    have HEk := Lib.hid hek
                    clear hbD hiD hwD hek
                    go_wp2_with (at_builtin; (try rw [HWD.out]); refine wpList_append_cells refT rfl _ _ rfl rfl (rb + 3) _ (L ++ List.replicate j ⟨(x3 : Int), (x4 : Int), (x5 : Int)⟩) (some ⟨wr.heap.size, 0, none⟩) 1 1 [⟨(x3 : Int), (x4 : Int), (x5 : Int)⟩] (by first | rfl | (rw [HLj.out]; rfl)) rfl HOD.out HID.out (fun e => by cases e) HLb.out (by simp) HSD.out ?_)
                    intro v6 w6 hown hgr
                    have HN6 : Hid (RfS rb cb t5 e5 (x3 : Int) (x4 : Int) (x5 : Int) v6 (L ++ List.replicate (j + 1) ⟨(x3 : Int), (x4 : Int), (x5 : Int)⟩) w w6) := Lib.hid (by
                      have h := HJr.out.push HBD.out hown hgr
                      rw [List.replicate_succ']
                      first | exact h | (rw [← List.append_assoc]; exact h))
                    clear hown hgr k0 k1 k2 HOD HID
                    go_wp2_with fail
                    go_roundw
                    case rel => exact ⟨j + 1, by first | rfl | go_num, by omega, Lib.hid ⟨HN6.out, fun h => absurd HEk.out h⟩⟩
                    case measure => simp [intOf]; omega
                  · have q0 : ((e5 : Int) == 0) = false := by rw [beq_eq_false_iff_ne]; omega
                    have hjq : (e5 = 0 → j = x2) ∧ (e5 ≠ 0 → j = 0) := ⟨fun h => absurd h hek, HJ0.out⟩
                    have HJq := Lib.hid hjq
                    clear hek hjq
                    have HNew : Hid (RfI rb m0 tot (.slice va lj2 vc) (L ++ List.replicate j ⟨(x3 : Int), (x4 : Int), (x5 : Int)⟩) t5 (l5, e5) w wr) := Lib.hid (RfI.next HJr.out HTk.out HOkk.out HJq.out HXk.out HLm.out HRunk.out HFk.out)
                    have HMs : Hid ((m0 + 1 - lj2) + errOf rb wr < (m0 + 1 - ln) + errOf rb w0) := Lib.hid (by
                      have h1 := HJr.out.r.err
                      have h2 := HErr.out
                      rw [h1, h2]
                      have h3 := HXk.out
                      have h4 := HLm.out
                      rw [HLn.out] at h4
                      have h5 := HLj2.out
                      split
                      · rename_i h6
                        have := h3 h6
                        have := (HJq.out : (e5 = 0 → j = x2) ∧ (e5 ≠ 0 → j = 0)).1 h6
                        omega
                      · omega)
                    go_wp2_with fail
                    go_roundw
                    case rel => exact ⟨_, _, (l5, e5), HNew⟩
                    case measure => exact HMs.out
                · have d1 : decide ((j : Int) < (x2 : Int)) = false := decide_eq_false (by omega)
                  have d2 : decide (j < x2) = false := decide_eq_false hlt
                  have hjq : (e5 = 0 → j = x2) ∧ (e5 ≠ 0 → j = 0) := ⟨fun _ => by omega, HJ0.out⟩
                  have HJq := Lib.hid hjq
                  clear hjq
                  have HNew : Hid (RfI rb m0 tot (.slice va lj2 vc) (L ++ List.replicate j ⟨(x3 : Int), (x4 : Int), (x5 : Int)⟩) t5 (l5, e5) w wr) := Lib.hid (RfI.next HJr.out HTk.out HOkk.out HJq.out HXk.out HLm.out HRunk.out HFk.out)
                  have HMs : Hid ((m0 + 1 - lj2) + errOf rb wr < (m0 + 1 - ln) + errOf rb w0) := Lib.hid (by
                    have h1 := HJr.out.r.err
                    have h2 := HErr.out
                    rw [h1, h2]
                    have h3 := HXk.out
                    have h4 := HLm.out
                    rw [HLn.out] at h4
                    have h5 := HLj2.out
                    split
                    · rename_i h6
                      have := h3 h6
                      have := (HJq.out : (e5 = 0 → j = x2) ∧ (e5 ≠ 0 → j = 0)).1 h6
                      omega
                    · omega)
                  go_wp2_with fail
                  go_roundw
                  case rel => exact ⟨_, _, (l5, e5), HNew⟩
                  case measure => exact HMs.out
            have q5 : ((e5 : Int) == 0) = true := by rw [he5]; rfl
            have m1 := fun d os => cell_regrown HS5.out.k0 d os
            have m2 := fun d os => cell_regrown HS5.out.k1 d os
            have m3 := fun d os => cell_regrown HS5.out.k2 d os
            rcases List.eq_nil_or_concat L with hR0 | ⟨R0, q0, hR0⟩
            · have hk0 : ln = 0 := by rw [← HLn.out, hR0]; rfl
              have HPr : Hid (¬ pr = some ⟨(x3 : Int), (x4 : Int), (x5 : Int)⟩) := Lib.hid (by rw [HPv.out, hR0]; simp)
              have dk : decide ((ln : Int) > 0) = false := decide_eq_false (by omega)
              have dk2 : decide (0 < ln) = false := decide_eq_false (by omega)
              clear hR0
              have hlk : likeF (l5, e5) pr ⟨(x3 : Int), (x4 : Int), (x5 : Int)⟩ = (l5, e5) := by unfold likeF; rw [if_neg HPr.out]
              have HOkk : Hid (InOk (l5, e5)) := Lib.hid (by rw [← hlk]; exact likeF_ok HOk5.out _ _)
              have HXk : Hid (e5 = 0 → 1 ≤ x2 ∧ x2 ≤ m) := Lib.hid (fun h => by
                have h1 := (likeF_zero (st := (l5, e5)) (pr := pr) (c := ⟨(x3 : Int), (x4 : Int), (x5 : Int)⟩) (by rw [hlk]; exact h)).2.2
                have h2 := runS_zero (st := (lj, 0)) (m := m) (by rw [HRs.out]; exact h1)
                rw [HRs.out] at h2
                exact ⟨h2.2.2.1, h2.2.2.2.1⟩)
              have HRunk : Hid ((rowS gq (m - x2) (l5, e5) (some ⟨(x3 : Int), (x4 : Int), (x5 : Int)⟩)).1 = tot.1 ∧ (tot.1.2 = 0 → L ++ expR ((x2, (⟨(x3 : Int), (x4 : Int), (x5 : Int)⟩ : Cel)) :: (rowS gq (m - x2) (l5, e5) (some ⟨(x3 : Int), (x4 : Int), (x5 : Int)⟩)).2) = expR tot.2)) := Lib.hid (by
                have h := HRun.out
                rw [HRs.out] at h
                simp only at h
                rw [hlk] at h
                exact h)
              clear hlk
              have HTk := HT5
              refine wp_region_quiet_below (by kernel_rfl) (by kernel_rfl) ?_
              repeat (go_big_quiet_step (fail))
              refine wpQuiet_nil ?_
              intro _ hw'
              obtain ⟨⟨dq, osq⟩, hw''⟩ := hw'
              have hb9 := below_regrown wC5 dq osq
              obtain ⟨w9, hw9⟩ : ∃ w9, Go.Sort.grow (redrawn wC5 dq) osq = w9 := ⟨_, rfl⟩
              rw [hw'']
              simp only
              rw [hw9] at hb9 ⊢
              have HS9 := Lib.hid (HS5.out.below hb9)
              clear hw'' hw9 hb9 zi m1 m2 m3
              clear q5 he5 hlm hsub dL dL2 hlW hmb hk0 dk dk2
              go_upto_region 15 with fail
              go_wp2_with fail
              go_loopw [7, 10] (fun u i wr => ∃ j : Nat, i = .int .i64 (j : Int) ∧ j ≤ x2 ∧ Hid (RfS rb cb t5 e5 (x3 : Int) (x4 : Int) (x5 : Int) u (L ++ List.replicate j ⟨(x3 : Int), (x4 : Int), (x5 : Int)⟩) w wr ∧ (e5 ≠ 0 → j = 0))) (fun _ i _ => x2 - (intOf i).toNat)
              case atStart => exact ⟨0, rfl, Nat.zero_le _, Lib.hid ⟨by rw [List.replicate_zero, List.append_nil]; exact HS9.out, fun _ => rfl⟩⟩
              case round =>
                obtain ⟨j, rfl, hj, HJ⟩ := hrel
                obtain ⟨hJ, hJ0⟩ := HJ.out
                obtain ⟨va, vc, rfl, -, -, -, hf2, ht2⟩ := hJ.o.shape
                obtain ⟨lj2, hlj2⟩ : ∃ n, (L ++ List.replicate j (⟨(x3 : Int), (x4 : Int), (x5 : Int)⟩ : Cel)).length = n := ⟨_, rfl⟩
                rw [hlj2] at hf2 hJ ⊢
                have HLj2 : Hid (lj2 = ln + j) := Lib.hid (by rw [← hlj2, List.length_append, List.length_replicate, HLn.out])
                have HLj := Lib.hid hlj2
                have HJr := Lib.hid hJ
                have HJ0 := Lib.hid hJ0
                have i0 := hJ.r.i0
                have i1 := hJ.r.i1
                clear hlj2 hf2 ht2 hJ hJ0 HJ
                by_cases hlt : j < x2
                · have d1 : decide ((j : Int) < (x2 : Int)) = true := decide_eq_true (by omega)
                  have d2 : decide (j < x2) = true := decide_eq_true hlt
                  have hxI : (x2 : Int) ≤ 2000 := by have := HXb.out; omega
                  by_cases hek : e5 = 0
                  · have q0 : ((e5 : Int) == 0) = true := by rw [hek]; rfl
                    have k0 := HJr.out.k0
                    have k1 := HJr.out.k1
                    have k2 := HJr.out.k2
                    obtain ⟨wD, hwD⟩ : ∃ wD, wr.alloc (.cells #[.int .i64 (x3 : Int), .int .i64 (x4 : Int), .int .i64 (x5 : Int)] 95) = wD := ⟨_, rfl⟩
                    have hbD : Below wr.heap.size wr wD := by rw [← hwD]; exact (Below.refl _ _).alloc (Nat.le_refl _) _
                    have hiD : CelsIn .i64 (some ⟨wr.heap.size, 0, none⟩) 1 [(⟨(x3 : Int), (x4 : Int), (x5 : Int)⟩ : Cel)] wD := by rw [← hwD]; exact cels_one wr ⟨(x3 : Int), (x4 : Int), (x5 : Int)⟩ _
                    have HBD := Lib.hid hbD
                    have HID := Lib.hid hiD
                    have HOD := Lib.hid (HJr.out.o.belowAll hbD)
                    have HSD : Hid (rb + 3 ≤ wD.heap.size) := Lib.hid (Nat.le_trans HJr.out.r.size hbD.size)
                    have HWD := Lib.hid hwD
                    have HLb : Hid (((L ++ List.replicate j (⟨(x3 : Int), (x4 : Int), (x5 : Int)⟩ : Cel)).length : Int) ≤ 1000000) := Lib.hid (by rw [HLj.out]; have := HLj2.out; have := HXb.out; omega)
                    have HEk := Lib.hid hek
                    clear hbD hiD hwD hek
                    go_wp2_with (at_builtin; (try rw [HWD.out]); refine wpList_append_cells refT rfl _ _ rfl rfl (rb + 3) _ (L ++ List.replicate j ⟨(x3 : Int), (x4 : Int), (x5 : Int)⟩) (some ⟨wr.heap.size, 0, none⟩) 1 1 [⟨(x3 : Int), (x4 : Int), (x5 : Int)⟩] (by first | rfl | (rw [HLj.out]; rfl)) rfl HOD.out HID.out (fun e => by cases e) HLb.out (by simp) HSD.out ?_)
                    intro v6 w6 hown hgr
                    have HN6 : Hid (RfS rb cb t5 e5 (x3 : Int) (x4 : Int) (x5 : Int) v6 (L ++ List.replicate (j + 1) ⟨(x3 : Int), (x4 : Int), (x5 : Int)⟩) w w6) := Lib.hid (by
                      have h := HJr.out.push HBD.out hown hgr
                      rw [List.replicate_succ']
                      first | exact h | (rw [← List.append_assoc]; exact h))
                    clear hown hgr k0 k1 k2 HOD HID
                    go_wp2_with fail
                    go_roundw
                    case rel => exact ⟨j + 1, by first | rfl | go_num, by omega, Lib.hid ⟨HN6.out, fun h => absurd HEk.out h⟩⟩
                    case measure => simp [intOf]; omega
                  · have q0 : ((e5 : Int) == 0) = false := by rw [beq_eq_false_iff_ne]; omega
                    have hjq : (e5 = 0 → j = x2) ∧ (e5 ≠ 0 → j = 0) := ⟨fun h => absurd h hek, HJ0.out⟩
                    have HJq := Lib.hid hjq
                    clear hek hjq
                    have HNew : Hid (RfI rb m0 tot (.slice va lj2 vc) (L ++ List.replicate j ⟨(x3 : Int), (x4 : Int), (x5 : Int)⟩) t5 (l5, e5) w wr) := Lib.hid (RfI.next HJr.out HTk.out HOkk.out HJq.out HXk.out HLm.out HRunk.out HFk.out)
                    have HMs : Hid ((m0 + 1 - lj2) + errOf rb wr < (m0 + 1 - ln) + errOf rb w0) := Lib.hid (by
                      have h1 := HJr.out.r.err
                      have h2 := HErr.out
                      rw [h1, h2]
                      have h3 := HXk.out
                      have h4 := HLm.out
                      rw [HLn.out] at h4
                      have h5 := HLj2.out
                      split
                      · rename_i h6
                        have := h3 h6
                        have := (HJq.out : (e5 = 0 → j = x2) ∧ (e5 ≠ 0 → j = 0)).1 h6
                        omega
                      · omega)
                    go_wp2_with fail
                    go_roundw
                    case rel => exact ⟨_, _, (l5, e5), HNew⟩
                    case measure => exact HMs.out
                · have d1 : decide ((j : Int) < (x2 : Int)) = false := decide_eq_false (by omega)
                  have d2 : decide (j < x2) = false := decide_eq_false hlt
                  have hjq : (e5 = 0 → j = x2) ∧ (e5 ≠ 0 → j = 0) := ⟨fun _ => by omega, HJ0.out⟩
                  have HJq := Lib.hid hjq
                  clear hjq
                  have HNew : Hid (RfI rb m0 tot (.slice va lj2 vc) (L ++ List.replicate j ⟨(x3 : Int), (x4 : Int), (x5 : Int)⟩) t5 (l5, e5) w wr) := Lib.hid (RfI.next HJr.out HTk.out HOkk.out HJq.out HXk.out HLm.out HRunk.out HFk.out)
                  have HMs : Hid ((m0 + 1 - lj2) + errOf rb wr < (m0 + 1 - ln) + errOf rb w0) := Lib.hid (by
                    have h1 := HJr.out.r.err
                    have h2 := HErr.out
                    rw [h1, h2]
                    have h3 := HXk.out
                    have h4 := HLm.out
                    rw [HLn.out] at h4
                    have h5 := HLj2.out
                    split
                    · rename_i h6
                      have := h3 h6
                      have := (HJq.out : (e5 = 0 → j = x2) ∧ (e5 ≠ 0 → j = 0)).1 h6
                      omega
                    · omega)
                  go_wp2_with fail
                  go_roundw
                  case rel => exact ⟨_, _, (l5, e5), HNew⟩
                  case measure => exact HMs.out
            · rw [List.concat_eq_append] at hR0
              obtain ⟨⟨d1, d2, d3⟩, hq0⟩ : ∃ q, q0 = q := ⟨_, rfl⟩
              subst hq0
              have hlen : ln = R0.length + 1 := by rw [← HLn.out, hR0, List.length_append]; rfl
              obtain ⟨j0, hj0⟩ : ∃ j0, R0.length = j0 := ⟨_, rfl⟩
              rw [hj0] at hlen
              have ho5 := HS5.out.o.shape
              obtain ⟨a', c', hsl, hin5, hbl5, -, hfc, htc⟩ := ho5
              obtain ⟨rfl, -, rfl⟩ : ua = a' ∧ ln = L.length ∧ uc = c' := by injection hsl with e1 e2 e3; exact ⟨e1, e2, e3⟩
              obtain ⟨ob, oo, rfl, hob, hAt⟩ := hin5.at_.resolve_left (by rw [hR0]; simp)
              obtain ⟨-, -, rfl⟩ := hbl5 ob oo rfl
              have hr := hAt j0 ⟨d1, d2, d3⟩ (by rw [hR0, ← hj0]; simp)
              rw [Nat.zero_add] at hr
              have HPv2 : Hid (pr = some ⟨d1, d2, d3⟩) := Lib.hid (by rw [HPv.out, hR0]; simp)
              have y1 := fun d os => cell_regrown hr.c0 d os
              have y2 := fun d os => cell_regrown hr.c1 d os
              have y3 := fun d os => cell_regrown hr.c2 d os
              simp only at y1 y2 y3
              have hcI : (j0 : Int) + 1 ≤ uc := by have := hfc; have := HLn.out; omega
              have hcT : (uc : Int) ≤ 9223372036854775807 := htc
              have hjI : (j0 : Int) ≤ 1000000 := by omega
              clear hR0 hj0 hsl hfc htc hob hAt hr hin5 hbl5
              subst hlen
              by_cases e1' : d1 = (x3 : Int)
              · subst e1'
                by_cases e2' : d2 = (x4 : Int)
                · subst e2'
                  by_cases e3' : d3 = (x5 : Int)
                  · subst e3'
                    have HPr : Hid (pr = some ⟨(x3 : Int), (x4 : Int), (x5 : Int)⟩) := HPv2
                    have hlkE : likeF (l5, e5) pr ⟨(x3 : Int), (x4 : Int), (x5 : Int)⟩ = ([], 1) := by unfold likeF; rw [if_pos HPr.out, he5]; rfl
                    have HLkE := Lib.hid hlkE
                    clear hlkE
                    refine wp_region_quiet_below (by kernel_rfl) (by kernel_rfl) ?_
                    repeat (go_big_quiet_step (fail))
                    refine wpQuiet_nil ?_
                    intro _ hw'
                    obtain ⟨⟨dq, osq⟩, hw''⟩ := hw'
                    have hb9 := below_regrown wC5 dq osq
                    obtain ⟨w9, hw9⟩ : ∃ w9, Go.Sort.grow (redrawn wC5 dq) osq = w9 := ⟨_, rfl⟩
                    rw [hw'']
                    simp only
                    rw [hw9] at hb9 ⊢
                    have HS9 := Lib.hid (HS5.out.below hb9)
                    clear hw'' hw9 hb9 zi m1 m2 m3 y1 y2 y3
                    have a0 := HS9.out.r.i0
                    have a1 := HS9.out.r.i1
                    have b0 := frozen_block HS9.out.r.i 0
                    have b1 := frozen_block HS9.out.r.i 1
                    obtain ⟨wE, hwE⟩ : ∃ wE, (w9.setCell ⟨rb, 0, none⟩ (.string ⟨#[]⟩)).setCell ⟨rb, 1, none⟩ (.int .i64 1) = wE := ⟨_, rfl⟩
                    obtain ⟨tk, lk, ek, hSE, htk, hlkG⟩ : ∃ (tk : ByteArray) (lk : List UInt8) (ek : Nat), RfS rb cb tk ek (x3 : Int) (x4 : Int) (x5 : Int) (.slice (some ⟨ob, 0, none⟩) (j0 + 1) uc) L w wE ∧ (tk.data.toList = ((lk, ek) : Sta).1 ∧ (tk.size : Int) ≤ 1000000) ∧ likeF (l5, e5) pr ⟨(x3 : Int), (x4 : Int), (x5 : Int)⟩ = (lk, ek) := ⟨⟨#[]⟩, [], 1, by rw [← hwE]; exact HS9.out.set ⟨#[]⟩ 1, ⟨rfl, by decide⟩, HLkE.out⟩
                    have HSE := Lib.hid hSE
                    have HTk := Lib.hid htk
                    have HWE := Lib.hid hwE
                    have hlk : likeF (l5, e5) pr ⟨(x3 : Int), (x4 : Int), (x5 : Int)⟩ = (lk, ek) := hlkG
                    have HOkk : Hid (InOk (lk, ek)) := Lib.hid (by rw [← hlk]; exact likeF_ok HOk5.out _ _)
                    have HXk : Hid (ek = 0 → 1 ≤ x2 ∧ x2 ≤ m) := Lib.hid (fun h => by
                      have h1 := (likeF_zero (st := (l5, e5)) (pr := pr) (c := ⟨(x3 : Int), (x4 : Int), (x5 : Int)⟩) (by rw [hlk]; exact h)).2.2
                      have h2 := runS_zero (st := (lj, 0)) (m := m) (by rw [HRs.out]; exact h1)
                      rw [HRs.out] at h2
                      exact ⟨h2.2.2.1, h2.2.2.2.1⟩)
                    have HRunk : Hid ((rowS gq (m - x2) (lk, ek) (some ⟨(x3 : Int), (x4 : Int), (x5 : Int)⟩)).1 = tot.1 ∧ (tot.1.2 = 0 → L ++ expR ((x2, (⟨(x3 : Int), (x4 : Int), (x5 : Int)⟩ : Cel)) :: (rowS gq (m - x2) (lk, ek) (some ⟨(x3 : Int), (x4 : Int), (x5 : Int)⟩)).2) = expR tot.2)) := Lib.hid (by
                      have h := HRun.out
                      rw [HRs.out] at h
                      simp only at h
                      rw [hlk] at h
                      exact h)
                    clear hlk
                    clear hwE hSE htk hlkG q5
                    go_upto_region 15 with fail
                    rw [HWE.out]
                    clear a0 a1 b0 b1
                    go_wp2_with fail
                    go_loopw [7, 10] (fun u i wr => ∃ j : Nat, i = .int .i64 (j : Int) ∧ j ≤ x2 ∧ Hid (RfS rb cb tk ek (x3 : Int) (x4 : Int) (x5 : Int) u (L ++ List.replicate j ⟨(x3 : Int), (x4 : Int), (x5 : Int)⟩) w wr ∧ (ek ≠ 0 → j = 0))) (fun _ i _ => x2 - (intOf i).toNat)
                    case atStart => exact ⟨0, rfl, Nat.zero_le _, Lib.hid ⟨by rw [List.replicate_zero, List.append_nil]; exact HSE.out, fun _ => rfl⟩⟩
                    case round =>
                      obtain ⟨j, rfl, hj, HJ⟩ := hrel
                      obtain ⟨hJ, hJ0⟩ := HJ.out
                      obtain ⟨va, vc, rfl, -, -, -, hf2, ht2⟩ := hJ.o.shape
                      obtain ⟨lj2, hlj2⟩ : ∃ n, (L ++ List.replicate j (⟨(x3 : Int), (x4 : Int), (x5 : Int)⟩ : Cel)).length = n := ⟨_, rfl⟩
                      rw [hlj2] at hf2 hJ ⊢
                      have HLj2 : Hid (lj2 = (j0 + 1) + j) := Lib.hid (by rw [← hlj2, List.length_append, List.length_replicate, HLn.out])
                      have HLj := Lib.hid hlj2
                      have HJr := Lib.hid hJ
                      have HJ0 := Lib.hid hJ0
                      have i0 := hJ.r.i0
                      have i1 := hJ.r.i1
                      clear hlj2 hf2 ht2 hJ hJ0 HJ
                      by_cases hlt : j < x2
                      · have d1 : decide ((j : Int) < (x2 : Int)) = true := decide_eq_true (by omega)
                        have d2 : decide (j < x2) = true := decide_eq_true hlt
                        have hxI : (x2 : Int) ≤ 2000 := by have := HXb.out; omega
                        by_cases hek : ek = 0
                        · have q0 : ((ek : Int) == 0) = true := by rw [hek]; rfl
                          have k0 := HJr.out.k0
                          have k1 := HJr.out.k1
                          have k2 := HJr.out.k2
                          obtain ⟨wD, hwD⟩ : ∃ wD, wr.alloc (.cells #[.int .i64 (x3 : Int), .int .i64 (x4 : Int), .int .i64 (x5 : Int)] 95) = wD := ⟨_, rfl⟩
                          have hbD : Below wr.heap.size wr wD := by rw [← hwD]; exact (Below.refl _ _).alloc (Nat.le_refl _) _
                          have hiD : CelsIn .i64 (some ⟨wr.heap.size, 0, none⟩) 1 [(⟨(x3 : Int), (x4 : Int), (x5 : Int)⟩ : Cel)] wD := by rw [← hwD]; exact cels_one wr ⟨(x3 : Int), (x4 : Int), (x5 : Int)⟩ _
                          have HBD := Lib.hid hbD
                          have HID := Lib.hid hiD
                          have HOD := Lib.hid (HJr.out.o.belowAll hbD)
                          have HSD : Hid (rb + 3 ≤ wD.heap.size) := Lib.hid (Nat.le_trans HJr.out.r.size hbD.size)
                          have HWD := Lib.hid hwD
                          have HLb : Hid (((L ++ List.replicate j (⟨(x3 : Int), (x4 : Int), (x5 : Int)⟩ : Cel)).length : Int) ≤ 1000000) := Lib.hid (by rw [HLj.out]; have := HLj2.out; have := HXb.out; omega)
                          have HEk := Lib.hid hek
                          clear hbD hiD hwD hek
                          go_wp2_with (at_builtin; (try rw [HWD.out]); refine wpList_append_cells refT rfl _ _ rfl rfl (rb + 3) _ (L ++ List.replicate j ⟨(x3 : Int), (x4 : Int), (x5 : Int)⟩) (some ⟨wr.heap.size, 0, none⟩) 1 1 [⟨(x3 : Int), (x4 : Int), (x5 : Int)⟩] (by first | rfl | (rw [HLj.out]; rfl)) rfl HOD.out HID.out (fun e => by cases e) HLb.out (by simp) HSD.out ?_)
                          intro v6 w6 hown hgr
                          have HN6 : Hid (RfS rb cb tk ek (x3 : Int) (x4 : Int) (x5 : Int) v6 (L ++ List.replicate (j + 1) ⟨(x3 : Int), (x4 : Int), (x5 : Int)⟩) w w6) := Lib.hid (by
                            have h := HJr.out.push HBD.out hown hgr
                            rw [List.replicate_succ']
                            first | exact h | (rw [← List.append_assoc]; exact h))
                          clear hown hgr k0 k1 k2 HOD HID
                          go_wp2_with fail
                          go_roundw
                          case rel => exact ⟨j + 1, by first | rfl | go_num, by omega, Lib.hid ⟨HN6.out, fun h => absurd HEk.out h⟩⟩
                          case measure => simp [intOf]; omega
                        · have q0 : ((ek : Int) == 0) = false := by rw [beq_eq_false_iff_ne]; omega
                          have hjq : (ek = 0 → j = x2) ∧ (ek ≠ 0 → j = 0) := ⟨fun h => absurd h hek, HJ0.out⟩
                          have HJq := Lib.hid hjq
                          clear hek hjq
                          have HNew : Hid (RfI rb m0 tot (.slice va lj2 vc) (L ++ List.replicate j ⟨(x3 : Int), (x4 : Int), (x5 : Int)⟩) tk (lk, ek) w wr) := Lib.hid (RfI.next HJr.out HTk.out HOkk.out HJq.out HXk.out HLm.out HRunk.out HFk.out)
                          have HMs : Hid ((m0 + 1 - lj2) + errOf rb wr < (m0 + 1 - (j0 + 1)) + errOf rb w0) := Lib.hid (by
                            have h1 := HJr.out.r.err
                            have h2 := HErr.out
                            rw [h1, h2]
                            have h3 := HXk.out
                            have h4 := HLm.out
                            rw [HLn.out] at h4
                            have h5 := HLj2.out
                            split
                            · rename_i h6
                              have := h3 h6
                              have := (HJq.out : (ek = 0 → j = x2) ∧ (ek ≠ 0 → j = 0)).1 h6
                              omega
                            · omega)
                          go_wp2_with fail
                          go_roundw
                          case rel => exact ⟨_, _, (lk, ek), HNew⟩
                          case measure => exact HMs.out
                      · have d1 : decide ((j : Int) < (x2 : Int)) = false := decide_eq_false (by omega)
                        have d2 : decide (j < x2) = false := decide_eq_false hlt
                        have hjq : (ek = 0 → j = x2) ∧ (ek ≠ 0 → j = 0) := ⟨fun _ => by omega, HJ0.out⟩
                        have HJq := Lib.hid hjq
                        clear hjq
                        have HNew : Hid (RfI rb m0 tot (.slice va lj2 vc) (L ++ List.replicate j ⟨(x3 : Int), (x4 : Int), (x5 : Int)⟩) tk (lk, ek) w wr) := Lib.hid (RfI.next HJr.out HTk.out HOkk.out HJq.out HXk.out HLm.out HRunk.out HFk.out)
                        have HMs : Hid ((m0 + 1 - lj2) + errOf rb wr < (m0 + 1 - (j0 + 1)) + errOf rb w0) := Lib.hid (by
                          have h1 := HJr.out.r.err
                          have h2 := HErr.out
                          rw [h1, h2]
                          have h3 := HXk.out
                          have h4 := HLm.out
                          rw [HLn.out] at h4
                          have h5 := HLj2.out
                          split
                          · rename_i h6
                            have := h3 h6
                            have := (HJq.out : (ek = 0 → j = x2) ∧ (ek ≠ 0 → j = 0)).1 h6
                            omega
                          · omega)
                        go_wp2_with fail
                        go_roundw
                        case rel => exact ⟨_, _, (lk, ek), HNew⟩
                        case measure => exact HMs.out
                  · have HPr : Hid (¬ pr = some ⟨(x3 : Int), (x4 : Int), (x5 : Int)⟩) := Lib.hid (by rw [HPv2.out]; intro h; injection h with h; injection h with h1 h2 h3; exact e3' h3)
                    have hlk : likeF (l5, e5) pr ⟨(x3 : Int), (x4 : Int), (x5 : Int)⟩ = (l5, e5) := by unfold likeF; rw [if_neg HPr.out]
                    have HOkk : Hid (InOk (l5, e5)) := Lib.hid (by rw [← hlk]; exact likeF_ok HOk5.out _ _)
                    have HXk : Hid (e5 = 0 → 1 ≤ x2 ∧ x2 ≤ m) := Lib.hid (fun h => by
                      have h1 := (likeF_zero (st := (l5, e5)) (pr := pr) (c := ⟨(x3 : Int), (x4 : Int), (x5 : Int)⟩) (by rw [hlk]; exact h)).2.2
                      have h2 := runS_zero (st := (lj, 0)) (m := m) (by rw [HRs.out]; exact h1)
                      rw [HRs.out] at h2
                      exact ⟨h2.2.2.1, h2.2.2.2.1⟩)
                    have HRunk : Hid ((rowS gq (m - x2) (l5, e5) (some ⟨(x3 : Int), (x4 : Int), (x5 : Int)⟩)).1 = tot.1 ∧ (tot.1.2 = 0 → L ++ expR ((x2, (⟨(x3 : Int), (x4 : Int), (x5 : Int)⟩ : Cel)) :: (rowS gq (m - x2) (l5, e5) (some ⟨(x3 : Int), (x4 : Int), (x5 : Int)⟩)).2) = expR tot.2)) := Lib.hid (by
                      have h := HRun.out
                      rw [HRs.out] at h
                      simp only at h
                      rw [hlk] at h
                      exact h)
                    clear hlk
                    have HTk := HT5
                    refine wp_region_quiet_below (by kernel_rfl) (by kernel_rfl) ?_
                    repeat (go_big_quiet_step (fail))
                    refine wpQuiet_nil ?_
                    intro _ hw'
                    obtain ⟨⟨dq, osq⟩, hw''⟩ := hw'
                    have hb9 := below_regrown wC5 dq osq
                    obtain ⟨w9, hw9⟩ : ∃ w9, Go.Sort.grow (redrawn wC5 dq) osq = w9 := ⟨_, rfl⟩
                    rw [hw'']
                    simp only
                    rw [hw9] at hb9 ⊢
                    have HS9 := Lib.hid (HS5.out.below hb9)
                    clear hw'' hw9 hb9 zi m1 m2 m3 y1 y2 y3
                    clear q5 he5 hlm hsub dL dL2 hlW hmb e3' hjI hcI hcT
                    go_upto_region 15 with fail
                    obtain ⟨LN, hln2⟩ : ∃ n, j0 + 1 = n := ⟨_, rfl⟩
                    have hc2 : (j0 : Int) + 1 = (LN : Int) := by omega
                    rw [hln2] at HS9 HLn hlnb
                    try rw [hc2]
                    try rw [hln2]
                    have HLN := Lib.hid hln2
                    clear hc2 hln2
                    go_wp2_with fail
                    go_loopw [7, 10] (fun u i wr => ∃ j : Nat, i = .int .i64 (j : Int) ∧ j ≤ x2 ∧ Hid (RfS rb cb t5 e5 (x3 : Int) (x4 : Int) (x5 : Int) u (L ++ List.replicate j ⟨(x3 : Int), (x4 : Int), (x5 : Int)⟩) w wr ∧ (e5 ≠ 0 → j = 0))) (fun _ i _ => x2 - (intOf i).toNat)
                    case atStart => exact ⟨0, rfl, Nat.zero_le _, Lib.hid ⟨by rw [List.replicate_zero, List.append_nil]; exact HS9.out, fun _ => rfl⟩⟩
                    case round =>
                      obtain ⟨j, rfl, hj, HJ⟩ := hrel
                      obtain ⟨hJ, hJ0⟩ := HJ.out
                      obtain ⟨va, vc, rfl, -, -, -, hf2, ht2⟩ := hJ.o.shape
                      obtain ⟨lj2, hlj2⟩ : ∃ n, (L ++ List.replicate j (⟨(x3 : Int), (x4 : Int), (x5 : Int)⟩ : Cel)).length = n := ⟨_, rfl⟩
                      rw [hlj2] at hf2 hJ ⊢
                      have HLj2 : Hid (lj2 = LN + j) := Lib.hid (by rw [← hlj2, List.length_append, List.length_replicate, HLn.out])
                      have HLj := Lib.hid hlj2
                      have HJr := Lib.hid hJ
                      have HJ0 := Lib.hid hJ0
                      have i0 := hJ.r.i0
                      have i1 := hJ.r.i1
                      clear hlj2 hf2 ht2 hJ hJ0 HJ
                      by_cases hlt : j < x2
                      · have d1 : decide ((j : Int) < (x2 : Int)) = true := decide_eq_true (by omega)
                        have d2 : decide (j < x2) = true := decide_eq_true hlt
                        have hxI : (x2 : Int) ≤ 2000 := by have := HXb.out; omega
                        by_cases hek : e5 = 0
                        · have q0 : ((e5 : Int) == 0) = true := by rw [hek]; rfl
                          have k0 := HJr.out.k0
                          have k1 := HJr.out.k1
                          have k2 := HJr.out.k2
                          obtain ⟨wD, hwD⟩ : ∃ wD, wr.alloc (.cells #[.int .i64 (x3 : Int), .int .i64 (x4 : Int), .int .i64 (x5 : Int)] 95) = wD := ⟨_, rfl⟩
                          have hbD : Below wr.heap.size wr wD := by rw [← hwD]; exact (Below.refl _ _).alloc (Nat.le_refl _) _
                          have hiD : CelsIn .i64 (some ⟨wr.heap.size, 0, none⟩) 1 [(⟨(x3 : Int), (x4 : Int), (x5 : Int)⟩ : Cel)] wD := by rw [← hwD]; exact cels_one wr ⟨(x3 : Int), (x4 : Int), (x5 : Int)⟩ _
                          have HBD := Lib.hid hbD
                          have HID := Lib.hid hiD
                          have HOD := Lib.hid (HJr.out.o.belowAll hbD)
                          have HSD : Hid (rb + 3 ≤ wD.heap.size) := Lib.hid (Nat.le_trans HJr.out.r.size hbD.size)
                          have HWD := Lib.hid hwD
                          have HLb : Hid (((L ++ List.replicate j (⟨(x3 : Int), (x4 : Int), (x5 : Int)⟩ : Cel)).length : Int) ≤ 1000000) := Lib.hid (by rw [HLj.out]; have := HLj2.out; have := HXb.out; omega)
                          have HEk := Lib.hid hek
                          clear hbD hiD hwD hek
                          go_wp2_with (at_builtin; (try rw [HWD.out]); refine wpList_append_cells refT rfl _ _ rfl rfl (rb + 3) _ (L ++ List.replicate j ⟨(x3 : Int), (x4 : Int), (x5 : Int)⟩) (some ⟨wr.heap.size, 0, none⟩) 1 1 [⟨(x3 : Int), (x4 : Int), (x5 : Int)⟩] (by first | rfl | (rw [HLj.out]; rfl)) rfl HOD.out HID.out (fun e => by cases e) HLb.out (by simp) HSD.out ?_)
                          intro v6 w6 hown hgr
                          have HN6 : Hid (RfS rb cb t5 e5 (x3 : Int) (x4 : Int) (x5 : Int) v6 (L ++ List.replicate (j + 1) ⟨(x3 : Int), (x4 : Int), (x5 : Int)⟩) w w6) := Lib.hid (by
                            have h := HJr.out.push HBD.out hown hgr
                            rw [List.replicate_succ']
                            first | exact h | (rw [← List.append_assoc]; exact h))
                          clear hown hgr k0 k1 k2 HOD HID
                          go_wp2_with fail
                          go_roundw
                          case rel => exact ⟨j + 1, by first | rfl | go_num, by omega, Lib.hid ⟨HN6.out, fun h => absurd HEk.out h⟩⟩
                          case measure => simp [intOf]; omega
                        · have q0 : ((e5 : Int) == 0) = false := by rw [beq_eq_false_iff_ne]; omega
                          have hjq : (e5 = 0 → j = x2) ∧ (e5 ≠ 0 → j = 0) := ⟨fun h => absurd h hek, HJ0.out⟩
                          have HJq := Lib.hid hjq
                          clear hek hjq
                          have HNew : Hid (RfI rb m0 tot (.slice va lj2 vc) (L ++ List.replicate j ⟨(x3 : Int), (x4 : Int), (x5 : Int)⟩) t5 (l5, e5) w wr) := Lib.hid (RfI.next HJr.out HTk.out HOkk.out HJq.out HXk.out HLm.out HRunk.out HFk.out)
                          have HMs : Hid ((m0 + 1 - lj2) + errOf rb wr < (m0 + 1 - LN) + errOf rb w0) := Lib.hid (by
                            have h1 := HJr.out.r.err
                            have h2 := HErr.out
                            rw [h1, h2]
                            have h3 := HXk.out
                            have h4 := HLm.out
                            rw [HLn.out] at h4
                            have h5 := HLj2.out
                            split
                            · rename_i h6
                              have := h3 h6
                              have := (HJq.out : (e5 = 0 → j = x2) ∧ (e5 ≠ 0 → j = 0)).1 h6
                              omega
                            · omega)
                          go_wp2_with fail
                          go_roundw
                          case rel => exact ⟨_, _, (l5, e5), HNew⟩
                          case measure => (have h := HMs.out; rw [← HLN.out] at h; exact h)
                      · have d1 : decide ((j : Int) < (x2 : Int)) = false := decide_eq_false (by omega)
                        have d2 : decide (j < x2) = false := decide_eq_false hlt
                        have hjq : (e5 = 0 → j = x2) ∧ (e5 ≠ 0 → j = 0) := ⟨fun _ => by omega, HJ0.out⟩
                        have HJq := Lib.hid hjq
                        clear hjq
                        have HNew : Hid (RfI rb m0 tot (.slice va lj2 vc) (L ++ List.replicate j ⟨(x3 : Int), (x4 : Int), (x5 : Int)⟩) t5 (l5, e5) w wr) := Lib.hid (RfI.next HJr.out HTk.out HOkk.out HJq.out HXk.out HLm.out HRunk.out HFk.out)
                        have HMs : Hid ((m0 + 1 - lj2) + errOf rb wr < (m0 + 1 - LN) + errOf rb w0) := Lib.hid (by
                          have h1 := HJr.out.r.err
                          have h2 := HErr.out
                          rw [h1, h2]
                          have h3 := HXk.out
                          have h4 := HLm.out
                          rw [HLn.out] at h4
                          have h5 := HLj2.out
                          split
                          · rename_i h6
                            have := h3 h6
                            have := (HJq.out : (e5 = 0 → j = x2) ∧ (e5 ≠ 0 → j = 0)).1 h6
                            omega
                          · omega)
                        go_wp2_with fail
                        go_roundw
                        case rel => exact ⟨_, _, (l5, e5), HNew⟩
                        case measure => (have h := HMs.out; rw [← HLN.out] at h; exact h)
                · have HPr : Hid (¬ pr = some ⟨(x3 : Int), (x4 : Int), (x5 : Int)⟩) := Lib.hid (by rw [HPv2.out]; intro h; injection h with h; injection h with h1 h2 h3; exact e2' h2)
                  have hlk : likeF (l5, e5) pr ⟨(x3 : Int), (x4 : Int), (x5 : Int)⟩ = (l5, e5) := by unfold likeF; rw [if_neg HPr.out]
                  have HOkk : Hid (InOk (l5, e5)) := Lib.hid (by rw [← hlk]; exact likeF_ok HOk5.out _ _)
                  have HXk : Hid (e5 = 0 → 1 ≤ x2 ∧ x2 ≤ m) := Lib.hid (fun h => by
                    have h1 := (likeF_zero (st := (l5, e5)) (pr := pr) (c := ⟨(x3 : Int), (x4 : Int), (x5 : Int)⟩) (by rw [hlk]; exact h)).2.2
                    have h2 := runS_zero (st := (lj, 0)) (m := m) (by rw [HRs.out]; exact h1)
                    rw [HRs.out] at h2
                    exact ⟨h2.2.2.1, h2.2.2.2.1⟩)
                  have HRunk : Hid ((rowS gq (m - x2) (l5, e5) (some ⟨(x3 : Int), (x4 : Int), (x5 : Int)⟩)).1 = tot.1 ∧ (tot.1.2 = 0 → L ++ expR ((x2, (⟨(x3 : Int), (x4 : Int), (x5 : Int)⟩ : Cel)) :: (rowS gq (m - x2) (l5, e5) (some ⟨(x3 : Int), (x4 : Int), (x5 : Int)⟩)).2) = expR tot.2)) := Lib.hid (by
                    have h := HRun.out
                    rw [HRs.out] at h
                    simp only at h
                    rw [hlk] at h
                    exact h)
                  clear hlk
                  have HTk := HT5
                  refine wp_region_quiet_below (by kernel_rfl) (by kernel_rfl) ?_
                  repeat (go_big_quiet_step (fail))
                  refine wpQuiet_nil ?_
                  intro _ hw'
                  obtain ⟨⟨dq, osq⟩, hw''⟩ := hw'
                  have hb9 := below_regrown wC5 dq osq
                  obtain ⟨w9, hw9⟩ : ∃ w9, Go.Sort.grow (redrawn wC5 dq) osq = w9 := ⟨_, rfl⟩
                  rw [hw'']
                  simp only
                  rw [hw9] at hb9 ⊢
                  have HS9 := Lib.hid (HS5.out.below hb9)
                  clear hw'' hw9 hb9 zi m1 m2 m3 y1 y2 y3
                  clear q5 he5 hlm hsub dL dL2 hlW hmb e2' hjI hcI hcT
                  go_upto_region 15 with fail
                  obtain ⟨LN, hln2⟩ : ∃ n, j0 + 1 = n := ⟨_, rfl⟩
                  have hc2 : (j0 : Int) + 1 = (LN : Int) := by omega
                  rw [hln2] at HS9 HLn hlnb
                  try rw [hc2]
                  try rw [hln2]
                  have HLN := Lib.hid hln2
                  clear hc2 hln2
                  go_wp2_with fail
                  go_loopw [7, 10] (fun u i wr => ∃ j : Nat, i = .int .i64 (j : Int) ∧ j ≤ x2 ∧ Hid (RfS rb cb t5 e5 (x3 : Int) (x4 : Int) (x5 : Int) u (L ++ List.replicate j ⟨(x3 : Int), (x4 : Int), (x5 : Int)⟩) w wr ∧ (e5 ≠ 0 → j = 0))) (fun _ i _ => x2 - (intOf i).toNat)
                  case atStart => exact ⟨0, rfl, Nat.zero_le _, Lib.hid ⟨by rw [List.replicate_zero, List.append_nil]; exact HS9.out, fun _ => rfl⟩⟩
                  case round =>
                    obtain ⟨j, rfl, hj, HJ⟩ := hrel
                    obtain ⟨hJ, hJ0⟩ := HJ.out
                    obtain ⟨va, vc, rfl, -, -, -, hf2, ht2⟩ := hJ.o.shape
                    obtain ⟨lj2, hlj2⟩ : ∃ n, (L ++ List.replicate j (⟨(x3 : Int), (x4 : Int), (x5 : Int)⟩ : Cel)).length = n := ⟨_, rfl⟩
                    rw [hlj2] at hf2 hJ ⊢
                    have HLj2 : Hid (lj2 = LN + j) := Lib.hid (by rw [← hlj2, List.length_append, List.length_replicate, HLn.out])
                    have HLj := Lib.hid hlj2
                    have HJr := Lib.hid hJ
                    have HJ0 := Lib.hid hJ0
                    have i0 := hJ.r.i0
                    have i1 := hJ.r.i1
                    clear hlj2 hf2 ht2 hJ hJ0 HJ
                    by_cases hlt : j < x2
                    · have d1 : decide ((j : Int) < (x2 : Int)) = true := decide_eq_true (by omega)
                      have d2 : decide (j < x2) = true := decide_eq_true hlt
                      have hxI : (x2 : Int) ≤ 2000 := by have := HXb.out; omega
                      by_cases hek : e5 = 0
                      · have q0 : ((e5 : Int) == 0) = true := by rw [hek]; rfl
                        have k0 := HJr.out.k0
                        have k1 := HJr.out.k1
                        have k2 := HJr.out.k2
                        obtain ⟨wD, hwD⟩ : ∃ wD, wr.alloc (.cells #[.int .i64 (x3 : Int), .int .i64 (x4 : Int), .int .i64 (x5 : Int)] 95) = wD := ⟨_, rfl⟩
                        have hbD : Below wr.heap.size wr wD := by rw [← hwD]; exact (Below.refl _ _).alloc (Nat.le_refl _) _
                        have hiD : CelsIn .i64 (some ⟨wr.heap.size, 0, none⟩) 1 [(⟨(x3 : Int), (x4 : Int), (x5 : Int)⟩ : Cel)] wD := by rw [← hwD]; exact cels_one wr ⟨(x3 : Int), (x4 : Int), (x5 : Int)⟩ _
                        have HBD := Lib.hid hbD
                        have HID := Lib.hid hiD
                        have HOD := Lib.hid (HJr.out.o.belowAll hbD)
                        have HSD : Hid (rb + 3 ≤ wD.heap.size) := Lib.hid (Nat.le_trans HJr.out.r.size hbD.size)
                        have HWD := Lib.hid hwD
                        have HLb : Hid (((L ++ List.replicate j (⟨(x3 : Int), (x4 : Int), (x5 : Int)⟩ : Cel)).length : Int) ≤ 1000000) := Lib.hid (by rw [HLj.out]; have := HLj2.out; have := HXb.out; omega)
                        have HEk := Lib.hid hek
                        clear hbD hiD hwD hek
                        go_wp2_with (at_builtin; (try rw [HWD.out]); refine wpList_append_cells refT rfl _ _ rfl rfl (rb + 3) _ (L ++ List.replicate j ⟨(x3 : Int), (x4 : Int), (x5 : Int)⟩) (some ⟨wr.heap.size, 0, none⟩) 1 1 [⟨(x3 : Int), (x4 : Int), (x5 : Int)⟩] (by first | rfl | (rw [HLj.out]; rfl)) rfl HOD.out HID.out (fun e => by cases e) HLb.out (by simp) HSD.out ?_)
                        intro v6 w6 hown hgr
                        have HN6 : Hid (RfS rb cb t5 e5 (x3 : Int) (x4 : Int) (x5 : Int) v6 (L ++ List.replicate (j + 1) ⟨(x3 : Int), (x4 : Int), (x5 : Int)⟩) w w6) := Lib.hid (by
                          have h := HJr.out.push HBD.out hown hgr
                          rw [List.replicate_succ']
                          first | exact h | (rw [← List.append_assoc]; exact h))
                        clear hown hgr k0 k1 k2 HOD HID
                        go_wp2_with fail
                        go_roundw
                        case rel => exact ⟨j + 1, by first | rfl | go_num, by omega, Lib.hid ⟨HN6.out, fun h => absurd HEk.out h⟩⟩
                        case measure => simp [intOf]; omega
                      · have q0 : ((e5 : Int) == 0) = false := by rw [beq_eq_false_iff_ne]; omega
                        have hjq : (e5 = 0 → j = x2) ∧ (e5 ≠ 0 → j = 0) := ⟨fun h => absurd h hek, HJ0.out⟩
                        have HJq := Lib.hid hjq
                        clear hek hjq
                        have HNew : Hid (RfI rb m0 tot (.slice va lj2 vc) (L ++ List.replicate j ⟨(x3 : Int), (x4 : Int), (x5 : Int)⟩) t5 (l5, e5) w wr) := Lib.hid (RfI.next HJr.out HTk.out HOkk.out HJq.out HXk.out HLm.out HRunk.out HFk.out)
                        have HMs : Hid ((m0 + 1 - lj2) + errOf rb wr < (m0 + 1 - LN) + errOf rb w0) := Lib.hid (by
                          have h1 := HJr.out.r.err
                          have h2 := HErr.out
                          rw [h1, h2]
                          have h3 := HXk.out
                          have h4 := HLm.out
                          rw [HLn.out] at h4
                          have h5 := HLj2.out
                          split
                          · rename_i h6
                            have := h3 h6
                            have := (HJq.out : (e5 = 0 → j = x2) ∧ (e5 ≠ 0 → j = 0)).1 h6
                            omega
                          · omega)
                        go_wp2_with fail
                        go_roundw
                        case rel => exact ⟨_, _, (l5, e5), HNew⟩
                        case measure => (have h := HMs.out; rw [← HLN.out] at h; exact h)
                    · have d1 : decide ((j : Int) < (x2 : Int)) = false := decide_eq_false (by omega)
                      have d2 : decide (j < x2) = false := decide_eq_false hlt
                      have hjq : (e5 = 0 → j = x2) ∧ (e5 ≠ 0 → j = 0) := ⟨fun _ => by omega, HJ0.out⟩
                      have HJq := Lib.hid hjq
                      clear hjq
                      have HNew : Hid (RfI rb m0 tot (.slice va lj2 vc) (L ++ List.replicate j ⟨(x3 : Int), (x4 : Int), (x5 : Int)⟩) t5 (l5, e5) w wr) := Lib.hid (RfI.next HJr.out HTk.out HOkk.out HJq.out HXk.out HLm.out HRunk.out HFk.out)
                      have HMs : Hid ((m0 + 1 - lj2) + errOf rb wr < (m0 + 1 - LN) + errOf rb w0) := Lib.hid (by
                        have h1 := HJr.out.r.err
                        have h2 := HErr.out
                        rw [h1, h2]
                        have h3 := HXk.out
                        have h4 := HLm.out
                        rw [HLn.out] at h4
                        have h5 := HLj2.out
                        split
                        · rename_i h6
                          have := h3 h6
                          have := (HJq.out : (e5 = 0 → j = x2) ∧ (e5 ≠ 0 → j = 0)).1 h6
                          omega
                        · omega)
                      go_wp2_with fail
                      go_roundw
                      case rel => exact ⟨_, _, (l5, e5), HNew⟩
                      case measure => (have h := HMs.out; rw [← HLN.out] at h; exact h)
              · have HPr : Hid (¬ pr = some ⟨(x3 : Int), (x4 : Int), (x5 : Int)⟩) := Lib.hid (by rw [HPv2.out]; intro h; injection h with h; injection h with h1 h2 h3; exact e1' h1)
                have hlk : likeF (l5, e5) pr ⟨(x3 : Int), (x4 : Int), (x5 : Int)⟩ = (l5, e5) := by unfold likeF; rw [if_neg HPr.out]
                have HOkk : Hid (InOk (l5, e5)) := Lib.hid (by rw [← hlk]; exact likeF_ok HOk5.out _ _)
                have HXk : Hid (e5 = 0 → 1 ≤ x2 ∧ x2 ≤ m) := Lib.hid (fun h => by
                  have h1 := (likeF_zero (st := (l5, e5)) (pr := pr) (c := ⟨(x3 : Int), (x4 : Int), (x5 : Int)⟩) (by rw [hlk]; exact h)).2.2
                  have h2 := runS_zero (st := (lj, 0)) (m := m) (by rw [HRs.out]; exact h1)
                  rw [HRs.out] at h2
                  exact ⟨h2.2.2.1, h2.2.2.2.1⟩)
                have HRunk : Hid ((rowS gq (m - x2) (l5, e5) (some ⟨(x3 : Int), (x4 : Int), (x5 : Int)⟩)).1 = tot.1 ∧ (tot.1.2 = 0 → L ++ expR ((x2, (⟨(x3 : Int), (x4 : Int), (x5 : Int)⟩ : Cel)) :: (rowS gq (m - x2) (l5, e5) (some ⟨(x3 : Int), (x4 : Int), (x5 : Int)⟩)).2) = expR tot.2)) := Lib.hid (by
                  have h := HRun.out
                  rw [HRs.out] at h
                  simp only at h
                  rw [hlk] at h
                  exact h)
                clear hlk
                have HTk := HT5
                refine wp_region_quiet_below (by kernel_rfl) (by kernel_rfl) ?_
                repeat (go_big_quiet_step (fail))
                refine wpQuiet_nil ?_
                intro _ hw'
                obtain ⟨⟨dq, osq⟩, hw''⟩ := hw'
                have hb9 := below_regrown wC5 dq osq
                obtain ⟨w9, hw9⟩ : ∃ w9, Go.Sort.grow (redrawn wC5 dq) osq = w9 := ⟨_, rfl⟩
                rw [hw'']
                simp only
                rw [hw9] at hb9 ⊢
                have HS9 := Lib.hid (HS5.out.below hb9)
                clear hw'' hw9 hb9 zi m1 m2 m3 y1 y2 y3
                clear q5 he5 hlm hsub dL dL2 hlW hmb e1' hjI hcI hcT
                go_upto_region 15 with fail
                obtain ⟨LN, hln2⟩ : ∃ n, j0 + 1 = n := ⟨_, rfl⟩
                have hc2 : (j0 : Int) + 1 = (LN : Int) := by omega
                rw [hln2] at HS9 HLn hlnb
                try rw [hc2]
                try rw [hln2]
                have HLN := Lib.hid hln2
                clear hc2 hln2
                go_wp2_with fail
                go_loopw [7, 10] (fun u i wr => ∃ j : Nat, i = .int .i64 (j : Int) ∧ j ≤ x2 ∧ Hid (RfS rb cb t5 e5 (x3 : Int) (x4 : Int) (x5 : Int) u (L ++ List.replicate j ⟨(x3 : Int), (x4 : Int), (x5 : Int)⟩) w wr ∧ (e5 ≠ 0 → j = 0))) (fun _ i _ => x2 - (intOf i).toNat)
                case atStart => exact ⟨0, rfl, Nat.zero_le _, Lib.hid ⟨by rw [List.replicate_zero, List.append_nil]; exact HS9.out, fun _ => rfl⟩⟩
                case round =>
                  obtain ⟨j, rfl, hj, HJ⟩ := hrel
                  obtain ⟨hJ, hJ0⟩ := HJ.out
                  obtain ⟨va, vc, rfl, -, -, -, hf2, ht2⟩ := hJ.o.shape
                  obtain ⟨lj2, hlj2⟩ : ∃ n, (L ++ List.replicate j (⟨(x3 : Int), (x4 : Int), (x5 : Int)⟩ : Cel)).length = n := ⟨_, rfl⟩
                  rw [hlj2] at hf2 hJ ⊢
                  have HLj2 : Hid (lj2 = LN + j) := Lib.hid (by rw [← hlj2, List.length_append, List.length_replicate, HLn.out])
                  have HLj := Lib.hid hlj2
                  have HJr := Lib.hid hJ
                  have HJ0 := Lib.hid hJ0
                  have i0 := hJ.r.i0
                  have i1 := hJ.r.i1
                  clear hlj2 hf2 ht2 hJ hJ0 HJ
                  by_cases hlt : j < x2
                  · have d1 : decide ((j : Int) < (x2 : Int)) = true := decide_eq_true (by omega)
                    have d2 : decide (j < x2) = true := decide_eq_true hlt
                    have hxI : (x2 : Int) ≤ 2000 := by have := HXb.out; omega
                    by_cases hek : e5 = 0
                    · have q0 : ((e5 : Int) == 0) = true := by rw [hek]; rfl
                      have k0 := HJr.out.k0
                      have k1 := HJr.out.k1
                      have k2 := HJr.out.k2
                      obtain ⟨wD, hwD⟩ : ∃ wD, wr.alloc (.cells #[.int .i64 (x3 : Int), .int .i64 (x4 : Int), .int .i64 (x5 : Int)] 95) = wD := ⟨_, rfl⟩
                      have hbD : Below wr.heap.size wr wD := by rw [← hwD]; exact (Below.refl _ _).alloc (Nat.le_refl _) _
                      have hiD : CelsIn .i64 (some ⟨wr.heap.size, 0, none⟩) 1 [(⟨(x3 : Int), (x4 : Int), (x5 : Int)⟩ : Cel)] wD := by rw [← hwD]; exact cels_one wr ⟨(x3 : Int), (x4 : Int), (x5 : Int)⟩ _
                      have HBD := Lib.hid hbD
                      have HID := Lib.hid hiD
                      have HOD := Lib.hid (HJr.out.o.belowAll hbD)
                      have HSD : Hid (rb + 3 ≤ wD.heap.size) := Lib.hid (Nat.le_trans HJr.out.r.size hbD.size)
                      have HWD := Lib.hid hwD
                      have HLb : Hid (((L ++ List.replicate j (⟨(x3 : Int), (x4 : Int), (x5 : Int)⟩ : Cel)).length : Int) ≤ 1000000) := Lib.hid (by rw [HLj.out]; have := HLj2.out; have := HXb.out; omega)
                      have HEk := Lib.hid hek
                      clear hbD hiD hwD hek
                      go_wp2_with (at_builtin; (try rw [HWD.out]); refine wpList_append_cells refT rfl _ _ rfl rfl (rb + 3) _ (L ++ List.replicate j ⟨(x3 : Int), (x4 : Int), (x5 : Int)⟩) (some ⟨wr.heap.size, 0, none⟩) 1 1 [⟨(x3 : Int), (x4 : Int), (x5 : Int)⟩] (by first | rfl | (rw [HLj.out]; rfl)) rfl HOD.out HID.out (fun e => by cases e) HLb.out (by simp) HSD.out ?_)
                      intro v6 w6 hown hgr
                      have HN6 : Hid (RfS rb cb t5 e5 (x3 : Int) (x4 : Int) (x5 : Int) v6 (L ++ List.replicate (j + 1) ⟨(x3 : Int), (x4 : Int), (x5 : Int)⟩) w w6) := Lib.hid (by
                        have h := HJr.out.push HBD.out hown hgr
                        rw [List.replicate_succ']
                        first | exact h | (rw [← List.append_assoc]; exact h))
                      clear hown hgr k0 k1 k2 HOD HID
                      go_wp2_with fail
                      go_roundw
                      case rel => exact ⟨j + 1, by first | rfl | go_num, by omega, Lib.hid ⟨HN6.out, fun h => absurd HEk.out h⟩⟩
                      case measure => simp [intOf]; omega
                    · have q0 : ((e5 : Int) == 0) = false := by rw [beq_eq_false_iff_ne]; omega
                      have hjq : (e5 = 0 → j = x2) ∧ (e5 ≠ 0 → j = 0) := ⟨fun h => absurd h hek, HJ0.out⟩
                      have HJq := Lib.hid hjq
                      clear hek hjq
                      have HNew : Hid (RfI rb m0 tot (.slice va lj2 vc) (L ++ List.replicate j ⟨(x3 : Int), (x4 : Int), (x5 : Int)⟩) t5 (l5, e5) w wr) := Lib.hid (RfI.next HJr.out HTk.out HOkk.out HJq.out HXk.out HLm.out HRunk.out HFk.out)
                      have HMs : Hid ((m0 + 1 - lj2) + errOf rb wr < (m0 + 1 - LN) + errOf rb w0) := Lib.hid (by
                        have h1 := HJr.out.r.err
                        have h2 := HErr.out
                        rw [h1, h2]
                        have h3 := HXk.out
                        have h4 := HLm.out
                        rw [HLn.out] at h4
                        have h5 := HLj2.out
                        split
                        · rename_i h6
                          have := h3 h6
                          have := (HJq.out : (e5 = 0 → j = x2) ∧ (e5 ≠ 0 → j = 0)).1 h6
                          omega
                        · omega)
                      go_wp2_with fail
                      go_roundw
                      case rel => exact ⟨_, _, (l5, e5), HNew⟩
                      case measure => (have h := HMs.out; rw [← HLN.out] at h; exact h)
                  · have d1 : decide ((j : Int) < (x2 : Int)) = false := decide_eq_false (by omega)
                    have d2 : decide (j < x2) = false := decide_eq_false hlt
                    have hjq : (e5 = 0 → j = x2) ∧ (e5 ≠ 0 → j = 0) := ⟨fun _ => by omega, HJ0.out⟩
                    have HJq := Lib.hid hjq
                    clear hjq
                    have HNew : Hid (RfI rb m0 tot (.slice va lj2 vc) (L ++ List.replicate j ⟨(x3 : Int), (x4 : Int), (x5 : Int)⟩) t5 (l5, e5) w wr) := Lib.hid (RfI.next HJr.out HTk.out HOkk.out HJq.out HXk.out HLm.out HRunk.out HFk.out)
                    have HMs : Hid ((m0 + 1 - lj2) + errOf rb wr < (m0 + 1 - LN) + errOf rb w0) := Lib.hid (by
                      have h1 := HJr.out.r.err
                      have h2 := HErr.out
                      rw [h1, h2]
                      have h3 := HXk.out
                      have h4 := HLm.out
                      rw [HLn.out] at h4
                      have h5 := HLj2.out
                      split
                      · rename_i h6
                        have := h3 h6
                        have := (HJq.out : (e5 = 0 → j = x2) ∧ (e5 ≠ 0 → j = 0)).1 h6
                        omega
                      · omega)
                    go_wp2_with fail
                    go_roundw
                    case rel => exact ⟨_, _, (l5, e5), HNew⟩
                    case measure => (have h := HMs.out; rw [← HLN.out] at h; exact h)
        · have q2 : ((e2 : Int) == 0) = false := by rw [beq_eq_false_iff_ne]; omega
          obtain ⟨tz, lz, ez, hSz, htz, hzf, hokz, hez⟩ : ∃ (tz : ByteArray) (lz : List UInt8) (ez : Nat), RfS rb cb tz ez 0 0 0 (.slice ua ln uc) L w wB2 ∧ (tz.data.toList = ((lz, ez) : Sta).1 ∧ (tz.size : Int) ≤ 1000000) ∧ zeroF (l2, e2) x2 = (lz, ez) ∧ InOk (lz, ez) ∧ ez ≠ 0 := ⟨t2, l2, e2, HS2.out, HT2.out, by unfold zeroF; split; unfold failS; rw [if_pos (.inl hz)]; rfl, HOk2.out, hz⟩
          have HSz := Lib.hid hSz
          have HTz := Lib.hid htz
          have HZf := Lib.hid hzf
          have HOkz := Lib.hid hokz
          have HEz := Lib.hid hez
          clear hSz htz hzf hokz hez hz
          go_upto_region 10 with fail
          clear i0 i1 q2
          obtain ⟨⟨⟨l3, e3⟩, x3⟩, hq3⟩ : ∃ q, atS (lz, ez) 1114111 = q := ⟨_, rfl⟩
          have HQ3 : Hid (atS (lz, ez) 1114111 = ((l3, e3), x3)) := Lib.hid hq3
          have hok3 : InOk (l3, e3) := by have h := atS_ok HOkz.out 1114111; rw [hq3] at h; exact h
          have HOk3 := Lib.hid hok3
          have hL3 := nlim_any tz HTz.out.2 (lz, ez) HTz.out.1 HOkz.out 1114111 (by first | decide | omega) wB2
          rw [hq3] at hL3
          have HL3 : Hid (Calls Try.prog 26 #[.agg #[.string tz, .int .i64 (ez : Int)], .int .i64 1114111] wB2 (LimPost ((l3, e3), x3) wB2)) := Lib.hid (by exact hL3)
          clear hq3 hok3 hL3
          have q0 := HSz.out.r.i0
          have q1 := HSz.out.r.i1
          go_wp2_with fail
          refine HL3.out.mono ?_
          rintro e wA3 ⟨t3, rfl, htA, hzA, hbA⟩
          have hA := HSz.out.below hbA
          have hB := hA.set t3 e3
          have hC := hB.cell 0 (x3 : Int) (a' := (x3 : Int)) (b' := 0) (c' := 0) rfl
          have a0 := hA.r.i0
          have a1 := hA.r.i1
          have b0 := frozen_block hA.r.i 0
          have b1 := frozen_block hA.r.i 1
          have j0 := hA.k0
          have j1 := frozen_block hA.k 0
          have hne1 : cb ≠ rb := by have := hA.p; omega
          have hne2 : rb ≠ cb := by have := hA.p; omega
          obtain ⟨wC3, hwC⟩ : ∃ wC, ((wA3.setCell ⟨rb, 0, none⟩ (.string t3)).setCell ⟨rb, 1, none⟩ (.int .i64 (e3 : Int))).setCell ⟨cb, 0, none⟩ (.int .i64 (x3 : Int)) = wC := ⟨_, rfl⟩
          rw [hwC] at hC
          have HS3 := Lib.hid hC
          have HT3 : Hid (t3.data.toList = ((l3, e3) : Sta).1 ∧ (t3.size : Int) ≤ 1000000) := Lib.hid ⟨htA, hzA⟩
          have HWC3 := Lib.hid hwC
          clear htA hzA hbA hA hB hC hwC q0 q1 HL3
          go_upto_region 11 with (fail)
          rw [HWC3.out]
          clear a0 a1 b0 b1 j0 j1 hne1 hne2
          obtain ⟨⟨⟨l4, e4⟩, x4⟩, hq4⟩ : ∃ q, atS (l3, e3) 647 = q := ⟨_, rfl⟩
          have HQ4 : Hid (atS (l3, e3) 647 = ((l4, e4), x4)) := Lib.hid hq4
          have hok4 : InOk (l4, e4) := by have h := atS_ok HOk3.out 647; rw [hq4] at h; exact h
          have HOk4 := Lib.hid hok4
          have hL4 := nlim_any t3 HT3.out.2 (l3, e3) HT3.out.1 HOk3.out 647 (by first | decide | omega) wC3
          rw [hq4] at hL4
          have HL4 : Hid (Calls Try.prog 26 #[.agg #[.string t3, .int .i64 (e3 : Int)], .int .i64 647] wC3 (LimPost ((l4, e4), x4) wC3)) := Lib.hid (by exact hL4)
          clear hq4 hok4 hL4
          have q0 := HS3.out.r.i0
          have q1 := HS3.out.r.i1
          go_wp2_with fail
          refine HL4.out.mono ?_
          rintro e wA4 ⟨t4, rfl, htA, hzA, hbA⟩
          have hA := HS3.out.below hbA
          have hB := hA.set t4 e4
          have hC := hB.cell 1 (x4 : Int) (a' := (x3 : Int)) (b' := (x4 : Int)) (c' := 0) rfl
          have a0 := hA.r.i0
          have a1 := hA.r.i1
          have b0 := frozen_block hA.r.i 0
          have b1 := frozen_block hA.r.i 1
          have j0 := hA.k1
          have j1 := frozen_block hA.k 1
          have hne1 : cb ≠ rb := by have := hA.p; omega
          have hne2 : rb ≠ cb := by have := hA.p; omega
          obtain ⟨wC4, hwC⟩ : ∃ wC, ((wA4.setCell ⟨rb, 0, none⟩ (.string t4)).setCell ⟨rb, 1, none⟩ (.int .i64 (e4 : Int))).setCell ⟨cb, 1, none⟩ (.int .i64 (x4 : Int)) = wC := ⟨_, rfl⟩
          rw [hwC] at hC
          have HS4 := Lib.hid hC
          have HT4 : Hid (t4.data.toList = ((l4, e4) : Sta).1 ∧ (t4.size : Int) ≤ 1000000) := Lib.hid ⟨htA, hzA⟩
          have HWC4 := Lib.hid hwC
          clear htA hzA hbA hA hB hC hwC q0 q1 HL4
          go_upto_region 12 with (fail)
          rw [HWC4.out]
          clear a0 a1 b0 b1 j0 j1 hne1 hne2
          obtain ⟨⟨⟨l5, e5⟩, x5⟩, hq5⟩ : ∃ q, atS (l4, e4) 3 = q := ⟨_, rfl⟩
          have HQ5 : Hid (atS (l4, e4) 3 = ((l5, e5), x5)) := Lib.hid hq5
          have hok5 : InOk (l5, e5) := by have h := atS_ok HOk4.out 3; rw [hq5] at h; exact h
          have HOk5 := Lib.hid hok5
          have hL5 := nlim_any t4 HT4.out.2 (l4, e4) HT4.out.1 HOk4.out 3 (by first | decide | omega) wC4
          rw [hq5] at hL5
          have HL5 : Hid (Calls Try.prog 26 #[.agg #[.string t4, .int .i64 (e4 : Int)], .int .i64 3] wC4 (LimPost ((l5, e5), x5) wC4)) := Lib.hid (by exact hL5)
          clear hq5 hok5 hL5
          have q0 := HS4.out.r.i0
          have q1 := HS4.out.r.i1
          go_wp2_with fail
          refine HL5.out.mono ?_
          rintro e wA5 ⟨t5, rfl, htA, hzA, hbA⟩
          have hA := HS4.out.below hbA
          have hB := hA.set t5 e5
          have hC := hB.cell 2 (x5 : Int) (a' := (x3 : Int)) (b' := (x4 : Int)) (c' := (x5 : Int)) rfl
          have a0 := hA.r.i0
          have a1 := hA.r.i1
          have b0 := frozen_block hA.r.i 0
          have b1 := frozen_block hA.r.i 1
          have j0 := hA.k2
          have j1 := frozen_block hA.k 2
          have hne1 : cb ≠ rb := by have := hA.p; omega
          have hne2 : rb ≠ cb := by have := hA.p; omega
          obtain ⟨wC5, hwC⟩ : ∃ wC, ((wA5.setCell ⟨rb, 0, none⟩ (.string t5)).setCell ⟨rb, 1, none⟩ (.int .i64 (e5 : Int))).setCell ⟨cb, 2, none⟩ (.int .i64 (x5 : Int)) = wC := ⟨_, rfl⟩
          rw [hwC] at hC
          have HS5 := Lib.hid hC
          have HT5 : Hid (t5.data.toList = ((l5, e5) : Sta).1 ∧ (t5.size : Int) ≤ 1000000) := Lib.hid ⟨htA, hzA⟩
          have HWC5 := Lib.hid hwC
          clear htA hzA hbA hA hB hC hwC q0 q1 HL5
          go_upto_region 13 with (fail)
          rw [HWC5.out]
          clear a0 a1 b0 b1 j0 j1 hne1 hne2
          have HRs : Hid (runS (lj, 0) m = ((l5, e5), (x2, ⟨(x3 : Int), (x4 : Int), (x5 : Int)⟩))) := Lib.hid (by
            have h1 : r1 (lj, 0) m = ((l2, e2), x2) := by rw [r1_def]; exact HQ2.out
            have h2 : r2 (lj, 0) m = ((l3, e3), x3) := by rw [r2_def, h1]; simp only; rw [HZf.out]; exact HQ3.out
            have h3 : r3 (lj, 0) m = ((l4, e4), x4) := by rw [r3_def, h2]; exact HQ4.out
            have h4 : r4 (lj, 0) m = ((l5, e5), x5) := by rw [r4_def, h3]; exact HQ5.out
            unfold runS
            rw [h1, h2, h3, h4])
          have zi := fun d os => cell_regrown HS5.out.r.i1 d os
          have HXb : Hid (x2 ≤ 2000) := Lib.hid (by have h := atS_le (lj, 0) m; rw [HQ2.out] at h; have := HLm.out; simp only at h; omega)
          have he5 : e5 ≠ 0 := by
            have h3 := atS_bad (st := (lz, ez)) (m := 1114111) HEz.out
            rw [HQ3.out] at h3
            have h4 := atS_bad (st := (l3, e3)) (m := 647) h3
            rw [HQ4.out] at h4
            have h5 := atS_bad (st := (l4, e4)) (m := 3) h4
            rw [HQ5.out] at h5
            exact h5
          have q5 : ((e5 : Int) == 0) = false := by rw [beq_eq_false_iff_ne]; omega
          have hlk : likeF (l5, e5) pr ⟨(x3 : Int), (x4 : Int), (x5 : Int)⟩ = (l5, e5) := by unfold likeF; split; unfold failS; rw [if_pos (.inl he5)]; rfl
          have HOkk : Hid (InOk (l5, e5)) := Lib.hid (by rw [← hlk]; exact likeF_ok HOk5.out _ _)
          have HXk : Hid (e5 = 0 → 1 ≤ x2 ∧ x2 ≤ m) := Lib.hid (fun h => by
            have h1 := (likeF_zero (st := (l5, e5)) (pr := pr) (c := ⟨(x3 : Int), (x4 : Int), (x5 : Int)⟩) (by rw [hlk]; exact h)).2.2
            have h2 := runS_zero (st := (lj, 0)) (m := m) (by rw [HRs.out]; exact h1)
            rw [HRs.out] at h2
            exact ⟨h2.2.2.1, h2.2.2.2.1⟩)
          have HRunk : Hid ((rowS gq (m - x2) (l5, e5) (some ⟨(x3 : Int), (x4 : Int), (x5 : Int)⟩)).1 = tot.1 ∧ (tot.1.2 = 0 → L ++ expR ((x2, (⟨(x3 : Int), (x4 : Int), (x5 : Int)⟩ : Cel)) :: (rowS gq (m - x2) (l5, e5) (some ⟨(x3 : Int), (x4 : Int), (x5 : Int)⟩)).2) = expR tot.2)) := Lib.hid (by
            have h := HRun.out
            rw [HRs.out] at h
            simp only at h
            rw [hlk] at h
            exact h)
          clear hlk
          have HTk := HT5
          clear he5
          refine wp_region_quiet_below (by kernel_rfl) (by kernel_rfl) ?_
          repeat (go_big_quiet_step (fail))
          refine wpQuiet_nil ?_
          intro _ hw'
          obtain ⟨⟨dq, osq⟩, hw''⟩ := hw'
          have hb9 := below_regrown wC5 dq osq
          obtain ⟨w9, hw9⟩ : ∃ w9, Go.Sort.grow (redrawn wC5 dq) osq = w9 := ⟨_, rfl⟩
          rw [hw'']
          simp only
          rw [hw9] at hb9 ⊢
          have HS9 := Lib.hid (HS5.out.below hb9)
          clear hw'' hw9 hb9 zi
          clear q5
          go_upto_region 15 with fail
          go_wp2_with fail
          go_loopw [7, 10] (fun u i wr => ∃ j : Nat, i = .int .i64 (j : Int) ∧ j ≤ x2 ∧ Hid (RfS rb cb t5 e5 (x3 : Int) (x4 : Int) (x5 : Int) u (L ++ List.replicate j ⟨(x3 : Int), (x4 : Int), (x5 : Int)⟩) w wr ∧ (e5 ≠ 0 → j = 0))) (fun _ i _ => x2 - (intOf i).toNat)
          case atStart => exact ⟨0, rfl, Nat.zero_le _, Lib.hid ⟨by rw [List.replicate_zero, List.append_nil]; exact HS9.out, fun _ => rfl⟩⟩
          case round =>
            obtain ⟨j, rfl, hj, HJ⟩ := hrel
            obtain ⟨hJ, hJ0⟩ := HJ.out
            obtain ⟨va, vc, rfl, -, -, -, hf2, ht2⟩ := hJ.o.shape
            obtain ⟨lj2, hlj2⟩ : ∃ n, (L ++ List.replicate j (⟨(x3 : Int), (x4 : Int), (x5 : Int)⟩ : Cel)).length = n := ⟨_, rfl⟩
            rw [hlj2] at hf2 hJ ⊢
            have HLj2 : Hid (lj2 = ln + j) := Lib.hid (by rw [← hlj2, List.length_append, List.length_replicate, HLn.out])
            have HLj := Lib.hid hlj2
            have HJr := Lib.hid hJ
            have HJ0 := Lib.hid hJ0
            have i0 := hJ.r.i0
            have i1 := hJ.r.i1
            clear hlj2 hf2 ht2 hJ hJ0 HJ
            by_cases hlt : j < x2
            · have d1 : decide ((j : Int) < (x2 : Int)) = true := decide_eq_true (by omega)
              have d2 : decide (j < x2) = true := decide_eq_true hlt
              have hxI : (x2 : Int) ≤ 2000 := by have := HXb.out; omega
              by_cases hek : e5 = 0
              · have q0 : ((e5 : Int) == 0) = true := by rw [hek]; rfl
                have k0 := HJr.out.k0
                have k1 := HJr.out.k1
                have k2 := HJr.out.k2
                obtain ⟨wD, hwD⟩ : ∃ wD, wr.alloc (.cells #[.int .i64 (x3 : Int), .int .i64 (x4 : Int), .int .i64 (x5 : Int)] 95) = wD := ⟨_, rfl⟩
                have hbD : Below wr.heap.size wr wD := by rw [← hwD]; exact (Below.refl _ _).alloc (Nat.le_refl _) _
                have hiD : CelsIn .i64 (some ⟨wr.heap.size, 0, none⟩) 1 [(⟨(x3 : Int), (x4 : Int), (x5 : Int)⟩ : Cel)] wD := by rw [← hwD]; exact cels_one wr ⟨(x3 : Int), (x4 : Int), (x5 : Int)⟩ _
                have HBD := Lib.hid hbD
                have HID := Lib.hid hiD
                have HOD := Lib.hid (HJr.out.o.belowAll hbD)
                have HSD : Hid (rb + 3 ≤ wD.heap.size) := Lib.hid (Nat.le_trans HJr.out.r.size hbD.size)
                have HWD := Lib.hid hwD
                have HLb : Hid (((L ++ List.replicate j (⟨(x3 : Int), (x4 : Int), (x5 : Int)⟩ : Cel)).length : Int) ≤ 1000000) := Lib.hid (by rw [HLj.out]; have := HLj2.out; have := HXb.out; omega)
                have HEk := Lib.hid hek
                clear hbD hiD hwD hek
                go_wp2_with (at_builtin; (try rw [HWD.out]); refine wpList_append_cells refT rfl _ _ rfl rfl (rb + 3) _ (L ++ List.replicate j ⟨(x3 : Int), (x4 : Int), (x5 : Int)⟩) (some ⟨wr.heap.size, 0, none⟩) 1 1 [⟨(x3 : Int), (x4 : Int), (x5 : Int)⟩] (by first | rfl | (rw [HLj.out]; rfl)) rfl HOD.out HID.out (fun e => by cases e) HLb.out (by simp) HSD.out ?_)
                intro v6 w6 hown hgr
                have HN6 : Hid (RfS rb cb t5 e5 (x3 : Int) (x4 : Int) (x5 : Int) v6 (L ++ List.replicate (j + 1) ⟨(x3 : Int), (x4 : Int), (x5 : Int)⟩) w w6) := Lib.hid (by
                  have h := HJr.out.push HBD.out hown hgr
                  rw [List.replicate_succ']
                  first | exact h | (rw [← List.append_assoc]; exact h))
                clear hown hgr k0 k1 k2 HOD HID
                go_wp2_with fail
                go_roundw
                case rel => exact ⟨j + 1, by first | rfl | go_num, by omega, Lib.hid ⟨HN6.out, fun h => absurd HEk.out h⟩⟩
                case measure => simp [intOf]; omega
              · have q0 : ((e5 : Int) == 0) = false := by rw [beq_eq_false_iff_ne]; omega
                have hjq : (e5 = 0 → j = x2) ∧ (e5 ≠ 0 → j = 0) := ⟨fun h => absurd h hek, HJ0.out⟩
                have HJq := Lib.hid hjq
                clear hek hjq
                have HNew : Hid (RfI rb m0 tot (.slice va lj2 vc) (L ++ List.replicate j ⟨(x3 : Int), (x4 : Int), (x5 : Int)⟩) t5 (l5, e5) w wr) := Lib.hid (RfI.next HJr.out HTk.out HOkk.out HJq.out HXk.out HLm.out HRunk.out HFk.out)
                have HMs : Hid ((m0 + 1 - lj2) + errOf rb wr < (m0 + 1 - ln) + errOf rb w0) := Lib.hid (by
                  have h1 := HJr.out.r.err
                  have h2 := HErr.out
                  rw [h1, h2]
                  have h3 := HXk.out
                  have h4 := HLm.out
                  rw [HLn.out] at h4
                  have h5 := HLj2.out
                  split
                  · rename_i h6
                    have := h3 h6
                    have := (HJq.out : (e5 = 0 → j = x2) ∧ (e5 ≠ 0 → j = 0)).1 h6
                    omega
                  · omega)
                go_wp2_with fail
                go_roundw
                case rel => exact ⟨_, _, (l5, e5), HNew⟩
                case measure => exact HMs.out
            · have d1 : decide ((j : Int) < (x2 : Int)) = false := decide_eq_false (by omega)
              have d2 : decide (j < x2) = false := decide_eq_false hlt
              have hjq : (e5 = 0 → j = x2) ∧ (e5 ≠ 0 → j = 0) := ⟨fun _ => by omega, HJ0.out⟩
              have HJq := Lib.hid hjq
              clear hjq
              have HNew : Hid (RfI rb m0 tot (.slice va lj2 vc) (L ++ List.replicate j ⟨(x3 : Int), (x4 : Int), (x5 : Int)⟩) t5 (l5, e5) w wr) := Lib.hid (RfI.next HJr.out HTk.out HOkk.out HJq.out HXk.out HLm.out HRunk.out HFk.out)
              have HMs : Hid ((m0 + 1 - lj2) + errOf rb wr < (m0 + 1 - ln) + errOf rb w0) := Lib.hid (by
                have h1 := HJr.out.r.err
                have h2 := HErr.out
                rw [h1, h2]
                have h3 := HXk.out
                have h4 := HLm.out
                rw [HLn.out] at h4
                have h5 := HLj2.out
                split
                · rename_i h6
                  have := h3 h6
                  have := (HJq.out : (e5 = 0 → j = x2) ∧ (e5 ≠ 0 → j = 0)).1 h6
                  omega
                · omega)
              go_wp2_with fail
              go_roundw
              case rel => exact ⟨_, _, (l5, e5), HNew⟩
              case measure => exact HMs.out
      · have dL : decide ((ln : Int) < W) = true := decide_eq_true hlW
        have q2 : ((ej : Int) == 0) = false := by rw [beq_eq_false_iff_ne]; omega
        have q3 : ((ej : Int) != 0) = true := by rw [bne_iff_ne]; omega
        have o0 : wr.cell? ⟨rb + 1, 0, none⟩ = some (.string ⟨#[]⟩) := by rw [cell_block HF.out.r.o]; rfl
        have o1 : wr.cell? ⟨rb + 1, 1, none⟩ = some (.int .i64 0) := by rw [cell_block HF.out.r.o]; rfl
        have r0 : wr.cell? ⟨rb + 2, 0, none⟩ = some (.slice none 0 0) := by rw [cell_block HF.out.r.r]; rfl
        have r1 : wr.cell? ⟨rb + 2, 1, none⟩ = some (.bool false) := by rw [cell_block HF.out.r.r]; rfl
        have f0 := frozen_block HF.out.r.o 0
        have f1 := frozen_block HF.out.r.o 1
        have f2 := frozen_block HF.out.r.r 0
        have f3 := frozen_block HF.out.r.r 1
        have hend : Hid (P (.returned (.tuple #[.agg #[.string t, .int .i64 (ej : Int)], .agg #[.slice none 0 0, .bool false]])) ((((wr.setCell ⟨rb + 1, 0, none⟩ (.string t)).setCell ⟨rb + 1, 1, none⟩ (.int .i64 (ej : Int))).setCell ⟨rb + 2, 0, none⟩ (.slice none 0 0)).setCell ⟨rb + 2, 1, none⟩ (.bool false))) := Lib.hid (by
          obtain ⟨m, f, pr, -, -, h3, -⟩ := HF.out.run
          rw [rowS_end (.inr he)] at h3
          have h4 : (lj, ej) = tot.1 := h3
          rw [← HP.out, HRd.out, ← h4, if_neg he]
          unfold RfPost
          rw [HRb.out]
          exact ⟨t, .slice none 0 0, rfl, HF.out.t.1, HF.out.t.2, OwnC.nil _ _ _ _, HF.out.r.outB _ _ _ _⟩)
        clear he HF HIn HBl HFt
        go_wp2_with fail
        refine bodyPost_ret (v := .tuple #[.agg #[.string t, .int .i64 (ej : Int)], .agg #[.slice none 0 0, .bool false]]) (by rw [results_cell_cell rfl]; go_simp) rfl ?_
        exact hend.out
    · have dL : decide ((ln : Int) < W) = false := decide_eq_false hlW
      by_cases he : ej = 0
      · subst he
        have o0 : wr.cell? ⟨rb + 1, 0, none⟩ = some (.string ⟨#[]⟩) := by rw [cell_block HF.out.r.o]; rfl
        have o1 : wr.cell? ⟨rb + 1, 1, none⟩ = some (.int .i64 0) := by rw [cell_block HF.out.r.o]; rfl
        have r0 : wr.cell? ⟨rb + 2, 0, none⟩ = some (.slice none 0 0) := by rw [cell_block HF.out.r.r]; rfl
        have r1 : wr.cell? ⟨rb + 2, 1, none⟩ = some (.bool false) := by rw [cell_block HF.out.r.r]; rfl
        have f0 := frozen_block HF.out.r.o 0
        have f1 := frozen_block HF.out.r.o 1
        have f2 := frozen_block HF.out.r.r 0
        have f3 := frozen_block HF.out.r.r 1
        have hbw := HBw.out
        have hend : Hid (P (.returned (.tuple #[.agg #[.string t, .int .i64 0], .agg #[.slice ua ln uc, .bool bw]])) ((((wr.setCell ⟨rb + 1, 0, none⟩ (.string t)).setCell ⟨rb + 1, 1, none⟩ (.int .i64 0)).setCell ⟨rb + 2, 0, none⟩ (.slice ua ln uc)).setCell ⟨rb + 2, 1, none⟩ (.bool bw))) := Lib.hid (by
          obtain ⟨m, f, pr, h1, -, h3, h4⟩ := HF.out.run
          obtain ⟨h1, -⟩ := h1 rfl
          have hm : m = 0 := by have := HM0.out; have := HLn.out; omega
          rw [rowS_end (.inl hm)] at h3 h4
          have h5 : (lj, 0) = tot.1 := h3
          have h6 : L = expR tot.2 := by have := h4 (by rw [← h5]); simpa [expR] using this
          rw [← HP.out, HRd.out, ← h5, if_pos rfl, ← h6]
          unfold RfPost
          rw [HRb.out]
          refine ⟨t, .slice ua ln uc, rfl, HF.out.t.1, HF.out.t.2, ?_, HF.out.r.outB _ _ _ _⟩
          have ho := HF.out.o
          rw [HLn.out] at ho
          exact ((ho.set2ne (fun q hq => by have := (ho.ownBlock q hq).1; omega) _ _).set2ne (fun q hq => by have := (ho.ownBlock q hq).1; omega) _ _).weaken (by omega))
        clear HF HIn HBl HFt
        go_wp2_with fail
        refine bodyPost_ret (v := .tuple #[.agg #[.string t, .int .i64 0], .agg #[.slice ua ln uc, .bool bw]]) (by rw [results_cell_cell rfl]; go_simp) rfl ?_
        exact hend.out
      · have q2 : ((ej : Int) == 0) = false := by rw [beq_eq_false_iff_ne]; omega
        have q3 : ((ej : Int) != 0) = true := by rw [bne_iff_ne]; omega
        have o0 : wr.cell? ⟨rb + 1, 0, none⟩ = some (.string ⟨#[]⟩) := by rw [cell_block HF.out.r.o]; rfl
        have o1 : wr.cell? ⟨rb + 1, 1, none⟩ = some (.int .i64 0) := by rw [cell_block HF.out.r.o]; rfl
        have r0 : wr.cell? ⟨rb + 2, 0, none⟩ = some (.slice none 0 0) := by rw [cell_block HF.out.r.r]; rfl
        have r1 : wr.cell? ⟨rb + 2, 1, none⟩ = some (.bool false) := by rw [cell_block HF.out.r.r]; rfl
        have f0 := frozen_block HF.out.r.o 0
        have f1 := frozen_block HF.out.r.o 1
        have f2 := frozen_block HF.out.r.r 0
        have f3 := frozen_block HF.out.r.r 1
        have hend : Hid (P (.returned (.tuple #[.agg #[.string t, .int .i64 (ej : Int)], .agg #[.slice none 0 0, .bool false]])) ((((wr.setCell ⟨rb + 1, 0, none⟩ (.string t)).setCell ⟨rb + 1, 1, none⟩ (.int .i64 (ej : Int))).setCell ⟨rb + 2, 0, none⟩ (.slice none 0 0)).setCell ⟨rb + 2, 1, none⟩ (.bool false))) := Lib.hid (by
          obtain ⟨m, f, pr, -, -, h3, -⟩ := HF.out.run
          rw [rowS_end (.inr he)] at h3
          have h4 : (lj, ej) = tot.1 := h3
          rw [← HP.out, HRd.out, ← h4, if_neg he]
          unfold RfPost
          rw [HRb.out]
          exact ⟨t, .slice none 0 0, rfl, HF.out.t.1, HF.out.t.2, OwnC.nil _ _ _ _, HF.out.r.outB _ _ _ _⟩)
        clear he HF HIn HBl HFt
        go_wp2_with fail
        refine bodyPost_ret (v := .tuple #[.agg #[.string t, .int .i64 (ej : Int)], .agg #[.slice none 0 0, .bool false]]) (by rw [results_cell_cell rfl]; go_simp) rfl ?_
        exact hend.out
end Go.Proofs.Ytjlljkdlgkociaa.K
