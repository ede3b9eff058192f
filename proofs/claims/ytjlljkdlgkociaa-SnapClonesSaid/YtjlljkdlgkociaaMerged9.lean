/- The contract of the statements' Is: a row of the program's and one of the document's. -/
import Derived.Test.YtjlljkdlgkociaaMerged8
import Derived.Test.YtjlljkdlgkociaaMerged1
import Derived.Lib.QuietBelow
import Derived.BigQuiet
namespace Go.Proofs.Ytjlljkdlgkociaa.K
open Go.RowKit

theorem take_snoc1 {α : Type} (l : List α) (j : Nat) (h : j < l.length) : l.take (j + 1) = l.take j ++ [l[j]] := by
  rw [List.take_add_one, List.getElem?_eq_getElem h]; rfl
set_option maxRecDepth 100000 in
set_option maxHeartbeats 8000000 in
theorem is_any (a1 a2 : Option Addr) (n1 n2 c1 c2 : Nat) (r1 r2 : Bool) (l1 l2 : List Cel) (w : World) (h1 : CelsIn .i32 a1 n1 l1 w) (h2 : CelsIn .i64 a2 n2 l2 w) (hr : AllC Rng l1) (hn : (n1 : Int) ≤ 1000000) (hn2 : (n2 : Int) ≤ 1000000) :
    Calls Try.prog 68 #[.agg #[.slice a1 n1 c1, .bool r1], .agg #[.slice a2 n2 c2, .bool r2]] w fun e w' => e = .returned (.bool (decide ((⟨l1, r1⟩ : Ro) = ⟨l2, r2⟩))) ∧ Below w.heap.size w w' := by
  obtain ⟨rb, hrb⟩ : ∃ rb, w.heap.size = rb := ⟨_, rfl⟩
  rw [hrb]
  obtain ⟨D, hD⟩ : ∃ D, decide ((⟨l1, r1⟩ : Ro) = ⟨l2, r2⟩) = D := ⟨_, rfl⟩
  obtain ⟨P, hP⟩ : ∃ P : Ending → World → Prop, (fun e w' => e = .returned (.bool D) ∧ Below rb w w') = P := ⟨_, rfl⟩
  rw [hD, hP]
  have HP := Lib.hid hP
  obtain ⟨w2, hw2⟩ : ∃ w2, (w.alloc (.cells #[.slice a1 n1 c1, .bool r1] 50)).alloc (.cells #[.slice a2 n2 c2, .bool r2] 75) = w2 := ⟨_, rfl⟩
  have hb2 : Below rb w w2 := by rw [← hw2, ← hrb]; exact ((Below.refl _ _).alloc (Nat.le_refl _) _).alloc (by simp) _
  have hq1 : RoB 50 rb (.slice a1 n1 c1) r1 w2 := by rw [← hw2, ← hrb]; exact (RoB.new _ _ _ _).belowAll ((Below.refl _ _).alloc (Nat.le_refl _) _)
  have hq2 : RoB 75 (rb + 1) (.slice a2 n2 c2) r2 w2 := by
    have h := RoB.new 75 (w.alloc (.cells #[.slice a1 n1 c1, .bool r1] 50)) (.slice a2 n2 c2) r2
    rw [World.size_alloc, hrb, hw2] at h
    exact h
  have hsz2 : rb + 2 ≤ w2.heap.size := hq2.lt
  have HB2 := Lib.hid hb2
  have HQ1 := Lib.hid hq1
  have HQ2 := Lib.hid hq2
  have HD := Lib.hid hD
  have HL1 := Lib.hid h1.len
  have HL2 := Lib.hid h2.len
  have H1 := Lib.hid (h1.belowAll (by rw [hrb]; exact hb2))
  have H2 := Lib.hid (h2.belowAll (by rw [hrb]; exact hb2))
  have HRg := Lib.hid hr
  have HW2 := Lib.hid hw2
  have HRb := Lib.hid hrb
  have c0 := hq1.c0
  have c1' := hq1.c1
  have c2' := hq2.c0
  have c3 := hq2.c1
  clear hP hD hb2 hq1 hq2 hw2 hrb h1 h2 hr
  by_cases hnn : n1 = n2
  · subst hnn
    have q1 : ((n1 : Int) != (n1 : Int)) = false := by simp
    by_cases hrr : r1 = r2
    · subst hrr
      have q2 : (r1 != r1) = false := by simp
      have HDe : Hid (decide (l1 = l2) = D) := Lib.hid (by rw [← HD.out]; simp)
      have HSt : Hid (∀ u, Below w2.heap.size w2 u → u.cell? ⟨rb + 1, 0, none⟩ = some (.slice a2 n1 c2)) := Lib.hid (fun u hu => (hu.cell (p := ⟨rb + 1, 0, none⟩) (by show rb + 1 < _; omega)).trans HQ2.out.c0)
      go_enter Try.func68, Try.ntmps68
      go_upto_region 1 with fail
      rw [HW2.out, HRb.out]
      go_wp2_with fail
      clear c0 c1' c2' c3 q1 q2 hn2
      go_loopw [24] (fun i wr => ∃ j : Nat, i = .int .i64 (j : Int) ∧ j ≤ n1 ∧ rb + 2 ≤ wr.heap.size ∧ Hid (l1.take j = l2.take j ∧ Below w2.heap.size w2 wr)) (fun i _ => n1 - (intOf i).toNat)
      case atStart => exact ⟨0, rfl, by omega, hsz2, Lib.hid ⟨by simp, Below.refl _ _⟩⟩
      case round =>
        obtain ⟨j, rfl, hj, hlw, HF⟩ := hrel
        by_cases hlt : j < n1
        · have hd : decide (j < n1) = true := by simp; omega
          have hj1 : j < l1.length := by rw [← HL1.out]; exact hlt
          have hj2 : j < l2.length := by rw [← HL2.out]; exact hlt
          obtain ⟨b1, o1, rfl, hb1, hA1⟩ := H1.out.at_.resolve_left (by intro e; rw [e] at hj1; simp at hj1)
          obtain ⟨b2, o2, rfl, hb2, hA2⟩ := H2.out.at_.resolve_left (by intro e; rw [e] at hj2; simp at hj2)
          have hat1 := (hA1 j l1[j] (List.getElem?_eq_getElem hj1)).block (HF.out.2.block b1 hb1)
          have hat2 := (hA2 j l2[j] (List.getElem?_eq_getElem hj2)).block (HF.out.2.block b2 hb2)
          have hs1 := take_snoc1 l1 j hj1
          have hs2 := take_snoc1 l2 j hj2
          have hrg := HRg.out l1[j] (List.getElem_mem hj1)
          obtain ⟨k1, hk1⟩ : ∃ k, l1[j] = k := ⟨_, rfl⟩
          obtain ⟨k2, hk2⟩ : ∃ k, l2[j] = k := ⟨_, rfl⟩
          rw [hk1] at hat1 hs1 hrg
          rw [hk2] at hat2 hs2
          obtain ⟨x, s, t⟩ := k1
          obtain ⟨x', s', t'⟩ := k2
          have hwr : IntKind.i64.wrap x = x := by rw [IntKind.wrap_i64]; have h1 := hrg.1; have h2 := hrg.2; simp only at h1 h2; omega
          have x0 := hat1.c0
          have x1 := hat1.c1
          have x2 := hat1.c2
          simp only at x0 x1 x2
          obtain ⟨nb, hnb⟩ : ∃ nb, wr.heap.size = nb := ⟨_, rfl⟩
          obtain ⟨w5, hw5⟩ : ∃ w5, wr.alloc (.cells #[.int .i32 x, .int .i64 s, .int .i64 t] 52) = w5 := ⟨_, rfl⟩
          have hblk5 : w5.heap[nb]? = some (.cells #[.int .i32 x, .int .i64 s, .int .i64 t] 52 (0, 0)) := by rw [← hw5, ← hnb]; exact World.alloc_heap_new _ _
          have hb5 : Below wr.heap.size wr w5 := by rw [← hw5]; exact (Below.refl _ _).alloc (Nat.le_refl _) _
          have e0 : w5.cell? ⟨nb, 0, none⟩ = some (.int .i32 x) := by simp [World.cell?, hblk5]
          have e1 : w5.cell? ⟨nb, 1, none⟩ = some (.int .i64 s) := by simp [World.cell?, hblk5]
          have e2 : w5.cell? ⟨nb, 2, none⟩ = some (.int .i64 t) := by simp [World.cell?, hblk5]
          have hb25 : Below w2.heap.size w2 w5 := HF.out.2.trans (hb5.mono HF.out.2.size)
          have e3 := HSt.out w5 hb25
          have hat5 := hat2.block (hb5.block b2 (Nat.lt_of_lt_of_le hb2 HF.out.2.size))
          have y0 := fun d os => cell_regrown e0 d os
          have y1 := fun d os => cell_regrown e1 d os
          have y2 := fun d os => cell_regrown e2 d os
          have y3 := fun d os => cell_regrown e3 d os
          have z0 := fun d os => cell_regrown hat5.c0 d os
          have z1 := fun d os => cell_regrown hat5.c1 d os
          have z2 := fun d os => cell_regrown hat5.c2 d os
          simp only at z0 z1 z2
          have HB5 := Lib.hid hb25
          have hlw5 : rb + 2 ≤ w5.heap.size := Nat.le_trans hlw hb5.size
          have HS1 := Lib.hid hs1
          have HS2 := Lib.hid hs2
          have HK1 := Lib.hid hk1
          have HK2 := Lib.hid hk2
          have HW5 := Lib.hid hw5
          have HNb := Lib.hid hnb
          have hjn : (j : Int) < n1 := by omega
          clear hA1 hA2 hat1 hat2 hs1 hs2 hk1 hk2 hb1 hb2 hrg hw5 hnb hblk5 hb5 hb25 hat5 e0 e1 e2 e3
          go_upto_region 6 with fail
          rw [HW5.out, HNb.out]
          clear x0 x1 x2
          by_cases hall : x = x' ∧ s = s' ∧ t = t'
          · obtain ⟨rfl, rfl, rfl⟩ := hall
            have HE : Hid (l1.take (j + 1) = l2.take (j + 1)) := Lib.hid (by rw [HS1.out, HS2.out, HF.out.1])
            have p0 : (x != x) = false := by simp
            have p1 : (s != s) = false := by simp
            have p2 : (t != t) = false := by simp
            clear HK1 HK2 HS1 HS2
            refine wp_region_quiet_below (by kernel_rfl) (by kernel_rfl) ?_
            repeat (go_big_quiet_step (fail))
            refine wpQuiet_nil ?_
            intro _ hw'
            obtain ⟨⟨dq, osq⟩, hw''⟩ := hw'
            rw [hw'']
            simp only
            have HB6 := Lib.hid (HB5.out.trans ((below_regrown w5 dq osq).mono HB5.out.size))
            have hlw6 : rb + 2 ≤ (Go.Sort.grow (redrawn w5 dq) osq).heap.size := Nat.le_trans hlw5 (below_regrown w5 dq osq).size
            obtain ⟨w6, hw6⟩ : ∃ w6, Go.Sort.grow (redrawn w5 dq) osq = w6 := ⟨_, rfl⟩
            rw [hw6] at HB6 hlw6 ⊢
            clear hw'' hw6 y0 y1 y2 y3 z0 z1 z2
            go_wp2
            go_roundw
            case rel => exact ⟨j + 1, by go_num, by omega, hlw6, Lib.hid ⟨HE.out, HB6.out⟩⟩
            case measure => simp [intOf]; omega
          · have hne : ¬ l1 = l2 := by
              intro e
              have h3 : l1[j]? = l2[j]? := by rw [e]
              rw [List.getElem?_eq_getElem hj1, List.getElem?_eq_getElem hj2, HK1.out, HK2.out] at h3
              cases h3
              exact hall ⟨rfl, rfl, rfl⟩
            obtain rfl : D = false := by rw [← HDe.out]; simp [hne]
            have hway : (x != x') = true ∨ (x = x' ∧ (s != s') = true) ∨ (x = x' ∧ s = s' ∧ (t != t') = true) := by
              by_cases e1 : x = x'
              · right
                by_cases e2 : s = s'
                · right; exact ⟨e1, e2, by rw [bne_iff_ne]; exact fun e3 => hall ⟨e1, e2, e3⟩⟩
                · left; exact ⟨e1, by rw [bne_iff_ne]; exact e2⟩
              · left; rw [bne_iff_ne]; exact e1
            clear hne hall HK1 HK2 HS1 HS2
            rcases hway with p0 | ⟨rfl, p1⟩ | ⟨rfl, rfl, p2⟩
            case' inr.inl => have p0 : (x != x) = false := by simp
            case' inr.inr =>
              have p0 : (x != x) = false := by simp
              have p1 : (s != s) = false := by simp
            all_goals
              refine wp_region_quiet_below (by kernel_rfl) (by kernel_rfl) ?_
              repeat (go_big_quiet_step (fail))
              refine wpQuiet_nil ?_
              intro _ hw'
              obtain ⟨⟨dq, osq⟩, hw''⟩ := hw'
              rw [hw'']
              simp only
              have HB6 := Lib.hid (HB5.out.trans ((below_regrown w5 dq osq).mono HB5.out.size))
              obtain ⟨w6, hw6⟩ : ∃ w6, Go.Sort.grow (redrawn w5 dq) osq = w6 := ⟨_, rfl⟩
              rw [hw6] at HB6 ⊢
              clear hw'' hw6 y0 y1 y2 y3 z0 z1 z2
              go_wp2
              rw [← HP.out]
              exact ⟨rfl, HB2.out.trans (HB6.out.mono (by omega))⟩
        · obtain rfl : j = n1 := by omega
          have hd : decide ((j : Int) < (j : Int)) = false := by simp
          have he : l1 = l2 := by
            have h := HF.out.1
            rw [List.take_of_length_le (Nat.le_of_eq HL1.out.symm), List.take_of_length_le (Nat.le_of_eq HL2.out.symm)] at h
            exact h
          obtain rfl : D = true := by rw [← HDe.out]; simp [he]
          clear he
          go_wp2
          rw [← HP.out]
          exact ⟨rfl, HB2.out.trans (HF.out.2.mono (by omega))⟩
    · obtain rfl : D = false := by rw [← HD.out]; simp [hrr]
      have hway : (r1 = true ∧ r2 = false) ∨ (r1 = false ∧ r2 = true) := by
        cases r1 <;> cases r2 <;> simp at hrr ⊢
      clear hrr HD
      rcases hway with ⟨rfl, rfl⟩ | ⟨rfl, rfl⟩
      all_goals
        go_enter Try.func68, Try.ntmps68
        go_upto_region 1 with fail
        rw [HW2.out, HRb.out]
        go_wp2_with fail
        rw [← HP.out]
        exact ⟨rfl, HB2.out⟩
  · obtain rfl : D = false := by
      rw [← HD.out]
      have : ¬ (⟨l1, r1⟩ : Ro) = ⟨l2, r2⟩ := fun e => hnn (by rw [HL1.out, HL2.out]; injection e with e1 e2; rw [e1])
      simp [this]
    have q1 : ((n1 : Int) != (n2 : Int)) = true := by rw [bne_iff_ne]; omega
    clear hnn
    go_enter Try.func68, Try.ntmps68
    go_upto_region 1 with fail
    rw [HW2.out, HRb.out]
    go_wp2_with fail
    rw [← HP.out]
    exact ⟨rfl, HB2.out⟩
end Go.Proofs.Ytjlljkdlgkociaa.K

/- The contracts of the statements' Told and Any. -/
namespace Go.Proofs.Ytjlljkdlgkociaa.K
open Go.RowKit

theorem RoB.set0 {t : TypeId} {p : Nat} {v v' : Value} {b : Bool} {w : World} (h : RoB t p v b w) : RoB t p v' b (w.setCell ⟨p, 0, none⟩ v') := by
  unfold RoB at h ⊢
  simp [World.setCell, Array.getElem?_modify, h]
theorem RoB.setOther {t : TypeId} {p q : Nat} {v x : Value} {b : Bool} {w : World} {o : Nat} (h : RoB t p v b w) (hne : p ≠ q) : RoB t p v b (w.setCell ⟨q, o, none⟩ x) := (Below.heap_setCell _ _ _ p (fun e => hne e)).trans h
theorem OwnC.set1 {rk : IntKind} {T : TypeId} {base : Nat} {v : Value} {l : List Cel} {w : World} (h : OwnC rk T base v l w) {p : Nat} (hp : p < base) (o : Nat) (x : Value) : OwnC rk T base v l (w.setCell ⟨p, o, none⟩ x) := by
  have g1 : w.grownBy (w.setCell ⟨p, o, none⟩ x) (some p) := ⟨rfl, rfl, rfl, (KeepsWalks.setCell w _ x).size, fun i _ hi => Below.heap_setCell _ _ _ i (fun e => hi (by rw [e]))⟩
  exact h.kept g1 (fun q hq e => by have := (h.ownBlock q hq).1; have := Option.some.inj e; omega)
/-- what Told has laid -/
structure ToldI (rb : Nat) (v0 v : Value) (b : Bool) (l : List Cel) (w wr : World) : Prop where
  below : Below rb w wr
  r : RoB 50 rb v0 b wr
  q : RoB 75 (rb + 1) (.slice none 0 0) false wr
  x : RoB 75 (rb + 2) v b wr
  own : OwnC .i64 95 (rb + 3) v l wr
theorem ToldI.size {rb : Nat} {v0 v : Value} {b : Bool} {l : List Cel} {w wr : World} (h : ToldI rb v0 v b l w wr) : rb + 3 ≤ wr.heap.size := h.x.lt
theorem ToldI.more {rb : Nat} {v0 v : Value} {b : Bool} {l : List Cel} {w wr w' : World} (h : ToldI rb v0 v b l w wr) (hb : Below wr.heap.size wr w') : ToldI rb v0 v b l w w' :=
  ⟨h.below.trans (hb.mono (by have := h.size; omega)), h.r.belowAll hb, h.q.belowAll hb, h.x.belowAll hb, h.own.belowAll hb⟩
theorem ToldI.next {rb : Nat} {v0 v v' : Value} {b : Bool} {l l' : List Cel} {w wr w' : World} (h : ToldI rb v0 v b l w wr) (hb : Below (rb + 3) wr w') (ho : OwnC .i64 95 (rb + 3) v' l' w') : ToldI rb v0 v' b l' w (w'.setCell ⟨rb + 2, 0, none⟩ v') := by
  have hb' : Below rb w w' := h.below.trans (hb.mono (by omega))
  exact ⟨hb'.setCell (p := ⟨rb + 2, 0, none⟩) (by show rb ≤ rb + 2; omega) _, (h.r.below hb (by omega)).setOther (by omega), (h.q.below hb (by omega)).setOther (by omega), (h.x.below hb (by omega)).set0, ho.set1 (by omega) _ _⟩

set_option maxRecDepth 100000 in
set_option maxHeartbeats 8000000 in
theorem told_any (a : Option Addr) (n c : Nat) (wr0 : Bool) (l : List Cel) (w : World) (hI : CelsIn .i32 a n l w) (hr : AllC Rng l) (hn : (n : Int) ≤ 1000000) :
    Calls Try.prog 42 #[.agg #[.slice a n c, .bool wr0]] w (RowPost .i64 95 w.heap.size l wr0 w) := by
  obtain ⟨rb, hrb⟩ : ∃ rb, w.heap.size = rb := ⟨_, rfl⟩
  rw [hrb]
  obtain ⟨P, hP⟩ : ∃ P, RowPost .i64 95 rb l wr0 w = P := ⟨_, rfl⟩
  rw [hP]
  have HP := Lib.hid hP
  have hln := hI.len
  have hst := St0.start 50 75 w (.slice a n c) wr0
  obtain ⟨w2, hw2⟩ : ∃ w2, (w.alloc (.cells #[.slice a n c, .bool wr0] 50)).alloc (.cells #[.slice none 0 0, .bool false] 75) = w2 := ⟨_, rfl⟩
  rw [hw2, hrb] at hst
  have hsz2 : w2.heap.size = rb + 2 := by rw [← hw2, World.size_alloc, World.size_alloc, hrb]
  obtain ⟨w3, hw3⟩ : ∃ w3, w2.alloc (.cells #[.slice none 0 0, .bool wr0] 75) = w3 := ⟨_, rfl⟩
  have ht3 : ToldI rb (.slice a n c) (.slice none 0 0) wr0 [] w w3 := by
    have hb3 : Below w2.heap.size w2 w3 := by rw [← hw3]; exact (Below.refl _ _).alloc (Nat.le_refl _) _
    have hx := RoB.new 75 w2 (.slice none 0 0) wr0
    rw [hw3, hsz2] at hx
    exact ⟨hst.below.trans (hb3.mono (by omega)), hst.r.belowAll hb3, hst.q.belowAll hb3, hx, OwnC.nil _ _ _ _⟩
  have c1 := hst.r.c1
  have c0 := ht3.r.c0
  have HI := Lib.hid hI
  have HLn := Lib.hid hln
  have HRg := Lib.hid hr
  have HW2 := Lib.hid hw2
  have HW3 := Lib.hid hw3
  have HRb := Lib.hid hrb
  have HSz2 := Lib.hid hsz2
  have HT3 := Lib.hid ht3
  clear hP hI hr hln hst hw2 hw3 hrb hsz2 ht3
  go_enter Try.func42, Try.ntmps42
  go_upto_region 1 with fail
  rw [HW2.out, HRb.out]
  go_upto_region 2 with fail
  rw [HW3.out, HSz2.out]
  go_wp2_with fail
  clear c0 c1
  go_loopw [12] (fun i wr => ∃ j : Nat, i = .int .i64 (j : Int) ∧ j ≤ n ∧ Hid (∃ v, ToldI rb (.slice a n c) v wr0 (l.take j) w wr)) (fun i _ => n - (intOf i).toNat)
  case atStart => exact ⟨0, rfl, by omega, Lib.hid ⟨_, by rw [List.take_zero]; exact HT3.out⟩⟩
  case round =>
    obtain ⟨j, rfl, hj, HF⟩ := hrel
    by_cases hlt : j < n
    · have hd : decide (j < n) = true := by simp; omega
      have hjl : j < l.length := by rw [← HLn.out]; exact hlt
      obtain ⟨v, hv⟩ := HF.out
      obtain ⟨b, o, rfl, hb, hA⟩ := HI.out.at_.resolve_left (by intro e; rw [e] at hjl; simp at hjl)
      rw [HRb.out] at hb
      have hat := (hA j l[j] (List.getElem?_eq_getElem hjl)).block (hv.below.block b hb)
      have hsn := take_snoc1 l j hjl
      have hrg := HRg.out l[j] (List.getElem_mem hjl)
      obtain ⟨k, hk⟩ : ∃ k, l[j] = k := ⟨_, rfl⟩
      rw [hk] at hat hsn hrg
      obtain ⟨x, s, t⟩ := k
      have hwr : IntKind.i64.wrap x = x := by rw [IntKind.wrap_i64]; have h1 := hrg.1; have h2 := hrg.2; simp only at h1 h2; omega
      have x0 := hat.c0
      have x1 := hat.c1
      have x2 := hat.c2
      simp only at x0 x1 x2
      obtain ⟨nb, hnb⟩ : ∃ nb, wr.heap.size = nb := ⟨_, rfl⟩
      obtain ⟨w5, hw5⟩ : ∃ w5, wr.alloc (.cells #[.int .i32 x, .int .i64 s, .int .i64 t] 52) = w5 := ⟨_, rfl⟩
      have hblk5 : w5.heap[nb]? = some (.cells #[.int .i32 x, .int .i64 s, .int .i64 t] 52 (0, 0)) := by rw [← hw5, ← hnb]; exact World.alloc_heap_new _ _
      have hb5 : Below wr.heap.size wr w5 := by rw [← hw5]; exact (Below.refl _ _).alloc (Nat.le_refl _) _
      have e0 : w5.cell? ⟨nb, 0, none⟩ = some (.int .i32 x) := by simp [World.cell?, hblk5]
      have e1 : w5.cell? ⟨nb, 1, none⟩ = some (.int .i64 s) := by simp [World.cell?, hblk5]
      have e2 : w5.cell? ⟨nb, 2, none⟩ = some (.int .i64 t) := by simp [World.cell?, hblk5]
      have HV5 := Lib.hid (hv.more hb5)
      obtain ⟨a8, c8, he8, -⟩ := hv.own.shape
      obtain ⟨n8, hn8⟩ : ∃ n8, (l.take j).length = n8 := ⟨_, rfl⟩
      rw [hn8] at he8
      subst he8
      have e3 := HV5.out.x.c0
      have HO5 := Lib.hid HV5.out.own
      have HLen : Hid (((l.take j).length : Int) ≤ 1000000) := Lib.hid (by rw [List.length_take]; have := HLn.out; omega)
      have HS5 : Hid (rb + 3 ≤ w5.heap.size) := Lib.hid HV5.out.size
      have HSn := Lib.hid hsn
      have HW5 := Lib.hid hw5
      have HNb := Lib.hid hnb
      have hjn : (j : Int) < n := by omega
      clear hv hA hat hsn hrg hk hw5 hnb hblk5 hb5 hb hn8
      go_upto_region 5 with fail
      rw [HW5.out, HNb.out]
      clear x0 x1 x2
      go_wp2_with (refine wpList_add_cell refT (rb + 3) _ (l.take j) ⟨x, s, t⟩ rfl rfl rfl HO5.out HLen.out HS5.out ?_)
      intro v' w' hown hbel hlw'
      obtain ⟨a9, c9, he9, -⟩ := hown.shape
      obtain ⟨n9, hn9⟩ : ∃ n9, (l.take j ++ [(⟨x, s, t⟩ : Cel)]).length = n9 := ⟨_, rfl⟩
      rw [hn9] at he9
      subst he9
      have hbw : Below (rb + 3) w5 w' := hbel w5 (Below.refl _ _)
      have HV' : Hid (ToldI rb (.slice (some ⟨b, o, none⟩) n c) (.slice a9 n9 c9) wr0 (l.take (j + 1)) w (w'.setCell ⟨rb + 2, 0, none⟩ (.slice a9 n9 c9))) := Lib.hid (HV5.out.next hbw (by rw [HSn.out]; exact hown))
      have hx := HV5.out.x.below hbw (by omega)
      have x0 := hx.c0
      have f0 := hx.fr 0
      clear hown hbel hbw hx e0 e1 e2 e3 hn9
      go_wp2
      go_roundw
      case rel => exact ⟨j + 1, by go_num, by omega, Lib.hid ⟨_, HV'.out⟩⟩
      case measure => simp [intOf]; omega
    · obtain rfl : j = n := by omega
      have hd : decide ((j : Int) < (j : Int)) = false := by simp
      obtain ⟨v, hv⟩ := HF.out
      have hfin : l.take j = l := List.take_of_length_le (Nat.le_of_eq HLn.out.symm)
      rw [hfin] at hv
      obtain ⟨a9, c9, he9, -⟩ := hv.own.shape
      obtain ⟨n9, hn9⟩ : ∃ n9, l.length = n9 := ⟨_, rfl⟩
      rw [hn9] at he9
      subst he9
      have HV := Lib.hid hv
      have y0 := hv.x.c0
      have y1 := hv.x.c1
      have x0 := hv.q.c0
      have x1 := hv.q.c1
      have f0 := hv.q.fr 0
      have f1 := hv.q.fr 1
      clear hv hfin hn9
      go_wp2_with fail
      refine bodyPost_ret (v := .agg #[.slice a9 n9 c9, .bool wr0]) (by rw [results_cell (fn := Try.f42) rfl]; go_simp <;> rfl) rfl ?_
      rw [← HP.out]
      exact ⟨_, rfl, (HV.out.own.set2 (by omega : rb + 1 < rb + 3) _ _).weaken (by omega), below_set2 HV.out.below (by omega)⟩

set_option maxRecDepth 100000 in
set_option maxHeartbeats 8000000 in
theorem any_any (a : Option Addr) (n c : Nat) (wr0 : Bool) (l : List Cel) (w : World) (hI : CelsIn .i32 a n l w) (hnil : a = none → c = 0) (hcap : n ≤ c) (hmx : (c : Int) ≤ 9223372036854775807) :
    Calls Try.prog 40 #[.slice a n c, .bool wr0] w (RowPost .i32 52 w.heap.size (l.take 40) wr0 w) := by
  obtain ⟨rb, hrb⟩ : ∃ rb, w.heap.size = rb := ⟨_, rfl⟩
  rw [hrb]
  obtain ⟨P, hP⟩ : ∃ P, RowPost .i32 52 rb (l.take 40) wr0 w = P := ⟨_, rfl⟩
  rw [hP]
  have HP := Lib.hid hP
  have hln := hI.len
  obtain ⟨M, hM⟩ : ∃ M : Nat, min (n : Int) 40 = (M : Int) := ⟨min n 40, by omega⟩
  have hMn : M ≤ n := by omega
  have hMc : (M : Int) ≤ c := by omega
  have hlt : l.take M = l.take 40 := by
    rcases Nat.le_total l.length 40 with h | h
    · rw [List.take_of_length_le (by omega), List.take_of_length_le h]
    · congr 1; omega
  have hM40 : M ≤ 40 := by omega
  obtain ⟨w1, hw1⟩ : ∃ w1, w.alloc (.cells #[.slice none 0 0, .bool false] 50) = w1 := ⟨_, rfl⟩
  have hb1 : Below rb w w1 := by rw [← hw1, ← hrb]; exact (Below.refl _ _).alloc (Nat.le_refl _) _
  have hr1 : RoB 50 rb (.slice none 0 0) false w1 := by rw [← hw1, ← hrb]; exact RoB.new _ _ _ _
  have hs1 : rb + 1 ≤ w1.heap.size := hr1.lt
  have HO2 := Lib.hid (OwnC.lit .i32 52 w1 (rb + 1) hs1)
  have hb12 : Below w1.heap.size w1 (w1.alloc (.cells #[] 52)) := (Below.refl _ _).alloc (Nat.le_refl _) _
  have HI2 : Hid (CelsIn .i32 a M (l.take 40) (w1.alloc (.cells #[] 52))) := Lib.hid (by
    have h := ((hI.belowAll (by rw [hrb]; exact hb1)).belowAll hb12).take hMn
    rw [hlt] at h
    exact h)
  have HLz : Hid (((l.take 40).length : Int) ≤ 1000000) := Lib.hid (by rw [List.length_take]; omega)
  have HNil := Lib.hid hnil
  have HB1 := Lib.hid hb1
  have HR1 := Lib.hid hr1
  have HW1 := Lib.hid hw1
  have HRb := Lib.hid hrb
  have HS1 := Lib.hid hs1
  have HS2 : Hid (rb + 1 ≤ (w1.alloc (.cells #[] 52)).heap.size) := Lib.hid (by simp; omega)
  clear hP hI hln hnil hlt hb1 hr1 hw1 hrb hs1 hb12
  go_enter Try.func40, Try.ntmps40
  go_upto_region 1 with fail
  rw [HW1.out, HRb.out]
  go_wp2_with (at_builtin; refine wpList_append_cells rowT rfl _ _ rfl rfl (rb + 1) _ [] a M c (l.take 40) rfl rfl HO2.out HI2.out HNil.out (by simp) HLz.out HS2.out ?_)
  intro v5 w5 hown hgr
  have hb5 : Below (rb + 1) w1 w5 := below_grew ((Below.refl _ _).alloc HS1.out _) hgr (fun q hq => by have := (HO2.out.ownBlock q hq).1; omega) HS2.out
  obtain ⟨a9, c9, he9, -⟩ := hown.shape
  obtain ⟨n9, hn9⟩ : ∃ n9, (l.take 40).length = n9 := ⟨_, rfl⟩
  rw [hn9] at he9
  subst he9
  have hq := HR1.out.below hb5 (Nat.lt_succ_self rb)
  have HO9 : Hid (OwnC .i32 52 (rb + 1) (.slice a9 n9 c9) (l.take 40) w5) := Lib.hid hown
  have HB9 : Hid (Below rb w w5) := Lib.hid (HB1.out.trans (hb5.mono (by omega)))
  have x0 := hq.c0
  have x1 := hq.c1
  have f0 := hq.fr 0
  have f1 := hq.fr 1
  clear hown hgr hb5 hn9 hq
  go_wp2_with fail
  refine bodyPost_ret (v := .agg #[.slice a9 n9 c9, .bool wr0]) (by rw [results_cell (fn := Try.f40) rfl]; go_simp <;> rfl) rfl ?_
  rw [← HP.out]
  exact ⟨_, rfl, (HO9.out.set2 (Nat.lt_succ_self rb) _ _).weaken (by omega), below_set2 HB9.out (Nat.le_refl _)⟩
end Go.Proofs.Ytjlljkdlgkociaa.K
