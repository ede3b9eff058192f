/- What is true of all cells stays true of what the calls make; rows that are bounded. -/
import Derived.Test.YtkggmcnocpgnbaaDoorMerged0
import Derived.Test.YtkggmcnocpgnbaaDoorMerged6
import Derived.Lib.QuietBelow
import Derived.BigQuiet
namespace Go.Proofs.YtkggmcnocpgnbaaDoor.K

def AllC (p : Cel → Prop) (l : List Cel) : Prop := ∀ c ∈ l, p c
section
variable {p : Cel → Prop}
theorem all_mendG (hb : ∀ s, p (blk s)) : ∀ (l : List Cel) (q : Bool), AllC p l → AllC p (mendG q l)
  | [], _, _ => fun _ hc => by cases hc
  | c :: t, q, hl => fun d hd => by
    rcases List.mem_cons.1 hd with rfl | hd
    · unfold fixC
      cases badC q c t
      · exact hl c (by simp)
      · exact hb _
    · exact all_mendG hb t _ (fun x hx => hl x (by simp [hx])) d hd
theorem all_mend (hb : ∀ s, p (blk s)) {l : List Cel} (hl : AllC p l) : AllC p (mend l) := all_mendG hb l false hl
theorem all_blanks (hb : ∀ s, p (blk s)) (n : Nat) (s : Int) : AllC p (blanks n s) := fun c hc => by rw [(List.mem_replicate.1 hc).2]; exact hb s
theorem all_append {a b : List Cel} (ha : AllC p a) (h : AllC p b) : AllC p (a ++ b) := fun c hc => by
  rcases List.mem_append.1 hc with hc | hc
  · exact ha c hc
  · exact h c hc
theorem all_take {l : List Cel} (h : AllC p l) (n : Nat) : AllC p (l.take n) := fun c hc => h c (List.mem_of_mem_take hc)
theorem all_drop {l : List Cel} (h : AllC p l) (n : Nat) : AllC p (l.drop n) := fun c hc => h c (List.mem_of_mem_drop hc)
theorem all_set {l : List Cel} (h : AllC p l) (n : Nat) {d : Cel} (hd : p d) : AllC p (l.set n d) := fun c hc => by
  rcases List.mem_or_eq_of_mem_set hc with hc | rfl
  · exact h c hc
  · exact hd
theorem all_put (hb : ∀ s, p (blk s)) {l : List Cel} (hl : AllC p l) (k : Nat) (at_ x s : Int) (hx : ∀ t, p ⟨x, s, t⟩) : AllC p (putS k l at_ x s) := by
  unfold putS
  split
  · exact all_mend hb hl
  · split
    · simp only
      refine all_mend hb ?_
      have h1 := all_set (all_set hl at_.toNat (hx 1)) (at_.toNat + 1) (hx 2)
      split
      · exact all_set h1 _ (hb _)
      · exact h1
    · exact all_mend hb (all_set hl _ (hx 0))
theorem all_erase (hb : ∀ s, p (blk s)) {l : List Cel} (hl : AllC p l) (a b s : Int) : AllC p (eraseS l a b s) := by
  refine all_mend hb (fun c hc => ?_)
  obtain ⟨i, hi, rfl⟩ := List.mem_mapIdx.1 hc
  split
  · exact hb s
  · exact hl _ (List.getElem_mem _)
theorem all_insert (hb : ∀ s, p (blk s)) {l : List Cel} (hl : AllC p l) (at_ n s : Int) : AllC p (insertS l at_ n s) := by
  unfold insertS
  split
  · exact all_mend hb hl
  · exact all_mend hb (all_append (all_append (all_take hl _) (all_blanks hb _ _)) (all_drop (all_take hl _) _))
theorem all_delete (hb : ∀ s, p (blk s)) {l : List Cel} (hl : AllC p l) (at_ n s : Int) : AllC p (deleteS l at_ n s) := by
  unfold deleteS
  split
  · exact all_mend hb hl
  · exact all_mend hb (all_append (all_append (all_take hl _) (all_drop hl _)) (all_blanks hb _ _))
theorem all_fill (hb : ∀ s, p (blk s)) {l : List Cel} (hl : AllC p l) (s : Int) (hf : p ⟨32, s, 3⟩) : AllC p (fillS l s) := by
  unfold fillS
  refine all_mend hb ?_
  split
  · exact fun _ hc => by cases hc
  · exact all_append (all_take hl _) (fun c hc => by
      obtain rfl : c = ⟨32, s, 3⟩ := by simpa using hc
      exact hf)
theorem all_resize (hb : ∀ s, p (blk s)) {r : Ro} (hl : AllC p r.l) (w : Int) : AllC p (resizeS r w).l := by
  unfold resizeS
  split
  · exact hl
  · exact all_mend hb (all_append (all_take hl _) (all_blanks hb _ _))
end
/-- a rune is one of 32 bits -/
def Rng (c : Cel) : Prop := -2147483648 ≤ c.rune ∧ c.rune ≤ 2147483647
theorem rng_blk (s : Int) : Rng (blk s) := ⟨by show (-2147483648 : Int) ≤ 32; decide, by show (32 : Int) ≤ 2147483647; decide⟩
/-- an act of the statements -/
structure ActR where
  kind : Int
  at_ : Int
  n : Int
  style : Int
  rune : Int
/-- the width that is asked for -/
def wideN (n : Int) : Int := if 60 < n ∧ n < 1000 then 60 else n
/-- what an act makes; 'of' says how many columns a rune has -/
def doS (of : Int → Nat) (r : Ro) (a : ActR) : Ro :=
  if a.kind = 0 then ⟨putS (of a.rune) r.l a.at_ a.rune a.style, false⟩
  else if a.kind = 1 then ⟨eraseS r.l a.at_ a.n a.style, false⟩
  else if a.kind = 2 then ⟨insertS r.l a.at_ a.n a.style, false⟩
  else if a.kind = 3 then ⟨deleteS r.l a.at_ a.n a.style, false⟩
  else if a.kind = 4 then ⟨fillS r.l a.style, true⟩
  else resizeS r (wideN a.n)
theorem do_rng {of : Int → Nat} {r : Ro} {a : ActR} (h : AllC Rng r.l) (ha : -2147483648 ≤ a.rune ∧ a.rune ≤ 2147483647) : AllC Rng (doS of r a).l := by
  unfold doS
  split
  · exact all_put rng_blk h _ _ _ _ (fun _ => ha)
  · split
    · exact all_erase rng_blk h _ _ _
    · split
      · exact all_insert rng_blk h _ _ _
      · split
        · exact all_delete rng_blk h _ _ _
        · split
          · exact all_fill rng_blk h _ ⟨by show (-2147483648 : Int) ≤ 32; decide, by show (32 : Int) ≤ 2147483647; decide⟩
          · exact all_resize rng_blk h _
theorem do_len {of : Int → Nat} {r : Ro} {a : ActR} (h : r.l.length ≤ 1000) : (doS of r a).l.length ≤ 1000 := by
  unfold doS
  split
  · rw [put_length]; exact h
  · split
    · rw [erase_length]; exact h
    · split
      · rw [insert_length]; exact h
      · split
        · rw [delete_length]; exact h
        · split
          · rw [fill_length]; exact h
          · rw [resize_length]; exact nearN_le _
end Go.Proofs.YtkggmcnocpgnbaaDoor.K

/- The contract of the statements' Is: a row of the program's and one of the document's. -/
namespace Go.Proofs.YtkggmcnocpgnbaaDoor.K
open Go.RowKit

theorem take_snoc1 {α : Type} (l : List α) (j : Nat) (h : j < l.length) : l.take (j + 1) = l.take j ++ [l[j]] := by
  rw [List.take_add_one, List.getElem?_eq_getElem h]; rfl
set_option maxRecDepth 100000 in
set_option maxHeartbeats 8000000 in
theorem is_any (a1 a2 : Option Addr) (n1 n2 c1 c2 : Nat) (r1 r2 : Bool) (l1 l2 : List Cel) (w : World) (h1 : CelsIn .i32 a1 n1 l1 w) (h2 : CelsIn .i64 a2 n2 l2 w) (hr : AllC Rng l1) (hn : (n1 : Int) ≤ 1000000) (hn2 : (n2 : Int) ≤ 1000000) :
    Calls Tryd.prog 41 #[.agg #[.slice a1 n1 c1, .bool r1], .agg #[.slice a2 n2 c2, .bool r2]] w fun e w' => e = .returned (.bool (decide ((⟨l1, r1⟩ : Ro) = ⟨l2, r2⟩))) ∧ Below w.heap.size w w' := by
  obtain ⟨rb, hrb⟩ : ∃ rb, w.heap.size = rb := ⟨_, rfl⟩
  rw [hrb]
  obtain ⟨D, hD⟩ : ∃ D, decide ((⟨l1, r1⟩ : Ro) = ⟨l2, r2⟩) = D := ⟨_, rfl⟩
  obtain ⟨P, hP⟩ : ∃ P : Ending → World → Prop, (fun e w' => e = .returned (.bool D) ∧ Below rb w w') = P := ⟨_, rfl⟩
  rw [hD, hP]
  have HP := Lib.hid hP
  obtain ⟨w2, hw2⟩ : ∃ w2, (w.alloc (.cells #[.slice a1 n1 c1, .bool r1] 27)).alloc (.cells #[.slice a2 n2 c2, .bool r2] 38) = w2 := ⟨_, rfl⟩
  have hb2 : Below rb w w2 := by rw [← hw2, ← hrb]; exact ((Below.refl _ _).alloc (Nat.le_refl _) _).alloc (by simp) _
  have hq1 : RoB 27 rb (.slice a1 n1 c1) r1 w2 := by rw [← hw2, ← hrb]; exact (RoB.new _ _ _ _).belowAll ((Below.refl _ _).alloc (Nat.le_refl _) _)
  have hq2 : RoB 38 (rb + 1) (.slice a2 n2 c2) r2 w2 := by
    have h := RoB.new 38 (w.alloc (.cells #[.slice a1 n1 c1, .bool r1] 27)) (.slice a2 n2 c2) r2
    rw [World.size_alloc, hrb, hw2] at h
    exact h
  have hsz2 : rb + 2 ≤ w2.heap.size := hq2.lt
  have HB2 := Lib.hid hb2
  have HQ1 := Lib.hid hq1
  have HQ2 := Lib.hid hq2
  have HD := Lib.hid hD
  have HL1 := Lib.hid h1.len
  have HL2 := Lib.hid h2.len
  have H1 := Lib.hid (h1.belowAll (by rw [hrb]; exact hb2))
  have H2 := Lib.hid (h2.belowAll (by rw [hrb]; exact hb2))
  have HRg := Lib.hid hr
  have HW2 := Lib.hid hw2
  have HRb := Lib.hid hrb
  have c0 := hq1.c0
  have c1' := hq1.c1
  have c2' := hq2.c0
  have c3 := hq2.c1
  clear hP hD hb2 hq1 hq2 hw2 hrb h1 h2 hr
  by_cases hnn : n1 = n2
  · subst hnn
    have q1 : ((n1 : Int) != (n1 : Int)) = false := by simp
    by_cases hrr : r1 = r2
    · subst hrr
      have q2 : (r1 != r1) = false := by simp
      have HDe : Hid (decide (l1 = l2) = D) := Lib.hid (by rw [← HD.out]; simp)
      have HSt : Hid (∀ u, Below w2.heap.size w2 u → u.cell? ⟨rb + 1, 0, none⟩ = some (.slice a2 n1 c2)) := Lib.hid (fun u hu => (hu.cell (p := ⟨rb + 1, 0, none⟩) (by show rb + 1 < _; omega)).trans HQ2.out.c0)
      go_enter Tryd.func41, Tryd.ntmps41
      go_upto_region 1 with fail
      rw [HW2.out, HRb.out]
      go_wp2_with fail
      clear c0 c1' c2' c3 q1 q2 hn2
      go_loopw [24] (fun i wr => ∃ j : Nat, i = .int .i64 (j : Int) ∧ j ≤ n1 ∧ rb + 2 ≤ wr.heap.size ∧ Hid (l1.take j = l2.take j ∧ Below w2.heap.size w2 wr)) (fun i _ => n1 - (intOf i).toNat)
      case atStart => exact ⟨0, rfl, by omega, hsz2, Lib.hid ⟨by simp, Below.refl _ _⟩⟩
      case round =>
        obtain ⟨j, rfl, hj, hlw, HF⟩ := hrel
        by_cases hlt : j < n1
        · have hd : decide (j < n1) = true := by simp; omega
          have hj1 : j < l1.length := by rw [← HL1.out]; exact hlt
          have hj2 : j < l2.length := by rw [← HL2.out]; exact hlt
          obtain ⟨b1, o1, rfl, hb1, hA1⟩ := H1.out.at_.resolve_left (by intro e; rw [e] at hj1; simp at hj1)
          obtain ⟨b2, o2, rfl, hb2, hA2⟩ := H2.out.at_.resolve_left (by intro e; rw [e] at hj2; simp at hj2)
          have hat1 := (hA1 j l1[j] (List.getElem?_eq_getElem hj1)).block (HF.out.2.block b1 hb1)
          have hat2 := (hA2 j l2[j] (List.getElem?_eq_getElem hj2)).block (HF.out.2.block b2 hb2)
          have hs1 := take_snoc1 l1 j hj1
          have hs2 := take_snoc1 l2 j hj2
          have hrg := HRg.out l1[j] (List.getElem_mem hj1)
          obtain ⟨k1, hk1⟩ : ∃ k, l1[j] = k := ⟨_, rfl⟩
          obtain ⟨k2, hk2⟩ : ∃ k, l2[j] = k := ⟨_, rfl⟩
          rw [hk1] at hat1 hs1 hrg
          rw [hk2] at hat2 hs2
          obtain ⟨x, s, t⟩ := k1
          obtain ⟨x', s', t'⟩ := k2
          have hwr : IntKind.i64.wrap x = x := by rw [IntKind.wrap_i64]; have h1 := hrg.1; have h2 := hrg.2; simp only at h1 h2; omega
          have x0 := hat1.c0
          have x1 := hat1.c1
          have x2 := hat1.c2
          simp only at x0 x1 x2
          obtain ⟨nb, hnb⟩ : ∃ nb, wr.heap.size = nb := ⟨_, rfl⟩
          obtain ⟨w5, hw5⟩ : ∃ w5, wr.alloc (.cells #[.int .i32 x, .int .i64 s, .int .i64 t] 105) = w5 := ⟨_, rfl⟩
          have hblk5 : w5.heap[nb]? = some (.cells #[.int .i32 x, .int .i64 s, .int .i64 t] 105 (0, 0)) := by rw [← hw5, ← hnb]; exact World.alloc_heap_new _ _
          have hb5 : Below wr.heap.size wr w5 := by rw [← hw5]; exact (Below.refl _ _).alloc (Nat.le_refl _) _
          have e0 : w5.cell? ⟨nb, 0, none⟩ = some (.int .i32 x) := by simp [World.cell?, hblk5]
          have e1 : w5.cell? ⟨nb, 1, none⟩ = some (.int .i64 s) := by simp [World.cell?, hblk5]
          have e2 : w5.cell? ⟨nb, 2, none⟩ = some (.int .i64 t) := by simp [World.cell?, hblk5]
          have hb25 : Below w2.heap.size w2 w5 := HF.out.2.trans (hb5.mono HF.out.2.size)
          have e3 := HSt.out w5 hb25
          have hat5 := hat2.block (hb5.block b2 (Nat.lt_of_lt_of_le hb2 HF.out.2.size))
          have y0 := fun d os => cell_regrown e0 d os
          have y1 := fun d os => cell_regrown e1 d os
          have y2 := fun d os => cell_regrown e2 d os
          have y3 := fun d os => cell_regrown e3 d os
          have z0 := fun d os => cell_regrown hat5.c0 d os
          have z1 := fun d os => cell_regrown hat5.c1 d os
          have z2 := fun d os => cell_regrown hat5.c2 d os
          simp only at z0 z1 z2
          have HB5 := Lib.hid hb25
          have hlw5 : rb + 2 ≤ w5.heap.size := Nat.le_trans hlw hb5.size
          have HS1 := Lib.hid hs1
          have HS2 := Lib.hid hs2
          have HK1 := Lib.hid hk1
          have HK2 := Lib.hid hk2
          have HW5 := Lib.hid hw5
          have HNb := Lib.hid hnb
          have hjn : (j : Int) < n1 := by omega
          clear hA1 hA2 hat1 hat2 hs1 hs2 hk1 hk2 hb1 hb2 hrg hw5 hnb hblk5 hb5 hb25 hat5 e0 e1 e2 e3
          go_upto_region 6 with fail
          rw [HW5.out, HNb.out]
          clear x0 x1 x2
          by_cases hall : x = x' ∧ s = s' ∧ t = t'
          · obtain ⟨rfl, rfl, rfl⟩ := hall
            have HE : Hid (l1.take (j + 1) = l2.take (j + 1)) := Lib.hid (by rw [HS1.out, HS2.out, HF.out.1])
            have p0 : (x != x) = false := by simp
            have p1 : (s != s) = false := by simp
            have p2 : (t != t) = false := by simp
            clear HK1 HK2 HS1 HS2
            refine wp_region_quiet_below (by kernel_rfl) (by kernel_rfl) ?_
            repeat (go_big_quiet_step (fail))
            refine wpQuiet_nil ?_
            intro _ hw'
            obtain ⟨⟨dq, osq⟩, hw''⟩ := hw'
            rw [hw'']
            simp only
            have HB6 := Lib.hid (HB5.out.trans ((below_regrown w5 dq osq).mono HB5.out.size))
            have hlw6 : rb + 2 ≤ (Go.Sort.grow (redrawn w5 dq) osq).heap.size := Nat.le_trans hlw5 (below_regrown w5 dq osq).size
            obtain ⟨w6, hw6⟩ : ∃ w6, Go.Sort.grow (redrawn w5 dq) osq = w6 := ⟨_, rfl⟩
            rw [hw6] at HB6 hlw6 ⊢
            clear hw'' hw6 y0 y1 y2 y3 z0 z1 z2
            go_wp2
            go_roundw
            case rel => exact ⟨j + 1, by go_num, by omega, hlw6, Lib.hid ⟨HE.out, HB6.out⟩⟩
            case measure => simp [intOf]; omega
          · have hne : ¬ l1 = l2 := by
              intro e
              have h3 : l1[j]? = l2[j]? := by rw [e]
              rw [List.getElem?_eq_getElem hj1, List.getElem?_eq_getElem hj2, HK1.out, HK2.out] at h3
              cases h3
              exact hall ⟨rfl, rfl, rfl⟩
            obtain rfl : D = false := by rw [← HDe.out]; simp [hne]
            have hway : (x != x') = true ∨ (x = x' ∧ (s != s') = true) ∨ (x = x' ∧ s = s' ∧ (t != t') = true) := by
              by_cases e1 : x = x'
              · right
                by_cases e2 : s = s'
                · right; exact ⟨e1, e2, by rw [bne_iff_ne]; exact fun e3 => hall ⟨e1, e2, e3⟩⟩
                · left; exact ⟨e1, by rw [bne_iff_ne]; exact e2⟩
              · left; rw [bne_iff_ne]; exact e1
            clear hne hall HK1 HK2 HS1 HS2
            rcases hway with p0 | ⟨rfl, p1⟩ | ⟨rfl, rfl, p2⟩
            case' inr.inl => have p0 : (x != x) = false := by simp
            case' inr.inr =>
              have p0 : (x != x) = false := by simp
              have p1 : (s != s) = false := by simp
            all_goals
              refine wp_region_quiet_below (by kernel_rfl) (by kernel_rfl) ?_
              repeat (go_big_quiet_step (fail))
              refine wpQuiet_nil ?_
              intro _ hw'
              obtain ⟨⟨dq, osq⟩, hw''⟩ := hw'
              rw [hw'']
              simp only
              have HB6 := Lib.hid (HB5.out.trans ((below_regrown w5 dq osq).mono HB5.out.size))
              obtain ⟨w6, hw6⟩ : ∃ w6, Go.Sort.grow (redrawn w5 dq) osq = w6 := ⟨_, rfl⟩
              rw [hw6] at HB6 ⊢
              clear hw'' hw6 y0 y1 y2 y3 z0 z1 z2
              go_wp2
              rw [← HP.out]
              exact ⟨rfl, HB2.out.trans (HB6.out.mono (by omega))⟩
        · obtain rfl : j = n1 := by omega
          have hd : decide ((j : Int) < (j : Int)) = false := by simp
          have he : l1 = l2 := by
            have h := HF.out.1
            rw [List.take_of_length_le (Nat.le_of_eq HL1.out.symm), List.take_of_length_le (Nat.le_of_eq HL2.out.symm)] at h
            exact h
          obtain rfl : D = true := by rw [← HDe.out]; simp [he]
          clear he
          go_wp2
          rw [← HP.out]
          exact ⟨rfl, HB2.out.trans (HF.out.2.mono (by omega))⟩
    · obtain rfl : D = false := by rw [← HD.out]; simp [hrr]
      have hway : (r1 = true ∧ r2 = false) ∨ (r1 = false ∧ r2 = true) := by
        cases r1 <;> cases r2 <;> simp at hrr ⊢
      clear hrr HD
      rcases hway with ⟨rfl, rfl⟩ | ⟨rfl, rfl⟩
      all_goals
        go_enter Tryd.func41, Tryd.ntmps41
        go_upto_region 1 with fail
        rw [HW2.out, HRb.out]
        go_wp2_with fail
        rw [← HP.out]
        exact ⟨rfl, HB2.out⟩
  · obtain rfl : D = false := by
      rw [← HD.out]
      have : ¬ (⟨l1, r1⟩ : Ro) = ⟨l2, r2⟩ := fun e => hnn (by rw [HL1.out, HL2.out]; injection e with e1 e2; rw [e1])
      simp [this]
    have q1 : ((n1 : Int) != (n2 : Int)) = true := by rw [bne_iff_ne]; omega
    clear hnn
    go_enter Tryd.func41, Tryd.ntmps41
    go_upto_region 1 with fail
    rw [HW2.out, HRb.out]
    go_wp2_with fail
    rw [← HP.out]
    exact ⟨rfl, HB2.out⟩
end Go.Proofs.YtkggmcnocpgnbaaDoor.K
