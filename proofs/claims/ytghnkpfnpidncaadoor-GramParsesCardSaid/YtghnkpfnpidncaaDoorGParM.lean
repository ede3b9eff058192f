/- What is read without an error is what was written: numbers, lists of numbers, texts; an error stays. -/
import Derived.Test.YtghnkpfnpidncaaDoorGBackM
import Derived.Test.YtghnkpfnpidncaaDoorIRefs
namespace Go.Proofs.YtghnkpfnpidncaaDoor.G
open Go.RowKit Go.Proofs.YtghnkpfnpidncaaDoor.I

theorem numS_stuck (e : Nat) (he : e ≠ 0) : numS [] e = (([], e), 0) := by
  unfold numS firstS scan failS
  simp [he]
theorem numS_inv {l : List UInt8} {e : Nat} (h : e ≠ 0 → l = []) : (numS l e).1.2 ≠ 0 → (numS l e).1.1 = [] := by
  intro h1
  by_cases he : e = 0
  · subst he
    unfold numS at h1 ⊢
    split
    · rename_i h2; rw [if_pos h2] at h1; exact absurd rfl h1
    · unfold failS at h1 ⊢
      split
      · rename_i h2 h3
        rcases h3 with h3 | h3
        · exact absurd rfl h3
        · exact absurd h3 h2
      · rfl
  · rw [h he, numS_stuck e he]
theorem numS_zero {l l' : List UInt8} {e e' v : Nat} (h : numS l e = ((l', e'), v)) (h0 : e' = 0) : e = 0 ∧ l = digs v ++ l' ∧ v ≤ top := by
  unfold numS at h
  split at h
  · rename_i h2
    obtain ⟨⟨v1, sz1, e1⟩, hf⟩ : ∃ q, firstS l = q := ⟨_, rfl⟩
    rw [hf] at h h2
    simp only at h h2
    subst h2
    simp only [Prod.mk.injEq] at h
    obtain ⟨⟨rfl, rfl⟩, rfl⟩ := h
    obtain ⟨h3, h4, _, _⟩ := first_only hf
    exact ⟨h0, by rw [← h3, List.take_append_drop], h4⟩
  · rename_i h2
    unfold failS at h
    split at h
    · rename_i h3
      simp only [Prod.mk.injEq] at h
      obtain ⟨⟨_, rfl⟩, _⟩ := h
      rcases h3 with h3 | h3
      · exact absurd h0 h3
      · exact absurd h3 h2
    · rename_i h3
      simp only [Prod.mk.injEq] at h
      obtain ⟨⟨_, rfl⟩, _⟩ := h
      exact absurd h0 (fun e => h2 e)
theorem rdTake_inv {l : List UInt8} {e : Nat} (h : e ≠ 0 → l = []) : ∀ j, (rdTake j l e).1.2 ≠ 0 → (rdTake j l e).1.1 = []
  | 0 => h
  | j + 1 => numS_inv (rdTake_inv h j)
theorem rdTake_stuck {l : List UInt8} {e er : Nat} {j : Nat} (h : (rdTake j l e).1 = ([], er)) (he : er ≠ 0) : ∀ k, (rdTake (j + k) l e).1 = ([], er)
  | 0 => h
  | k + 1 => by
    show (numS (rdTake (j + k) l e).1.1 (rdTake (j + k) l e).1.2).1 = _
    rw [rdTake_stuck h he k, numS_stuck er he]
theorem rdTake_zero : ∀ (j : Nat) {l l' : List UInt8} {e e' : Nat} {ns : List Nat}, rdTake j l e = ((l', e'), ns) → e' = 0 → e = 0 ∧ l = numsOf (ns.map Int.ofNat) ++ l' ∧ ∀ n ∈ ns, n ≤ top
  | 0, l, l', e, e', ns, h, h0 => by
    simp only [rdTake, Prod.mk.injEq] at h
    obtain ⟨⟨rfl, rfl⟩, rfl⟩ := h
    exact ⟨h0, by simp [numsOf], fun n hn => by cases hn⟩
  | j + 1, l, l', e, e', ns, h, h0 => by
    obtain ⟨⟨⟨l1, e1⟩, ms⟩, hj⟩ : ∃ q, rdTake j l e = q := ⟨_, rfl⟩
    obtain ⟨⟨⟨l2, e2⟩, v⟩, hn⟩ : ∃ q, numS l1 e1 = q := ⟨_, rfl⟩
    simp only [rdTake, hj, hn, Prod.mk.injEq] at h
    obtain ⟨⟨rfl, rfl⟩, rfl⟩ := h
    obtain ⟨h1, h2, h3⟩ := numS_zero hn h0
    obtain ⟨k1, k2, k3⟩ := rdTake_zero j hj h1
    refine ⟨k1, ?_, fun n hn' => ?_⟩
    · have hcl : clipN ((v : Nat) : Int) = v := by unfold clipN; omega
      have hv : numsOf [Int.ofNat v] = digs v := by simp [numsOf, hcl]
      have happ : numsOf ((ms ++ [v]).map Int.ofNat) = numsOf (ms.map Int.ofNat) ++ digs v := by rw [← hv]; simp [numsOf]
      rw [happ, List.append_assoc, ← h2]
      exact k2
    · rcases List.mem_append.1 hn' with h4 | h4
      · exact k3 n h4
      · simp at h4; omega
theorem textS_zero {l l' dl : List UInt8} {e e' : Nat} (h : textS l e = ((l', e'), dl)) (h0 : e' = 0) : e = 0 ∧ l = digs dl.length ++ dl ++ l' := by
  obtain ⟨⟨⟨l1, e1⟩, v⟩, hn⟩ : ∃ q, numS l e = q := ⟨_, rfl⟩
  unfold textS rawS at h
  rw [hn] at h
  simp only at h
  split at h
  · rename_i h2
    unfold failS at h
    split at h
    · rename_i h3
      simp only [Prod.mk.injEq] at h
      obtain ⟨⟨_, rfl⟩, _⟩ := h
      rcases h3 with h3 | h3
      · exact absurd h0 h3
      · cases h3
    · simp only [Prod.mk.injEq] at h
      obtain ⟨⟨_, rfl⟩, _⟩ := h
      cases h0
  · rename_i h2
    simp only [Prod.mk.injEq] at h
    obtain ⟨⟨rfl, rfl⟩, rfl⟩ := h
    obtain ⟨h3, h4, h5⟩ := numS_zero hn h0
    refine ⟨h3, ?_⟩
    have hl : (l1.take v).length = v := by rw [List.length_take]; omega
    rw [hl, List.append_assoc, List.take_append_drop]
    exact h4
/-- WHAT IS PARSED IS PACKED: the bytes of a datagram that was read are just that datagram's. -/
theorem pack_of_read {s d : ByteArray} {l l1 l2 l3 l4 l6 l7 dl : List UInt8} {e1 e2 e3 e4 e6 e7 v1 v2 v3 c : Nat} {ns : List Nat} (hse : S.isSealed s.data.toList = true) (hl : S.opened s.data.toList = l) (hn1 : numS l 0 = ((l1, e1), v1)) (hn2 : numS l1 e1 = ((l2, e2), v2)) (hn3 : numS l2 e2 = ((l3, e3), v3))
    (hst : (if 64 < v3 then failS l3 e3 1 else (l3, e3)) = (l4, e4)) (hc : (if 64 < v3 then 0 else v3) = c) (hq : rdTake c l4 e4 = ((l6, e6), ns)) (ht : textS l6 e6 = ((l7, e7), dl))
    (he : endS l7 e7 = 0) (hck : checkS v1 v2 (ns.map Int.ofNat) d.size = 0) (hd : d.data.toList = dl) (hdl : dl.length ≤ 8192) : s.data.toList = packS v1 v2 (ns.map Int.ofNat) d := by
  have he7 : e7 = 0 ∧ l7 = [] := by
    unfold endS at he
    split at he
    · cases he
    · rename_i h
      subst he
      refine ⟨rfl, ?_⟩
      cases l7 with
      | nil => rfl
      | cons x r => exact absurd ⟨rfl, by simp⟩ h
  obtain ⟨h6, k6⟩ := textS_zero ht he7.1
  obtain ⟨h4, k4, b4⟩ := rdTake_zero c hq h6
  have h64 : ¬ 64 < v3 := by
    intro h
    rw [if_pos h] at hst
    unfold failS at hst
    split at hst
    · rename_i h3
      simp only [Prod.mk.injEq] at hst
      rcases h3 with h3 | h3
      · exact h3 (hst.2.trans h4)
      · cases h3
    · simp only [Prod.mk.injEq] at hst
      rw [← hst.2] at h4
      cases h4
  rw [if_neg h64] at hst hc
  simp only [Prod.mk.injEq] at hst
  obtain ⟨rfl, rfl⟩ := hst
  obtain ⟨h3, k3, b3⟩ := numS_zero hn3 h4
  obtain ⟨h2, k2, b2⟩ := numS_zero hn2 h3
  obtain ⟨_, k1, b1⟩ := numS_zero hn1 h2
  have hlen : ns.length = c := by have := rdTake_len c l3 e3; rw [hq] at this; exact this
  have c1 : clipN ((v1 : Nat) : Int) = v1 := by unfold clipN; omega
  have c2 : clipN ((v2 : Nat) : Int) = v2 := by unfold clipN; omega
  have c3 : clipN (((ns.map Int.ofNat).length : Nat) : Int) = v3 := by rw [List.length_map, hlen, ← hc]; unfold clipN; omega
  have c4 : clipN ((d.size : Nat) : Int) = dl.length := by
    have hds : d.size = dl.length := by rw [← hd]; rfl
    rw [hds]
    unfold clipN top
    omega
  rw [pack_ok hck, body_read, c1, c2, c3]
  have hbody : digs v1 ++ (digs v2 ++ (digs v3 ++ (numsOf (ns.map Int.ofNat) ++ textB d))) = l := by
    unfold textB
    rw [c4, hd, k1, k2, k3, k4, k6, he7.2, List.append_nil]
  rw [hbody]
  unfold S.opened at hl
  rw [hse, if_pos rfl] at hl
  unfold S.isSealed at hse
  have hse' := (Bool.and_eq_true _ _).mp hse
  have htl := eq_of_beq hse'.2
  rw [hl] at htl
  rw [htl, ← hl, List.take_append_drop]

/-- The document's In, in a block of its own. -/
def IBlk (p : Nat) (s : ByteArray) (e : Nat) (w : World) : Prop := w.heap[p]? = some (.cells #[.string s, .int .i64 e] 76 (0, 0))
theorem IBlk.lt {p : Nat} {s : ByteArray} {e : Nat} {w : World} (h : IBlk p s e w) : p < w.heap.size := (Array.getElem?_eq_some_iff.1 h).1
theorem IBlk.c0 {p : Nat} {s : ByteArray} {e : Nat} {w : World} (h : IBlk p s e w) : w.cell? ⟨p, 0, none⟩ = some (.string s) := by rw [Lib.cell_of_heap h]; rfl
theorem IBlk.c1 {p : Nat} {s : ByteArray} {e : Nat} {w : World} (h : IBlk p s e w) : w.cell? ⟨p, 1, none⟩ = some (.int .i64 e) := by rw [Lib.cell_of_heap h]; rfl
theorem IBlk.fr {p : Nat} {s : ByteArray} {e : Nat} {w : World} (h : IBlk p s e w) (o : Nat) : w.frozen? ⟨p, o, none⟩ = false := by simp [World.frozen?, show w.heap[p]? = _ from h]
theorem IBlk.set {p : Nat} {s : ByteArray} {e : Nat} {w : World} (h : IBlk p s e w) (s' : ByteArray) (e' : Nat) : IBlk p s' e' ((w.setCell ⟨p, 0, none⟩ (.string s')).setCell ⟨p, 1, none⟩ (.int .i64 e')) := QBlk.setCell (QBlk.setCell h 0 (.string s')) 1 (.int .i64 e')
theorem IBlk.other {p g o : Nat} {s : ByteArray} {e : Nat} {w : World} (h : IBlk p s e w) (hne : p ≠ g) (v : Value) : IBlk p s e (w.setCell ⟨g, o, none⟩ v) := (Below.heap_setCell _ _ _ _ hne).trans h
theorem IBlk.below {p : Nat} {s : ByteArray} {e : Nat} {w w' : World} (h : IBlk p s e w) (hb : Below w.heap.size w w') : IBlk p s e w' := (hb.block p h.lt).trans h
theorem IBlk.grown {p : Nat} {s : ByteArray} {e : Nat} {w w' : World} {row : Option Nat} (h : IBlk p s e w) (hg : w.grownBy w' row) (hne : some p ≠ row) : IBlk p s e w' := (hg.block p h.lt hne).trans h
set_option maxHeartbeats 400000 in
theorem reftext_any (s : ByteArray) (hs : (s.size : Int) ≤ 1000000) (e : Nat) (he : e ≠ 0 → s.data.toList = []) (w : World) :
    Calls Tryd.prog 41 #[inV s e] w (RefS (textS s.data.toList e).2 (textS s.data.toList e).1 w) := by
  obtain ⟨P, hP⟩ : ∃ P, RefS (textS s.data.toList e).2 (textS s.data.toList e).1 w = P := ⟨_, rfl⟩
  rw [hP]
  have HP := Lib.hid hP
  have H1 := Lib.hid (fun u => refread_any s hs e he u)
  have HI := Lib.hid (numS_inv he)
  unfold textS at HP
  obtain ⟨⟨⟨l1, e1⟩, v⟩, hn⟩ : ∃ q, numS s.data.toList e = q := ⟨_, rfl⟩
  rw [hn] at H1 HI HP
  have H2 : Hid (∀ (t : ByteArray) (u : World), t.data.toList = l1 → (t.size : Int) ≤ 1000000 → Calls Tryd.prog 61 #[inV t e1, .int .i64 v] u (RefS (rawS l1 e1 v).2 (rawS l1 e1 v).1 u)) := Lib.hid fun t u ht hz => by
    have h := refraw_any t hz e1 (by rw [ht]; exact HI.out) (v : Int) u
    rw [ht, Int.toNat_natCast] at h
    exact h
  unfold inV at *
  obtain ⟨wZ, hwZ⟩ : ∃ wZ, (w.alloc (.cells #[.string s, .int .i64 e] 76)).alloc (.cells #[.string ⟨#[]⟩, .int .i64 0] 76) = wZ := ⟨_, rfl⟩
  have hbZ : Below w.heap.size w wZ := by rw [← hwZ]; exact ((Below.refl _ _).alloc (Nat.le_refl _) _).alloc (by simp) _
  obtain ⟨B, hB⟩ : ∃ B, w.heap.size = B := ⟨_, rfl⟩
  have hr : IBlk (B + 1) ⟨#[]⟩ 0 wZ := by
    rw [← hwZ, ← hB]
    have := World.alloc_heap_new (w.alloc (.cells #[.string s, .int .i64 e] 76)) (.cells #[.string ⟨#[]⟩, .int .i64 0] 76)
    rwa [World.size_alloc] at this
  have hx : IBlk B s e wZ := by
    rw [← hwZ, ← hB]; unfold IBlk; rw [Below.heap_alloc _ _ _ (by simp)]; exact World.alloc_heap_new _ _
  have b0 := hx.c0
  have b1 := hx.c1
  have HBZ := Lib.hid hbZ
  have HRZ := Lib.hid hr
  have HBe := Lib.hid hB
  clear hP he hn hs hbZ hr hx
  go_enter Tryd.func41, Tryd.ntmps41
  go_wp2_with fail
  refine (H1.out _).mono ?_
  rintro en w1 ⟨t, rfl, htl, hts, hb1⟩
  obtain ⟨X, hX⟩ : ∃ X, w1.heap.size = X := ⟨_, rfl⟩
  obtain ⟨w2, hw2⟩ : ∃ w2, w1.alloc (.cells #[.string t, .int .i64 e1] 76) = w2 := ⟨_, rfl⟩
  have hb2 : Below w1.heap.size w1 w2 := by rw [← hw2]; exact (Below.refl _ _).alloc (Nat.le_refl _) _
  have hx2 : IBlk X t e1 w2 := by rw [← hw2, ← hX]; exact World.alloc_heap_new _ _
  have HR2 := Lib.hid ((HRZ.out.below hb1).below hb2)
  have HB2 := Lib.hid (below_step (below_step HBZ.out hb1) hb2)
  have HCl := Lib.hid (H2.out t w2 htl hts)
  have c0 := hx2.c0
  have c1 := hx2.c1
  clear hb1 hb2 hx2 htl hts hwZ b0 b1
  go_wp2_with fail
  refine HCl.out.mono ?_
  rintro en w3 ⟨s3, t3, rfl, hs3, ht3, hz3, hb3⟩
  unfold inV
  have hr3 := HR2.out.below hb3
  have HB3 := Lib.hid (below_step HB2.out hb3)
  have HS3 := Lib.hid hs3
  have HT3 := Lib.hid ht3
  have HZ3 := Lib.hid hz3
  have HR3 := Lib.hid hr3
  have r0 := hr3.c0
  have r1 := hr3.c1
  have q0 := hr3.fr 0
  have q1 := hr3.fr 1
  clear hr3 hs3 ht3 hz3 hb3 hw2 hX c0 c1 hB
  go_wp2
  (try simp only [Exit.inBlock, Exit.then])
  refine bodyPost_ret (v := .tuple #[.agg #[.string s3, .int .i64 (rawS l1 e1 v).1.2], .string t3]) (by rw [results_cell_tmp rfl]; go_simp) rfl ?_
  rw [← HP.out]
  exact ⟨s3, t3, rfl, HS3.out, HT3.out, HZ3.out, (HB3.out.setCell (p := ⟨B + 1, 0, none⟩) (by rw [HBe.out]; exact Nat.le_succ _) _).setCell (p := ⟨B + 1, 1, none⟩) (by rw [HBe.out]; exact Nat.le_succ _) _⟩
end Go.Proofs.YtghnkpfnpidncaaDoor.G
