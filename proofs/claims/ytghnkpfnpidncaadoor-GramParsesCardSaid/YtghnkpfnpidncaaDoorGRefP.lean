/- The document's Parse of a datagram. -/
import Derived.Test.YtghnkpfnpidncaaDoorGParM
import Derived.Test.YtghnkpfnpidncaaDoorGParse2
namespace Go.Proofs.YtghnkpfnpidncaaDoor.G
open Go.RowKit Go.Proofs.YtghnkpfnpidncaaDoor.I

abbrev XT : TypeId := 24
structure Rs (p g r : Nat) (t : ByteArray) (er : Nat) (a b c d : Value) (w0 W : World) : Prop where
  inb : IBlk p t er W
  blk : QBlk XT g a b c d W
  res : QBlk XT r (.int .i64 0) (.int .i64 0) (.slice none 0 0) (.string ⟨#[]⟩) W
  below : Below w0.heap.size w0 W
  hr : w0.heap.size ≤ r
  hp : r < p
  hg : p < g
theorem Rs.step {p g r : Nat} {t : ByteArray} {er : Nat} {a b c d : Value} {w0 W W' : World} (h : Rs p g r t er a b c d w0 W) (hb : Below W.heap.size W W') : Rs p g r t er a b c d w0 W' :=
  ⟨h.inb.below hb, h.blk.below hb, h.res.below hb, h.below.trans (hb.mono h.below.size), h.hr, h.hp, h.hg⟩
theorem Rs.inn {p g r : Nat} {t : ByteArray} {er : Nat} {a b c d : Value} {w0 W : World} (h : Rs p g r t er a b c d w0 W) (t' : ByteArray) (er' : Nat) : Rs p g r t' er' a b c d w0 ((W.setCell ⟨p, 0, none⟩ (.string t')).setCell ⟨p, 1, none⟩ (.int .i64 er')) := by
  have h1 := h.hr
  have h2 := h.hp
  have h3 := h.hg
  exact ⟨h.inb.set t' er', (h.blk.other (by omega) _).other (by omega) _, (h.res.other (by omega) _).other (by omega) _, (h.below.setCell (p := ⟨p, 0, none⟩) (by show _ ≤ p; omega) _).setCell (p := ⟨p, 1, none⟩) (by show _ ≤ p; omega) _, h1, h2, h3⟩
theorem Rs.set {p g r o : Nat} {t : ByteArray} {er : Nat} {a b c d a' b' c' d' : Value} {w0 W : World} {v : Value} (h : Rs p g r t er a b c d w0 W) (hn : QBlk XT g a' b' c' d' (W.setCell ⟨g, o, none⟩ v)) : Rs p g r t er a' b' c' d' w0 (W.setCell ⟨g, o, none⟩ v) := by
  have h1 := h.hr
  have h2 := h.hp
  have h3 := h.hg
  exact ⟨h.inb.other (by omega) _, hn, h.res.other (by omega) _, h.below.setCell (p := ⟨g, o, none⟩) (by show _ ≤ g; omega) _, h1, h2, h3⟩
theorem Rs.grown {p g r : Nat} {t : ByteArray} {er : Nat} {a b c d : Value} {w0 W W' : World} {row : Option Nat} (h : Rs p g r t er a b c d w0 W) (hg : W.grownBy W' row) (hr : ∀ k, row = some k → g < k) : Rs p g r t er a b c d w0 W' := by
  have h1 := h.hr
  have h2 := h.hp
  have h3 := h.hg
  have hne : ∀ k, k ≤ g → some k ≠ row := fun k hk e => by have := hr k e.symm; omega
  exact ⟨h.inb.grown hg (hne p (by omega)), (hg.block g h.blk.lt (hne g (by omega))).trans h.blk, (hg.block r h.res.lt (hne r (by omega))).trans h.res, h.below.grown hg h.below.size (fun k e => by have := hr k e; omega), h1, h2, h3⟩
def LoopR (p g r : Nat) (v1 v2 : Nat) (l4 : List UInt8) (e4 : Nat) (w : World) (j : Nat) (W : World) : Prop := ∃ a cap t, t.data.toList = (rdTake j l4 e4).1.1 ∧ (t.size : Int) ≤ 1000 ∧ Rs p g r t (rdTake j l4 e4).1.2 (.int .i64 v1) (.int .i64 v2) (.slice a j cap) (.string ⟨#[]⟩) w W ∧
  W.ownsRow (g + 1) 3 1 (.slice a j cap) j ((rdTake j l4 e4).2.map fun n : Nat => Value.int .i64 (n : Int))
def RefPost (E C v1 v2 : Nat) (ns : List Nat) (dl : List UInt8) (w : World) (en : Ending) (w' : World) : Prop := (E ≠ 0 ∧ ParseErr E w en w') ∨ (E = 0 ∧ C ≠ 0 ∧ ParseErr C w en w') ∨ (E = 0 ∧ C = 0 ∧ ParseOk v1 v2 ns dl w en w')

set_option maxRecDepth 100000 in
set_option maxHeartbeats 2000000 in
theorem refparse_any (s : ByteArray) (hs : (s.size : Int) ≤ 1000) (w : World) (hse : S.isSealed s.data.toList = true) (l l1 l2 l3 l4 l6 l7 dl : List UInt8) (e1 e2 e3 e4 e6 e7 v1 v2 v3 c E C : Nat) (ns : List Nat) (hl : S.opened s.data.toList = l) (hn1 : numS l 0 = ((l1, e1), v1)) (hn2 : numS l1 e1 = ((l2, e2), v2)) (hn3 : numS l2 e2 = ((l3, e3), v3))
    (hst : (if 64 < v3 then failS l3 e3 1 else (l3, e3)) = (l4, e4)) (hc : (if 64 < v3 then 0 else v3) = c) (hq : rdTake c l4 e4 = ((l6, e6), ns)) (ht : textS l6 e6 = ((l7, e7), dl))
    (he : endS l7 e7 = E) (hck : checkS v1 v2 (ns.map Int.ofNat) dl.length = C) :
    Calls Tryd.prog 20 #[.string s] w (RefPost E C v1 v2 ns dl w) := by
  obtain ⟨P, hP⟩ : ∃ P, RefPost E C v1 v2 ns dl w = P := ⟨_, rfl⟩
  rw [hP]
  have HP := Lib.hid hP
  obtain ⟨wA, hwA⟩ : ∃ wA, w.alloc (.cells #[.int .i64 0, .int .i64 0, .slice none 0 0, .string ⟨#[]⟩] 24) = wA := ⟨_, rfl⟩
  obtain ⟨r, hr⟩ : ∃ r, w.heap.size = r := ⟨_, rfl⟩
  have hbA : Below w.heap.size w wA := by rw [← hwA]; exact (Below.refl _ _).alloc (Nat.le_refl _) _
  have hrA : QBlk XT r (.int .i64 0) (.int .i64 0) (.slice none 0 0) (.string ⟨#[]⟩) wA := by rw [← hwA, ← hr]; exact World.alloc_heap_new _ _
  have h1 := S.refopen_any s (by omega) wA
  rw [hse, hl] at h1
  have H1 := Lib.hid h1
  have HBA := Lib.hid hbA
  have HRA := Lib.hid hrA
  have HR := Lib.hid hr
  have hsl : l.length ≤ 1000 := by rw [← hl]; unfold S.opened; split <;> simp <;> (have : s.data.toList.length = s.size := rfl; omega)
  have HL := Lib.hid hsl
  have hi1 : e1 ≠ 0 → l1 = [] := by have := numS_inv (l := l) (e := 0) (fun h => absurd rfl h); rw [hn1] at this; exact this
  have hi2 : e2 ≠ 0 → l2 = [] := by have := numS_inv hi1; rw [hn2] at this; exact this
  have hi3 : e3 ≠ 0 → l3 = [] := by have := numS_inv hi2; rw [hn3] at this; exact this
  have hv3 : e3 ≠ 0 → v3 = 0 := by
    intro h3
    have hz : ∀ (m : List UInt8) (e : Nat) (m' : List UInt8) (e' v : Nat), (e ≠ 0 → m = []) → numS m e = ((m', e'), v) → e' ≠ 0 → v = 0 := by
      intro m e m' e' v hm h h0
      by_cases h00 : e = 0
      · subst h00
        unfold numS at h
        split at h
        · simp only [Prod.mk.injEq] at h
          exact absurd h.1.2.symm h0
        · simp only [Prod.mk.injEq] at h
          exact h.2.symm
      · rw [hm h00, numS_stuck e h00] at h
        simp only [Prod.mk.injEq] at h
        exact h.2.symm
    exact hz l2 e2 l3 e3 v3 hi2 hn3 h3
  have HN1 : Hid (∀ (t : ByteArray) (u : World), t.data.toList = l → (t.size : Int) ≤ 1000000 → Calls Tryd.prog 40 #[.agg #[.string t, .int .i64 0]] u fun en w' => ∃ t' : ByteArray, en = .returned (.tuple #[.agg #[.string t', .int .i64 e1], .int .i64 v1]) ∧ t'.data.toList = l1 ∧ (t'.size : Int) ≤ 1000000 ∧ Below u.heap.size u w') := Lib.hid fun t u h1 h2 => by
    have h := refread_any t h2 0 (fun h => absurd rfl h) u
    rw [h1, hn1] at h
    exact h
  have HN2 : Hid (∀ (t : ByteArray) (u : World), t.data.toList = l1 → (t.size : Int) ≤ 1000000 → Calls Tryd.prog 40 #[.agg #[.string t, .int .i64 e1]] u fun en w' => ∃ t' : ByteArray, en = .returned (.tuple #[.agg #[.string t', .int .i64 e2], .int .i64 v2]) ∧ t'.data.toList = l2 ∧ (t'.size : Int) ≤ 1000000 ∧ Below u.heap.size u w') := Lib.hid fun t u h1 h2 => by
    have h := refread_any t h2 e1 (by rw [h1]; exact hi1) u
    rw [h1, hn2] at h
    exact h
  have HN3 : Hid (∀ (t : ByteArray) (u : World), t.data.toList = l2 → (t.size : Int) ≤ 1000000 → Calls Tryd.prog 40 #[.agg #[.string t, .int .i64 e2]] u fun en w' => ∃ t' : ByteArray, en = .returned (.tuple #[.agg #[.string t', .int .i64 e3], .int .i64 v3]) ∧ t'.data.toList = l3 ∧ (t'.size : Int) ≤ 1000000 ∧ Below u.heap.size u w') := Lib.hid fun t u h1 h2 => by
    have h := refread_any t h2 e2 (by rw [h1]; exact hi2) u
    rw [h1, hn3] at h
    exact h
  have HI3 := Lib.hid hi3
  have HQ1 := Lib.hid (And.intro hn1 (And.intro hn2 hn3))
  have HV3 := Lib.hid hv3
  have HSt := Lib.hid hst
  have HC := Lib.hid hc
  have HQ := Lib.hid hq
  have HT := Lib.hid ht
  have HE := Lib.hid he
  have HCk := Lib.hid hck
  clear hP hbA hrA hse hl hn1 hn2 hn3 hst hc hq ht he hck hsl hi1 hi2 hi3 hv3 h1
  go_enter Tryd.func20, Tryd.ntmps20
  go_wp2_with fail
  refine H1.out.mono ?_
  rintro en w2 ⟨t, rfl, htl, hb2⟩
  have hts : (t.size : Int) ≤ 1000000 := by have h : t.size = l.length := by rw [← htl]; rfl
                                            have := HL.out; omega
  obtain ⟨p, hp⟩ : ∃ p, w2.heap.size = p := ⟨_, rfl⟩
  have hR4 : Rs p (p + 1) r t 0 (.int .i64 0) (.int .i64 0) (.slice none 0 0) (.string ⟨#[]⟩) w ((w2.alloc (.cells #[.string t, .int .i64 0] 76)).alloc (.cells #[.int .i64 0, .int .i64 0, .slice none 0 0, .string ⟨#[]⟩] 24)) := by
    have hB2 : Below w.heap.size w w2 := HBA.out.trans (hb2.mono HBA.out.size)
    have hr2 := HRA.out.below hb2
    have hin : IBlk p t 0 (w2.alloc (.cells #[.string t, .int .i64 0] 76)) := by rw [← hp]; exact World.alloc_heap_new _ _
    refine ⟨(Below.heap_alloc _ _ _ hin.lt).trans hin, ?_, (Below.heap_alloc _ _ _ (by simp; have := hr2.lt; omega)).trans ((Below.heap_alloc _ _ _ hr2.lt).trans hr2), (hB2.alloc hB2.size _).alloc (by simp; have := hB2.size; omega) _, Nat.le_of_eq HR.out, by have := hr2.lt; omega, by omega⟩
    have := World.alloc_heap_new (w2.alloc (.cells #[.string t, .int .i64 0] 76)) (.cells #[.int .i64 0, .int .i64 0, .slice none 0 0, .string ⟨#[]⟩] 24)
    rw [World.size_alloc, hp] at this
    exact this
  have HR4 := Lib.hid hR4
  have HCl1 := Lib.hid (HN1.out t ((w2.alloc (.cells #[.string t, .int .i64 0] 76)).alloc (.cells #[.int .i64 0, .int .i64 0, .slice none 0 0, .string ⟨#[]⟩] 24)) htl hts)
  clear hwA hr hb2 htl hts hR4 H1
  go_wp2_with fail
  refine HCl1.out.mono ?_
  rintro en w3 ⟨t1, rfl, htl1, hts1, hb3⟩
  have R3 := HR4.out.step hb3
  obtain ⟨g, hg⟩ : ∃ g, p + 1 = g := ⟨_, rfl⟩
  rw [hg] at R3
  obtain ⟨w4, hw4⟩ : ∃ w4, ((w3.setCell ⟨p, 0, none⟩ (.string t1)).setCell ⟨p, 1, none⟩ (.int .i64 e1)).setCell ⟨g, 0, none⟩ (.int .i64 v1) = w4 := ⟨_, rfl⟩
  have R4 : Rs p g r t1 e1 (.int .i64 v1) (.int .i64 0) (.slice none 0 0) (.string ⟨#[]⟩) w w4 := by rw [← hw4]; exact (R3.inn t1 e1).set ((R3.inn t1 e1).blk.set0 _)
  have c0 := R3.inb.c0
  have c1 := R3.inb.c1
  have f0 := R3.inb.fr 0
  have f1 := R3.inb.fr 1
  have k0 := R3.blk.c0
  have kf0 := R3.blk.fr 0
  have hpg : p ≠ g := by omega
  have HR4' := Lib.hid R4
  have HCl2 := Lib.hid (HN2.out t1 w4 htl1 hts1)
  have d0 := R4.inb.c0
  have d1 := R4.inb.c1
  clear hb3 R3 htl1 hts1 R4 HCl1 HR4 hp
  go_wp2_with fail
  refine HCl2.out.mono ?_
  rintro en w5 ⟨t2, rfl, htl2, hts2, hb5⟩
  have R5 := HR4'.out.step hb5
  obtain ⟨w6, hw6⟩ : ∃ w6, ((w5.setCell ⟨p, 0, none⟩ (.string t2)).setCell ⟨p, 1, none⟩ (.int .i64 e2)).setCell ⟨g, 1, none⟩ (.int .i64 v2) = w6 := ⟨_, rfl⟩
  have R6 : Rs p g r t2 e2 (.int .i64 v1) (.int .i64 v2) (.slice none 0 0) (.string ⟨#[]⟩) w w6 := by rw [← hw6]; exact (R5.inn t2 e2).set ((R5.inn t2 e2).blk.set1 _)
  clear c0 c1 f0 f1 k0 kf0 d0 d1 hw4
  have c0 := R5.inb.c0
  have c1 := R5.inb.c1
  have f0 := R5.inb.fr 0
  have f1 := R5.inb.fr 1
  have k1 := R5.blk.c1
  have kf1 := R5.blk.fr 1
  have HR6 := Lib.hid R6
  have HCl3 := Lib.hid (HN3.out t2 w6 htl2 hts2)
  have d0 := R6.inb.c0
  have d1 := R6.inb.c1
  clear hb5 R5 htl2 hts2 R6 HCl2 HR4'
  go_wp2_with fail
  refine HCl3.out.mono ?_
  rintro en w7 ⟨t3, rfl, htl3, hts3, hb7⟩
  have R7 := HR6.out.step hb7
  obtain ⟨w8, hw8⟩ : ∃ w8, ((w7.setCell ⟨p, 0, none⟩ (.string t3)).setCell ⟨p, 1, none⟩ (.int .i64 e3)) = w8 := ⟨_, rfl⟩
  have R8 : Rs p g r t3 e3 (.int .i64 v1) (.int .i64 v2) (.slice none 0 0) (.string ⟨#[]⟩) w w8 := by rw [← hw8]; exact R7.inn t3 e3
  clear c0 c1 f0 f1 k1 kf1 d0 d1 hw6
  have c0 := R7.inb.c0
  have c1 := R7.inb.c1
  have f0 := R7.inb.fr 0
  have f1 := R7.inb.fr 1
  have HR8 := Lib.hid R8
  have HTl3 := Lib.hid htl3
  have HTz3 : Hid ((t3.size : Int) ≤ 1000) := Lib.hid (by
    have h1 : t3.size = l3.length := by rw [← htl3]; rfl
    have h2 := numS_len l2 e2
    have h3 := numS_len l1 e1
    have h4 := numS_len l 0
    rw [HQ1.out.2.2] at h2
    rw [HQ1.out.2.1] at h3
    rw [HQ1.out.1] at h4
    have h5 := HL.out
    simp only at h2 h3 h4
    omega)
  have d0 := R8.inb.c0
  have d1 := R8.inb.c1
  clear hb7 R7 htl3 hts3 R8 HCl3 HR6 hg
  go_upto_region 12 with fail
  clear hw8 c0 c1 f0 f1
  by_cases h64 : (64 : Int) < v3
  · -- too many numbers
    have he3 : e3 = 0 := by
      by_cases h : e3 = 0
      · exact h
      · have := HV3.out h; omega
    subst he3
    have hE : E = 1 := by
      have h1 := HSt.out
      have h2 := HC.out
      rw [if_pos (by omega)] at h1 h2
      have h4 : [] = l4 ∧ 1 = e4 := by simpa [failS] using h1
      obtain ⟨rfl, rfl⟩ := h4
      subst h2
      have h5 := HQ.out
      simp only [rdTake, Prod.mk.injEq] at h5
      obtain ⟨⟨rfl, rfl⟩, rfl⟩ := h5
      have h6 := HT.out
      unfold textS rawS at h6
      rw [numS_stuck 1 (by decide)] at h6
      simp at h6
      obtain ⟨⟨rfl, rfl⟩, rfl⟩ := h6
      rw [← HE.out]
      rfl
    have r8 := HR8.out.res
    have r0 := r8.c0
    have r1 := r8.c1
    have r2 := r8.c2
    have r3 := r8.c3
    have q0 := r8.fr 0
    have q1 := r8.fr 1
    have q2 := r8.fr 2
    have q3 := r8.fr 3
    have HEe := Lib.hid hE
    clear r8 hE
    go_wp2
    (try simp only [Exit.inBlock, Exit.then])
    refine bodyPost_ret (v := .tuple #[.agg #[.int .i64 0, .int .i64 0, .slice none 0 0, .string ⟨#[]⟩], .int .i64 (1 : Nat)]) (by rw [results_cell_tmp rfl]; go_simp) rfl ?_
    rw [← HP.out]
    exact .inl ⟨by rw [HEe.out]; decide, by rw [HEe.out]; exact ⟨rfl, (((HR8.out.below.setCell (p := ⟨r, 0, none⟩) (Nat.le_of_eq HR.out) _).setCell (p := ⟨r, 1, none⟩) (Nat.le_of_eq HR.out) _).setCell (p := ⟨r, 2, none⟩) (Nat.le_of_eq HR.out) _).setCell (p := ⟨r, 3, none⟩) (Nat.le_of_eq HR.out) _⟩⟩
  · have hst4 : l3 = l4 ∧ e3 = e4 := by
      have h1 := HSt.out
      rw [if_neg (by omega)] at h1
      simpa using h1
    have hc3 : v3 = c := by
      have h2 := HC.out
      rw [if_neg (by omega)] at h2
      exact h2
    obtain ⟨rfl, rfl⟩ := hst4
    subst hc3
    have HI0 : Hid (LoopR p g r v1 v2 l3 e3 w 0 w8) := Lib.hid ⟨none, 0, t3, HTl3.out, HTz3.out, HR8.out, World.ownsRow_nil _ _ _ _⟩
    clear HSt HC
    have hor : ((e3 : Int) == 0) = true ∨ ((e3 : Int) == 0) = false := by cases ((e3 : Int) == 0) <;> simp
    rcases hor with hor | hor
    all_goals
      go_wp2
      clear d0 d1 hor
      go_loopw [9] (fun i wr => ∃ j : Nat, j ≤ v3 ∧ i = .int .i64 j ∧ Hid (LoopR p g r v1 v2 l3 e3 w j wr)) (fun i _ => v3 - (intOf i).toNat)
      case atStart => exact ⟨0, by omega, rfl, HI0⟩
      case round =>
        obtain ⟨j, hj, rfl, hI⟩ := hrel
        obtain ⟨a, cap, t, htl, hts, hRs, hown⟩ := hI.out
        obtain ⟨⟨⟨lj, ej⟩, ms⟩, hrd⟩ : ∃ q, rdTake j l3 e3 = q := ⟨_, rfl⟩
        rw [hrd] at htl hRs hown
        simp only at htl hRs hown
        have c1 := hRs.inb.c1
        by_cases hin : j < v3 ∧ ej = 0
        · obtain ⟨hlt, rfl⟩ := hin
          obtain ⟨⟨⟨l5, e5⟩, v5⟩, hn5⟩ : ∃ q, numS lj 0 = q := ⟨_, rfl⟩
          have hcall := refread_any t (by omega) 0 (fun h => absurd rfl h) wr
          rw [htl, hn5] at hcall
          have HCall := Lib.hid hcall
          have HRs := Lib.hid hRs
          have HOwn := Lib.hid hown
          have HRd := Lib.hid hrd
          have HN5 := Lib.hid hn5
          have c0 := hRs.inb.c0
          obtain ⟨xs, hxs⟩ : ∃ xs, (ms.map fun n : Nat => Value.int .i64 (n : Int)) = xs := ⟨_, rfl⟩
          rw [hxs] at HOwn
          have HXs := Lib.hid hxs
          obtain ⟨i0, hi0, hz0, hz1, hz2⟩ := info_parts infoInt
          unfold inV at HCall
          have HTz := Lib.hid hts
          have HTlj := Lib.hid htl
          clear hI hRs hown hrd hn5 hcall htl hts hxs
          go_wp2_with fail
          refine HCall.out.mono ?_
          rintro en wq ⟨t', rfl, htl', hts', hbq⟩
          have Rq := HRs.out.step hbq
          obtain ⟨wa, hwa⟩ : ∃ wa, (wq.setCell ⟨p, 0, none⟩ (.string t')).setCell ⟨p, 1, none⟩ (.int .i64 e5) = wa := ⟨_, rfl⟩
          have Ra : Rs p g r t' e5 (.int .i64 v1) (.int .i64 v2) (.slice a j cap) (.string ⟨#[]⟩) w wa := by rw [← hwa]; exact Rq.inn t' e5
          have ownq := World.ownsRow.kept HOwn.out (grownBy_of_below hbq) (Classical.em _)
          have hpg1 : p < g + 1 := by have := HRs.out.hg; omega
          have own1 := World.ownsRow.kept ownq (grown_set wq p 0 (.string t')) (.inr (Ne.symm (row_ne (k := p) ownq hpg1)))
          have own2 := World.ownsRow.kept own1 (grown_set (wq.setCell ⟨p, 0, none⟩ (.string t')) p 1 (.int .i64 e5)) (.inr (Ne.symm (row_ne (k := p) own1 hpg1)))
          rw [hwa] at own2
          have HRa := Lib.hid Ra
          have HOwa := Lib.hid own2
          have HTl' := Lib.hid htl'
          have HTs' : Hid ((t'.size : Int) ≤ 1000) := Lib.hid (by
            have h1 : t'.size = l5.length := by rw [← htl']; rfl
            have h2 := numS_len lj 0
            rw [HN5.out] at h2
            have h3 := HTz.out
            have h4 : t.size = lj.length := by rw [← HTlj.out]; rfl
            simp only at h2
            omega)
          have d0 := Rq.inb.c0
          have d1 := Rq.inb.c1
          have f0 := Rq.inb.fr 0
          have f1 := Rq.inb.fr 1
          have k2 := Ra.blk.c2
          have kf2 := Ra.blk.fr 2
          have hszg : g < wa.heap.size := Ra.blk.lt
          have kn : wa.heap.size ≠ g := by omega
          clear htl' hts' hbq Rq Ra ownq own1 own2 c0 c1
          go_wp2_with (at_builtin; refine wpList_append_lies _ rfl _ _ _ rfl (g + 1) 3 i0 _ 1 8 Tryd.underlying22 hi0 hz0 hz1 hz2 rfl (by omega) (.slice a j cap) j xs rfl (HOwa.out.alloc _) ⟨wa.heap.size, 0, none⟩ 1 1 [.int .i64 v5] rfl rfl (World.news_of_block (cs := #[.int .i64 v5]) (t := 3) (fr := (0, 0)) (heap_alloc_new wa _)) (by simp [Value.oneCell']) (by omega) (by unfold maxLen; omega) (by omega) (by simp; omega) (wa.heap.size + 1) (by simp) ?_)
          intro gg cap' w1 hown1 hgrow hat hlt
          have R1 : Rs p g r t' e5 (.int .i64 v1) (.int .i64 v2) (.slice a j cap) (.string ⟨#[]⟩) w w1 := (HRa.out.step ((Below.refl _ _).alloc (Nat.le_refl _) _)).grown hgrow (fun k e => (HOwa.out.lt k e).1)
          obtain ⟨w2, hw2⟩ : ∃ w2, w1.setCell ⟨g, 2, none⟩ (.slice (some ⟨gg, 0, none⟩) (j + 1) cap') = w2 := ⟨_, rfl⟩
          have R2' : Rs p g r t' e5 (.int .i64 v1) (.int .i64 v2) (.slice (some ⟨gg, 0, none⟩) (j + 1) cap') (.string ⟨#[]⟩) w w2 := by rw [← hw2]; exact R1.set (R1.blk.set2 _)
          have own2 := World.ownsRow.kept hown1 (grown_set w1 g 2 (.slice (some ⟨gg, 0, none⟩) (j + 1) cap')) (.inr (Ne.symm (row_ne (k := g) hown1 (by omega))))
          rw [hw2] at own2
          have hrd' : rdTake (j + 1) l3 e3 = ((l5, e5), ms ++ [v5]) := by simp only [rdTake, HRd.out, HN5.out]
          have HI' : Hid (LoopR p g r v1 v2 l3 e3 w (j + 1) w2) := Lib.hid ⟨some ⟨gg, 0, none⟩, cap', t', by rw [hrd']; exact HTl'.out, HTs'.out, by rw [hrd']; exact R2', by rw [hrd', List.map_append, HXs.out]; exact own2⟩
          have m2 := R1.blk.c2
          have mf2 := R1.blk.fr 2
          clear hown1 hgrow hat hlt R1 R2' own2 hrd' d0 d1 f0 f1 k2 kf2 hwa kn
          go_wp2
          go_roundw
          case measure => simp [intOf]; omega
          case rel => exact ⟨j + 1, by omega, by go_num, HI'⟩
        · have hstop : (lj = l6 ∧ ej = e6) ∧ (e6 = 0 → j = v3 ∧ ms = ns) := by
            have hq := HQ.out
            by_cases hjv : j = v3
            · subst hjv
              rw [hrd] at hq
              simp only [Prod.mk.injEq] at hq
              exact ⟨hq.1, fun _ => ⟨rfl, hq.2⟩⟩
            · have hne : ej ≠ 0 := fun h => hin ⟨by omega, h⟩
              have hnil : lj = [] := by
                have h := rdTake_inv HI3.out j
                rw [hrd] at h
                exact h hne
              have h1 := rdTake_stuck (l := l3) (e := e3) (er := ej) (j := j) (by rw [hrd, hnil]) hne (v3 - j)
              rw [show j + (v3 - j) = v3 from by omega, hq] at h1
              simp only [Prod.mk.injEq] at h1
              exact ⟨⟨by rw [hnil, h1.1], h1.2.symm⟩, fun h => absurd (h1.2.symm.trans h) hne⟩
          have hinv : ej ≠ 0 → lj = [] := by
            have h := rdTake_inv HI3.out j
            rw [hrd] at h
            exact h
          have hcase : (decide ((j : Int) < v3) = false ∧ v3 ≤ j) ∨ ((j : Int) < v3 ∧ ((ej : Int) == 0) = false) := by
            by_cases h : (j : Int) < v3
            · refine .inr ⟨h, ?_⟩
              rw [beq_eq_false_iff_ne]
              intro h0
              exact hin ⟨by omega, by omega⟩
            · exact .inl ⟨decide_eq_false h, by omega⟩
          obtain ⟨⟨rfl, rfl⟩, hend⟩ := hstop
          have htx := reftext_any t (by omega) ej (by rw [htl]; exact hinv)
          rw [htl, HT.out] at htx
          have HTx := Lib.hid htx
          have HEnd := Lib.hid hend
          have HRs := Lib.hid hRs
          have HOwn := Lib.hid hown
          have HTz := Lib.hid hts
          have HTlj := Lib.hid htl
          have c0 := hRs.inb.c0
          unfold inV at HTx
          clear hI hRs hown hrd hend hin hinv hts htl htx
          rcases hcase with ⟨hd, hle⟩ | ⟨hlt, hd⟩
          all_goals
            go_wp2_with fail
            refine (HTx.out _).mono ?_
            rintro en w5' ⟨t5, d5, rfl, ht5, hd5, _, hb5⟩
            unfold inV
            have R5 := HRs.out.step hb5
            have own5 := World.ownsRow.kept HOwn.out (grownBy_of_below hb5) (Classical.em _)
            have hpg1 : p < g + 1 := by have := HRs.out.hg; omega
            obtain ⟨w6', hw6⟩ : ∃ w6', ((w5'.setCell ⟨p, 0, none⟩ (.string t5)).setCell ⟨p, 1, none⟩ (.int .i64 e7)).setCell ⟨g, 3, none⟩ (.string d5) = w6' := ⟨_, rfl⟩
            have R6 : Rs p g r t5 e7 (.int .i64 v1) (.int .i64 v2) (.slice a j cap) (.string d5) w w6' := by rw [← hw6]; exact (R5.inn t5 e7).set ((R5.inn t5 e7).blk.set3 _)
            have own6 := World.ownsRow.kept (World.ownsRow.kept (World.ownsRow.kept own5 (grown_set w5' p 0 (.string t5)) (.inr (Ne.symm (row_ne (k := p) own5 hpg1)))) (grown_set (w5'.setCell ⟨p, 0, none⟩ (.string t5)) p 1 (.int .i64 e7)) (.inr (Ne.symm (row_ne (k := p) own5 hpg1)))) (grown_set ((w5'.setCell ⟨p, 0, none⟩ (.string t5)).setCell ⟨p, 1, none⟩ (.int .i64 e7)) g 3 (.string d5)) (.inr (Ne.symm (row_ne (k := g) own5 (by omega))))
            rw [hw6] at own6
            have hcend := refend_any t5 e7 w6'
            rw [ht5] at hcend
            simp only at hcend
            rw [HE.out] at hcend
            have HCe := Lib.hid hcend
            have HR6 := Lib.hid R6
            have HOwn6 := Lib.hid own6
            have HD5 := Lib.hid hd5
            have m0 := R5.inb.c0
            have m1 := R5.inb.c1
            have mf0 := R5.inb.fr 0
            have mf1 := R5.inb.fr 1
            have m3 := R5.blk.c3
            have mf3 := R5.blk.fr 3
            have n0 := R6.inb.c0
            have n1 := R6.inb.c1
            unfold inV at HCe
            clear hb5 R5 R6 own5 own6 hcend hd5 ht5 c0 c1
            go_wp2_with fail
            refine HCe.out.mono ?_
            rintro en w7' ⟨rfl, hb7⟩
            have HR7 := Lib.hid (HR6.out.step hb7)
            have HOwn7 := Lib.hid (World.ownsRow.kept HOwn6.out (grownBy_of_below hb7) (Classical.em _))
            clear hb7 m0 m1 mf0 mf1 m3 mf3 n0 n1 hw6
            by_cases hE0 : E = 0
            · have hz7 : e7 = 0 := by
                have h := HE.out
                rw [hE0] at h
                unfold endS at h
                split at h
                · cases h
                · exact h
              have hz6 := (textS_zero HT.out hz7).1
              obtain ⟨hjv, hmsn⟩ := HEnd.out hz6
              have hnl : ns.length = j := by have := rdTake_len v3 l3 e3; rw [HQ.out] at this; rw [hjv]; exact this
              have hown := HOwn7.out
              rw [hmsn] at hown
              have hnum := nums_of_own' hnl hown
              rw [hnl] at hnum
              have hd5s : d5.size = dl.length := by rw [← HD5.out]; rfl
              have hdle : dl.length ≤ 1000 := by
                have h1 := textS_len lj ej
                rw [HT.out] at h1
                have h2 := HTz.out
                have h3 : t.size = lj.length := by rw [← HTlj.out]; rfl
                simp only at h1
                omega
              have hchk := refcheck_any v1 v2 a j cap d5 (ns.map Int.ofNat) w7' hnum.numsIn (by omega) (by omega)
              rw [hd5s, HCk.out] at hchk
              have HChk := Lib.hid hchk
              have HNum := Lib.hid hnum
              have HNl := Lib.hid hnl
              have HE0 := Lib.hid hE0
              have k0 := HR7.out.blk.c0
              have k1 := HR7.out.blk.c1
              have k2 := HR7.out.blk.c2
              have k3 := HR7.out.blk.c3
              subst hE0
              unfold gramV at HChk
              clear hz7 hz6 hjv hmsn hnl hown hnum hd5s hdle hchk
              go_wp2_with fail
              refine HChk.out.mono ?_
              rintro en w8' ⟨rfl, hb8⟩
              have HR8' := Lib.hid (HR7.out.step hb8)
              have HNum8 := Lib.hid (HNum.out.below hb8)
              have r0 := HR8'.out.res.c0
              have r1 := HR8'.out.res.c1
              have r2 := HR8'.out.res.c2
              have r3 := HR8'.out.res.c3
              have q0 := HR8'.out.res.fr 0
              have q1 := HR8'.out.res.fr 1
              have q2 := HR8'.out.res.fr 2
              have q3 := HR8'.out.res.fr 3
              clear hb8 k0 k1 k2 k3
              by_cases hC0 : C = 0
              · have HC0 := Lib.hid hC0
                have HOwnG : Hid (∀ b off, a = some ⟨b, off, none⟩ → b ≠ r) := Lib.hid (fun b off e => by
                  subst e
                  have h1 := (HOwn7.out.lt b rfl).1
                  have h2 := HR8'.out.hp
                  have h3 := HR8'.out.hg
                  omega)
                subst hC0
                have k0 := HR8'.out.blk.c0
                have k1 := HR8'.out.blk.c1
                have k2 := HR8'.out.blk.c2
                have k3 := HR8'.out.blk.c3
                have hrg : r ≠ g := by have := HR8'.out.hp; have := HR8'.out.hg; omega
                go_wp2
                (try simp only [Exit.inBlock, Exit.then])
                refine bodyPost_ret (v := .tuple #[.agg #[.int .i64 v1, .int .i64 v2, .slice a j cap, .string d5], .int .i64 (0 : Nat)]) (by rw [results_cell_tmp rfl]; go_simp) rfl ?_
                rw [← HP.out]
                have hB := HR8'.out.below
                have hn8 := HNum8.out
                have hrr : w.heap.size ≤ r := HR8'.out.hr
                refine .inr (.inr ⟨rfl, rfl, a, cap, d5, by rw [HNl.out]; rfl, HD5.out, ?_, (((hB.setCell (p := ⟨r, 0, none⟩) hrr _).setCell (p := ⟨r, 1, none⟩) hrr _).setCell (p := ⟨r, 2, none⟩) hrr _).setCell (p := ⟨r, 3, none⟩) hrr _⟩)
                rw [HNl.out]
                exact (((hn8.set HOwnG.out _).set HOwnG.out _).set HOwnG.out _).set HOwnG.out _
              · have hne : ((C : Int) != 0) = true := by rw [bne_iff_ne]; omega
                have HC0 := Lib.hid hC0
                clear hC0
                go_wp2
                (try simp only [Exit.inBlock, Exit.then])
                refine bodyPost_ret (v := .tuple #[.agg #[.int .i64 0, .int .i64 0, .slice none 0 0, .string ⟨#[]⟩], .int .i64 C]) (by rw [results_cell_tmp rfl]; go_simp) rfl ?_
                rw [← HP.out]
                have hB := HR8'.out.below
                have hrr : w.heap.size ≤ r := HR8'.out.hr
                exact .inr (.inl ⟨rfl, HC0.out, rfl, (((hB.setCell (p := ⟨r, 0, none⟩) hrr _).setCell (p := ⟨r, 1, none⟩) hrr _).setCell (p := ⟨r, 2, none⟩) hrr _).setCell (p := ⟨r, 3, none⟩) hrr _⟩)
            · have hne : ((E : Int) != 0) = true := by rw [bne_iff_ne]; omega
              have HE0 := Lib.hid hE0
              have r0 := HR7.out.res.c0
              have r1 := HR7.out.res.c1
              have r2 := HR7.out.res.c2
              have r3 := HR7.out.res.c3
              have q0 := HR7.out.res.fr 0
              have q1 := HR7.out.res.fr 1
              have q2 := HR7.out.res.fr 2
              have q3 := HR7.out.res.fr 3
              clear hE0
              go_wp2
              (try simp only [Exit.inBlock, Exit.then])
              refine bodyPost_ret (v := .tuple #[.agg #[.int .i64 0, .int .i64 0, .slice none 0 0, .string ⟨#[]⟩], .int .i64 E]) (by rw [results_cell_tmp rfl]; go_simp) rfl ?_
              rw [← HP.out]
              have hB := HR7.out.below
              have hrr : w.heap.size ≤ r := HR7.out.hr
              exact .inl ⟨HE0.out, rfl, (((hB.setCell (p := ⟨r, 0, none⟩) hrr _).setCell (p := ⟨r, 1, none⟩) hrr _).setCell (p := ⟨r, 2, none⟩) hrr _).setCell (p := ⟨r, 3, none⟩) hrr _⟩
end Go.Proofs.YtghnkpfnpidncaaDoor.G
