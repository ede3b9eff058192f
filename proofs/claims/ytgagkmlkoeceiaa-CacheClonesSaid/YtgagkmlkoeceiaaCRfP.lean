/- The document's cache: Put. -/
import Derived.Test.YtgagkmlkoeceiaaCRfN
namespace Go.Proofs.Ytgagkmlkoeceiaa.C
open Go.RowKit Go.Maps Go.Proofs.Ytgagkmlkoeceiaa.H

theorem rc_stored {r : Nat} {w : World} {z0 z1 : Value} (v0 v1 : Value) (h : w.heap[r]? = some (.cells #[z0, z1] 28 (0, 0))) : ((w.setCell ⟨r, 0, none⟩ v0).setCell ⟨r, 1, none⟩ v1).heap[r]? = some (.cells #[v0, v1] 28 (0, 0)) := by simp [World.setCell, Array.getElem?_modify, h]
theorem two_set {W w : World} {r : Nat} (v0 v1 : Value) (h : Below W.heap.size W w) (hr : W.heap.size ≤ r) : Below W.heap.size W ((w.setCell ⟨r, 0, none⟩ v0).setCell ⟨r, 1, none⟩ v1) := (h.setCell (p := ⟨r, 0, none⟩) hr _).setCell (p := ⟨r, 1, none⟩) hr _
theorem two_other {w : World} {r q : Nat} (v0 v1 : Value) (h : q ≠ r) : ((w.setCell ⟨r, 0, none⟩ v0).setCell ⟨r, 1, none⟩ v1).heap[q]? = w.heap[q]? := (Below.heap_setCell _ _ _ q h).trans (Below.heap_setCell _ _ _ q h)
theorem RefC.apart {M : List Nat} {X : Value} {x : Ca} {w w' : World} {r : Nat} (h : RefC M X x w) (hb : Below w.heap.size w w') (hr : w.heap.size ≤ r) : RefC (r :: M) X x w' :=
  h.moved hb.size (fun p _ hp => hb.block p hp) (fun p h1 h2 h3 => by
    rcases List.mem_cons.1 h3 with rfl | h3
    · omega
    · exact h1 h3)
theorem RefC.fewer {M : List Nat} {X : Value} {x : Ca} {w : World} {r : Nat} (h : RefC (r :: M) X x w) : RefC M X x w :=
  h.moved (Nat.le_refl _) (fun _ _ _ => rfl) (fun p h1 _ h3 => h1 (List.mem_cons_of_mem _ h3))
theorem RefC.set2 {M : List Nat} {X : Value} {x : Ca} {w : World} {r : Nat} (v0 v1 : Value) (h : RefC (r :: M) X x w) : RefC M X x ((w.setCell ⟨r, 0, none⟩ v0).setCell ⟨r, 1, none⟩ v1) :=
  h.moved (by simp) (fun p h1 _ => two_other v0 v1 (fun e => h1 (by rw [e]; simp))) (fun p h1 _ h3 => h1 (List.mem_cons_of_mem _ h3))
theorem EvsIn.tail {b off n c : Nat} {es : List Ev} {w : World} (h : EvsIn (some ⟨b, off, none⟩) n c es w) (hn : 1 ≤ n) : EvsIn (some ⟨b, off + 2, none⟩) (n - 1) (c - 1) es.tail w := by
  have h1 := h.len
  have h2 := h.fit
  have h3 := h.top
  refine ⟨by rw [List.length_tail, h1], by omega, by omega, (fun e => by cases e), ?_⟩
  rcases h.at_ with e | ⟨b', off', ha, hl, hi⟩
  · exact .inl (by rw [e]; rfl)
  · cases ha
    refine .inr ⟨b, off + 2, rfl, hl, fun i e he => ?_⟩
    rw [List.getElem?_tail] at he
    have h9 := hi (i + 1) e he
    rw [show off + 2 + i * 2 = off + (i + 1) * 2 by omega]
    exact h9
def PtS (w4 w4b : World) : Nat → (Nat → Value) → World → Prop
  | 0, _, u => EqD w4 u
  | _, _, u => EqD w4b u
theorem PtS.cong {w4 w4b : World} {k : Nat} {f f2 : Nat → Value} {u : World} (h : PtS w4 w4b k f u) : PtS w4 w4b k f2 u := by
  match k, h with
  | 0, h => exact h
  | _ + 1, h => exact h
/-- what Put's last reads find -/
def PtC (s4 mo eb eo kn c3 : Nat) (z0 : Int) (u : World) : Prop := u.cell? ⟨s4, 0, none⟩ = some (.int .i64 (mo : Int)) ∧ u.cell? ⟨s4, 1, none⟩ = some (.slice (some ⟨eb, eo, none⟩) kn c3) ∧ u.cell? ⟨eb, eo, none⟩ = some (.int .i64 z0)
theorem PtE {s4 mo eb eo kn c3 : Nat} {z0 : Int} {w4 w4b : World} {k : Nat} {f : Nat → Value} {u : World} (h : PtC s4 mo eb eo kn c3 z0 w4 ∧ PtC s4 mo eb eo kn c3 z0 w4b) (hs : PtS w4 w4b k f u) : PtC s4 mo eb eo kn c3 z0 u := by
  match k, hs with
  | 0, hs =>
    have hs : EqD w4 u := hs
    exact ⟨(hs.cell _).trans h.1.1, (hs.cell _).trans h.1.2.1, (hs.cell _).trans h.1.2.2⟩
  | _ + 1, hs =>
    have hs : EqD w4b u := hs
    exact ⟨(hs.cell _).trans h.2.1, (hs.cell _).trans h.2.2.1, (hs.cell _).trans h.2.2.2⟩
def PtOk6 (s4 mo eb eo kn c3 : Nat) (z0 : Int) : Nat → Value → World → Prop
  | 0, u, _ => u = .pointer (some ⟨s4, 0, none⟩)
  | 1, u, _ => u = .int .i64 (mo : Int)
  | 2, u, _ => u = .pointer (some ⟨s4, 1, none⟩)
  | 3, u, _ => u = .slice (some ⟨eb, eo, none⟩) kn c3
  | 4, u, _ => u = .slice (some ⟨eb, eo + 2, none⟩) (kn - 1) (c3 - 1)
  | 5, u, _ => u = .agg #[.int .i64 (mo : Int), .slice (some ⟨eb, eo + 2, none⟩) (kn - 1) (c3 - 1)]
  | 6, u, _ => u = .pointer (some ⟨s4, 1, none⟩)
  | 7, u, _ => u = .slice (some ⟨eb, eo, none⟩) kn c3
  | 8, u, _ => u = .pointer (some ⟨eb, eo, none⟩)
  | 9, u, _ => u = .pointer (some ⟨eb, eo, none⟩)
  | 10, u, _ => u = .int .i64 z0
  | 11, _, _ => True
  | 12, u, _ => u = .int .i64 z0
  | 13, u, _ => u = .bool true
  | _, _, _ => True
def RPutPost (M : List Nat) (x : Ca) (i : Int) (g : List (Int × Int)) (w : World) (r : Ending) (w' : World) : Prop := ∃ X', r = .returned (.tuple #[X', .int .i64 (putC x i g).2.1, .bool (putC x i g).2.2]) ∧ RefC M X' (putC x i g).1 w' ∧ Below w.heap.size w w'
set_option maxRecDepth 100000 in
set_option maxHeartbeats 8000000 in
theorem rput_any (M : List Nat) (X : Value) (x : Ca) (i : Int) (la : Option Addr) (ln lc : Nat) (g : List (Int × Int)) (w : World) (h : RefC M X x w) (hM : ∀ p ∈ M, p < w.heap.size) (hg : PairsIn .i64 la ln lc g w) (hgp : ∀ p o, la = some ⟨p, o, none⟩ → p ∉ M ∧ p < w.heap.size) (hl : x.L.length ≤ 100000) (hmo : 1 ≤ x.most) :
    Calls Try.prog 15 #[X, .int .i64 i, .slice la ln lc] w (RPutPost M x i g w) := by
  obtain ⟨P, hP⟩ : ∃ P, RPutPost M x i g w = P := ⟨_, rfl⟩
  rw [hP]
  have HP := Lib.hid hP
  have hcopy := h
  obtain ⟨a, n, c, es0, rfl, -⟩ := hcopy
  obtain ⟨mo, hm⟩ : ∃ mo, x.most = mo := ⟨_, rfl⟩
  rw [hm] at h hmo ⊢
  obtain ⟨p, hp⟩ : ∃ p, p = w.heap.size := ⟨_, rfl⟩
  obtain ⟨w1, hw1⟩ : ∃ w1, w1 = w.alloc (.cells #[.int .i64 (mo : Int), .slice a n c] 28) := ⟨_, rfl⟩
  obtain ⟨w2, hw2⟩ : ∃ w2, w2 = w1.alloc (.cells #[.int .i64 0, .slice none 0 0] 28) := ⟨_, rfl⟩
  have hs1 : w1.heap.size = p + 1 := by rw [hw1, World.size_alloc, hp]
  have hs2 : w2.heap.size = p + 2 := by rw [hw2, World.size_alloc, hs1]
  have ha1 : w1.heap[p]? = some (.cells #[.int .i64 (mo : Int), .slice a n c] 28 (0, 0)) := by rw [hw1, hp]; exact heap_alloc_new w _
  obtain ⟨r, hr0⟩ : ∃ r, r = p + 1 := ⟨_, rfl⟩
  have hr : w2.heap[r]? = some (.cells #[.int .i64 0, .slice none 0 0] 28 (0, 0)) := by rw [hw2, hr0, ← hs1]; exact heap_alloc_new w1 _
  have b1 : Below w.heap.size w w1 := by rw [hw1]; exact alloc_below _ _
  have b2 : Below w1.heap.size w1 w2 := by rw [hw2]; exact alloc_below _ _
  have hbB : Below w.heap.size w w2 := b1.trans (b2.mono b1.size)
  have hap : w2.heap[p]? = some (.cells #[.int .i64 (mo : Int), .slice a n c] 28 (0, 0)) := (b2.block p (by omega)).trans ha1
  have HR2 : Hid (RefC (r :: M) (.agg #[.int .i64 (mo : Int), .slice a n c]) x w2) := Lib.hid (h.apart hbB (by omega))
  have HW : Hid ((w.alloc (.cells #[.int .i64 (mo : Int), .slice a n c] 28)).alloc (.cells #[.int .i64 0, .slice none 0 0] 28) = w2) := Lib.hid (by rw [hw2, hw1])
  have HPp := Lib.hid hp
  have HSz : Hid (w.heap.size + 1 = r) := Lib.hid (by omega)
  have HSr : Hid (w.heap.size ≤ r ∧ r < w2.heap.size ∧ (∀ p ∈ M, p < w.heap.size) ∧ x.most = mo) := Lib.hid ⟨by omega, by omega, hM, hm⟩
  have HX2 := Lib.hid hr
  have HB2 := Lib.hid hbB
  have c0 : w2.cell? ⟨p, 0, none⟩ = some (.int .i64 (mo : Int)) := by rw [cell_block hap]; rfl
  have c1 : w2.cell? ⟨p, 1, none⟩ = some (.slice a n c) := by rw [cell_block hap]; rfl
  have f0 : w2.frozen? ⟨r, 0, none⟩ = false := frozen_block hr 0
  have r0 : w2.cell? ⟨r, 0, none⟩ = some (.int .i64 0) := by rw [cell_block hr]; rfl
  have HG : Hid (PairsIn .i64 la ln lc g w2 ∧ ∀ p o, la = some ⟨p, o, none⟩ → p ∉ r :: M ∧ p < w2.heap.size) := Lib.hid ⟨hg.belowAll hbB, fun p o e => ⟨fun hm => by
    have h9 := hgp p o e
    rcases List.mem_cons.1 hm with rfl | hm
    · omega
    · exact h9.1 hm, Nat.lt_of_lt_of_le (hgp p o e).2 hbB.size⟩⟩
  have hzC := zeroRC
  clear hP h hm hp hw1 hw2 hs1 hs2 ha1 b1 b2 hbB hap hg hgp hM hr0
  go_enter Try.func15, Try.ntmps15
  go_upto_region 1 with fail
  rw [HW.out, HSz.out, ← HPp.out]
  clear HW HPp HSz
  by_cases hbad : i < 0 ∨ 1152921504606846976 < i
  · have hz1 : (w2.setCell ⟨r, 0, none⟩ (.int .i64 (mo : Int))).heap[r]? = some (.cells #[.int .i64 (mo : Int), .slice none 0 0] 28 (0, 0)) := by simp [World.setCell, Array.getElem?_modify, hr]
    have f1 : (w2.setCell ⟨r, 0, none⟩ (.int .i64 (mo : Int))).frozen? ⟨r, 1, none⟩ = false := frozen_block hz1 1
    have r1 : (w2.setCell ⟨r, 0, none⟩ (.int .i64 (mo : Int))).cell? ⟨r, 1, none⟩ = some (.slice none 0 0) := by rw [cell_block hz1]; rfl
    obtain ⟨w9, hw9⟩ : ∃ w9, (w2.setCell ⟨r, 0, none⟩ (.int .i64 (mo : Int))).setCell ⟨r, 1, none⟩ (.slice a n c) = w9 := ⟨_, rfl⟩
    have hx9 : w9.heap[r]? = some (.cells #[.int .i64 (mo : Int), .slice a n c] 28 (0, 0)) := by rw [← hw9]; exact rc_stored _ _ hr
    have hend : Hid (P (.returned (.tuple #[.agg #[.int .i64 (mo : Int), .slice a n c], .int .i64 0, .bool false])) w9) := Lib.hid (by
      rw [← HP.out]
      have e1 : putC x i g = (x, 0, false) := by unfold putC; rw [if_pos hbad]
      unfold RPutPost
      rw [e1]
      refine ⟨_, rfl, ?_, ?_⟩
      · rw [← hw9]
        exact HR2.out.set2 _ _
      · rw [← hw9]
        exact two_set _ _ HB2.out HSr.out.1)
    have HX9 := Lib.hid hx9
    have HW9 := Lib.hid hw9
    have k0 : w9.cell? ⟨r, 0, none⟩ = some (.int .i64 (mo : Int)) := by rw [cell_block hx9]; rfl
    have k1 : w9.cell? ⟨r, 1, none⟩ = some (.slice a n c) := by rw [cell_block hx9]; rfl
    clear hr hz1 hw9 hx9 HR2 HG HX2
    rcases Int.lt_or_le i 0 with hneg | hpos
    · clear hbad
      go_wp2_with fail
      rw [HW9.out]
      refine bodyPost_ret (v := .tuple #[.agg #[.int .i64 (mo : Int), .slice a n c], .int .i64 0, .bool false]) (by rw [results_ctt rfl]; go_simp) rfl ?_
      exact hend.out
    · have hbig : 1152921504606846976 < i := hbad.resolve_left (by omega)
      clear hbad
      go_wp2_with fail
      rw [HW9.out]
      refine bodyPost_ret (v := .tuple #[.agg #[.int .i64 (mo : Int), .slice a n c], .int .i64 0, .bool false]) (by rw [results_ctt rfl]; go_simp) rfl ?_
      exact hend.out
  · have hi0 : 0 ≤ i := by omega
    have hi1 : i ≤ 1152921504606846976 := by omega
    have HNw := Lib.hid (rnewest_any (r :: M) _ x i la ln lc g w2 HR2.out (fun q hq => by
      rcases List.mem_cons.1 hq with rfl | hq
      · exact HSr.out.2.1
      · exact Nat.lt_of_lt_of_le (HSr.out.2.2.1 q hq) HB2.out.size) HG.out.1 HG.out.2 hl)
    have HBd := Lib.hid hbad
    clear hbad hr HG HR2 f0 r0
    go_wp2_with fail
    refine HNw.out.mono ?_
    rintro e w3 ⟨X', rfl, hrc, hb3⟩
    obtain ⟨a3, kn, c3, es, rfl, hin, hev, hpt⟩ := hrc
    simp only at hev
    have hmoe : x.most = mo := HSr.out.2.2.2
    rw [hmoe]
    have hK : kn = (dropC x.L i ++ [(i, g)]).length := by rw [hin.len, hev.len]
    obtain ⟨w4, hw4⟩ : ∃ w4, w3.alloc (.cells #[.int .i64 (mo : Int), .slice a3 kn c3] 28) = w4 := ⟨_, rfl⟩
    obtain ⟨s4, hs4⟩ : ∃ s4, w3.heap.size = s4 := ⟨_, rfl⟩
    have hb4 : Below w3.heap.size w3 w4 := by rw [← hw4]; exact alloc_below _ _
    have hx4 : w4.heap[s4]? = some (.cells #[.int .i64 (mo : Int), .slice a3 kn c3] 28 (0, 0)) := by rw [← hw4, ← hs4]; exact heap_alloc_new _ _
    have hxr : w4.heap[r]? = some (.cells #[.int .i64 0, .slice none 0 0] 28 (0, 0)) := ((hb3.trans (hb4.mono hb3.size)).block r HSr.out.2.1).trans HX2.out
    have hB4 : Below w.heap.size w w4 := HB2.out.trans ((hb3.trans (hb4.mono hb3.size)).mono HB2.out.size)
    have hin4 := hin.belowAll hb4
    have hev4 := hev.belowAll hb4
    have hpt4 : ∀ p o, a3 = some ⟨p, o, none⟩ → p ∉ r :: M ∧ p < w3.heap.size := hpt
    have HW4 := Lib.hid hw4
    have HS4 := Lib.hid hs4
    have HXr := Lib.hid hxr
    have HB4 := Lib.hid hB4
    have HIn := Lib.hid hin4
    have HEv := Lib.hid hev4
    have HPt4 := Lib.hid hpt4
    have HKl := Lib.hid hK
    have HB34 := Lib.hid hb4
    have HX4 := Lib.hid hx4
    clear hin hev hpt hb3 hw4 hs4 hb4 hx4 hxr hB4 hin4 hev4 hpt4 hK hmoe HNw
    go_upto_region 4 with fail
    rw [HW4.out, HS4.out]
    clear HW4
    have k0 : w4.cell? ⟨s4, 0, none⟩ = some (.int .i64 (mo : Int)) := by rw [cell_block HX4.out]; rfl
    have k1 : w4.cell? ⟨s4, 1, none⟩ = some (.slice a3 kn c3) := by rw [cell_block HX4.out]; rfl
    have f0 : w4.frozen? ⟨r, 0, none⟩ = false := frozen_block HXr.out 0
    have r0 : w4.cell? ⟨r, 0, none⟩ = some (.int .i64 0) := by rw [cell_block HXr.out]; rfl
    have hz1 : (w4.setCell ⟨r, 0, none⟩ (.int .i64 (mo : Int))).heap[r]? = some (.cells #[.int .i64 (mo : Int), .slice none 0 0] 28 (0, 0)) := by simp [World.setCell, Array.getElem?_modify, HXr.out]
    have f1 : (w4.setCell ⟨r, 0, none⟩ (.int .i64 (mo : Int))).frozen? ⟨r, 1, none⟩ = false := frozen_block hz1 1
    have r1 : (w4.setCell ⟨r, 0, none⟩ (.int .i64 (mo : Int))).cell? ⟨r, 1, none⟩ = some (.slice none 0 0) := by rw [cell_block hz1]; rfl
    clear hz1
    by_cases hfew : kn ≤ mo
    · have hd : decide (kn ≤ mo) = true := decide_eq_true hfew
      obtain ⟨w9, hw9⟩ : ∃ w9, (w4.setCell ⟨r, 0, none⟩ (.int .i64 (mo : Int))).setCell ⟨r, 1, none⟩ (.slice a3 kn c3) = w9 := ⟨_, rfl⟩
      have hx9 : w9.heap[r]? = some (.cells #[.int .i64 (mo : Int), .slice a3 kn c3] 28 (0, 0)) := by rw [← hw9]; exact rc_stored _ _ HXr.out
      have hend : Hid (P (.returned (.tuple #[.agg #[.int .i64 (mo : Int), .slice a3 kn c3], .int .i64 0, .bool false])) w9) := Lib.hid (by
        rw [← HP.out]
        have e1 : putC x i g = (⟨mo, dropC x.L i ++ [(i, g)]⟩, 0, false) := by unfold putC; rw [if_neg HBd.out, if_pos (by rw [← HKl.out, HSr.out.2.2.2]; exact hfew), HSr.out.2.2.2]
        unfold RPutPost
        rw [e1]
        refine ⟨_, rfl, ?_, ?_⟩
        · rw [← hw9]
          exact RefC.set2 (M := M) (r := r) _ _ ⟨a3, kn, c3, es, rfl, HIn.out, HEv.out, fun p o e => ⟨(HPt4.out p o e).1, Nat.lt_of_lt_of_le (HPt4.out p o e).2 HB34.out.size⟩⟩
        · rw [← hw9]
          exact two_set _ _ HB4.out HSr.out.1)
      have HW9 := Lib.hid hw9
      have g0 : w9.cell? ⟨r, 0, none⟩ = some (.int .i64 (mo : Int)) := by rw [cell_block hx9]; rfl
      have g1 : w9.cell? ⟨r, 1, none⟩ = some (.slice a3 kn c3) := by rw [cell_block hx9]; rfl
      clear hw9 hx9
      go_wp2_with fail
      rw [HW9.out]
      refine bodyPost_ret (v := .tuple #[.agg #[.int .i64 (mo : Int), .slice a3 kn c3], .int .i64 0, .bool false]) (by rw [results_ctt rfl]; go_simp) rfl ?_
      exact hend.out
    · have hd : decide (kn ≤ mo) = false := decide_eq_false hfew
      obtain ⟨y0, hy0⟩ : ∃ y0, (dropC x.L i ++ [(i, g)])[0]? = some y0 := ⟨_, List.getElem?_eq_getElem (by rw [← HKl.out]; omega)⟩
      obtain ⟨e0, he0, hv0⟩ := HEv.out.at hy0
      obtain ⟨eb, eo, rfl, hbl, hi⟩ := HIn.out.at_.resolve_left (by intro e9; rw [e9] at he0; cases he0)
      have hi0c := (hi 0 e0 he0).1
      rw [hv0.1] at hi0c
      simp only [Nat.zero_mul, Nat.add_zero] at hi0c
      obtain ⟨z0, hz0⟩ : ∃ z0, y0.1 = z0 := ⟨_, rfl⟩
      rw [hz0] at hi0c
      have hebr : eb ≠ r := fun e9 => (HPt4.out eb eo rfl).1 (by rw [e9]; simp)
      have hes4 : eb ≠ s4 := by have := (HPt4.out eb eo rfl).2; have := HS4.out; omega
      have hsr : s4 ≠ r := fun e9 => by have h9 := HX4.out; rw [e9, HXr.out] at h9; injection h9 with h9; injection h9 with h9; simp at h9
      obtain ⟨w4b, hw4b⟩ : ∃ w4b, (w4.setCell ⟨r, 0, none⟩ (.int .i64 (mo : Int))).setCell ⟨r, 1, none⟩ (.slice (some ⟨eb, eo + 2, none⟩) (kn - 1) (c3 - 1)) = w4b := ⟨_, rfl⟩
      have hqb : ∀ q, q ≠ r → w4b.heap[q]? = w4.heap[q]? := fun q hq => by rw [← hw4b]; exact two_other _ _ hq
      have HPt : Hid (PtC s4 mo eb eo kn c3 z0 w4 ∧ PtC s4 mo eb eo kn c3 z0 w4b) := Lib.hid ⟨⟨k0, k1, hi0c⟩, (World.cell?_of_block (a := ⟨s4, 0, none⟩) (hqb s4 hsr)).trans k0, (World.cell?_of_block (a := ⟨s4, 1, none⟩) (hqb s4 hsr)).trans k1, (World.cell?_of_block (a := ⟨eb, eo, none⟩) (hqb eb hebr)).trans hi0c⟩
      have hfit := HIn.out.fit
      have HK1 : Hid ((1 : Int) ≤ (kn : Int) ∧ (1 : Int) ≤ (c3 : Int) ∧ kn ≤ c3) := Lib.hid ⟨by omega, by omega, hfit⟩
      have HK2 : Hid ((0 : Int) < (kn : Int)) := Lib.hid (by omega)
      have HK3 : Hid (¬ c3 = 1 ∧ 0 < kn ∧ decide (0 < kn) = true) := Lib.hid ⟨by omega, by omega, decide_eq_true (by omega)⟩
      have HW4b := Lib.hid hw4b
      have HHd : Hid (((dropC x.L i ++ [(i, g)]).headD (0, [])).1 = z0) := Lib.hid (by
        cases hd9 : dropC x.L i ++ [(i, g)] with
        | nil => rw [hd9] at hy0; cases hy0
        | cons y ys =>
          rw [hd9] at hy0
          obtain rfl : y = y0 := by simpa using hy0
          exact hz0)
      have HFw : Hid (¬ kn ≤ mo) := Lib.hid hfew
      clear hy0 he0 hv0 hbl hi hi0c hz0 hebr hes4 hsr hw4b hqb hfit hfew k1 f0 r0 f1 r1
      have k1 := HPt.out.1.2.1
      go_upto_region 6 with fail
      clear k0 k1
      refine Go.Proofs.Ytgagkmlkoeceiaa.R.wp_region_due [11] [0, 0, 0, 0, 0, 0, 1, 1, 1, 1, 1, 1, 1, 1] (by kernel_rfl) (PtS w4 w4b) (fun _ _ => True) (PtOk6 s4 mo eb eo kn c3 z0) (by rfl) (by kernel_rfl) (by kernel_rfl) (by kernel_rfl) (by kernel_rfl) ?hcong ?hOk ?hop ?hdone ?h0
      case hcong => exact fun k f f2 u hs hst => PtS.cong hst
      case hOk => intro i u w1 w2 h hr; unfold PtOk6 at h ⊢; split <;> first | exact True.intro | exact h
      case h0 => exact (EqD.refl w4).drew
      case hop =>
        refine ⟨?_, ?_, ?_, ?_, ?_, ?_, ?_, ?_, ?_, ?_, ?_, ?_, ?_, ?_, trivial⟩
        · intro k z v hk hst hag hdep
          refine .inl ⟨rfl, fun K hK => ?_⟩
          have d9 : z.tmps.getD 9 undef = .pointer (some ⟨s4, 0, none⟩) := hag.2.2 9 (by kernel_rfl)
          have e9 := d9
          rw [Array.getD_eq_getD_getElem?] at e9
          have HSt := Lib.hid hst
          clear hdep hag hst
          go_simp
          exact hK _ _ trivial rfl HSt.out
        · intro k z v hk hst hag hdep
          refine .inl ⟨rfl, fun K hK => ?_⟩
          have d29 : z.tmps.getD 29 undef = .pointer (some ⟨s4, 0, none⟩) := hdep { on := 0, ground := .data } (by simp) rfl _ _ rfl rfl
          have e29 := d29
          rw [Array.getD_eq_getD_getElem?] at e29
          have hc9 := PtE HPt.out hst
          have l0 := hc9.1
          clear hc9
          have HSt := Lib.hid hst
          clear hdep hag hst
          go_simp
          exact hK _ _ trivial rfl HSt.out
        · intro k z v hk hst hag hdep
          refine .inl ⟨rfl, fun K hK => ?_⟩
          have d9 : z.tmps.getD 9 undef = .pointer (some ⟨s4, 0, none⟩) := hag.2.2 9 (by kernel_rfl)
          have e9 := d9
          rw [Array.getD_eq_getD_getElem?] at e9
          have HSt := Lib.hid hst
          clear hdep hag hst
          go_simp
          exact hK _ _ trivial rfl HSt.out
        · intro k z v hk hst hag hdep
          refine .inl ⟨rfl, fun K hK => ?_⟩
          have d31 : z.tmps.getD 31 undef = .pointer (some ⟨s4, 1, none⟩) := hdep { on := 2, ground := .data } (by simp) rfl _ _ rfl rfl
          have e31 := d31
          rw [Array.getD_eq_getD_getElem?] at e31
          have hc9 := PtE HPt.out hst
          have l0 := hc9.2.1
          clear hc9
          have HSt := Lib.hid hst
          clear hdep hag hst
          go_simp
          exact hK _ _ trivial rfl HSt.out
        · intro k z v hk hst hag hdep
          refine .inl ⟨rfl, fun K hK => ?_⟩
          have d32 : z.tmps.getD 32 undef = .slice (some ⟨eb, eo, none⟩) kn c3 := hdep { on := 3, ground := .data } (by simp) rfl _ _ rfl rfl
          have e32 := d32
          rw [Array.getD_eq_getD_getElem?] at e32
          obtain ⟨hk1, hk2, hk3⟩ := HK1.out
          have hk4 := HK3.out.1
          have HSt := Lib.hid hst
          clear hdep hag hst
          go_simp
          first | exact hK _ _ trivial rfl HSt.out | (simp only [Nat.zero_mul, Nat.add_zero] at *; exact hK _ _ trivial rfl HSt.out)
        · intro k z v hk hst hag hdep
          refine .inl ⟨rfl, fun K hK => ?_⟩
          have d30 : z.tmps.getD 30 undef = .int .i64 (mo : Int) := hdep { on := 1, ground := .data } (by simp) rfl _ _ rfl rfl
          have e30 := d30
          rw [Array.getD_eq_getD_getElem?] at e30
          have d33 : z.tmps.getD 33 undef = .slice (some ⟨eb, eo + 2, none⟩) (kn - 1) (c3 - 1) := hdep { on := 4, ground := .data } (by simp) rfl _ _ rfl rfl
          have e33 := d33
          rw [Array.getD_eq_getD_getElem?] at e33
          have HSt := Lib.hid hst
          clear hdep hag hst
          go_simp
          exact hK _ _ trivial rfl HSt.out
        · intro k z v hk hst hag hdep
          refine .inl ⟨rfl, fun K hK => ?_⟩
          have d9 : z.tmps.getD 9 undef = .pointer (some ⟨s4, 0, none⟩) := hag.2.2 9 (by kernel_rfl)
          have e9 := d9
          rw [Array.getD_eq_getD_getElem?] at e9
          have HSt := Lib.hid hst
          clear hdep hag hst
          go_simp
          exact hK _ _ trivial rfl HSt.out
        · intro k z v hk hst hag hdep
          refine .inl ⟨rfl, fun K hK => ?_⟩
          have d35 : z.tmps.getD 35 undef = .pointer (some ⟨s4, 1, none⟩) := hdep { on := 6, ground := .data } (by simp) rfl _ _ rfl rfl
          have e35 := d35
          rw [Array.getD_eq_getD_getElem?] at e35
          have hc9 := PtE HPt.out hst
          have l0 := hc9.2.1
          clear hc9
          have HSt := Lib.hid hst
          clear hdep hag hst
          go_simp
          exact hK _ _ trivial rfl HSt.out
        · intro k z v hk hst hag hdep
          refine .inl ⟨rfl, fun K hK => ?_⟩
          have d36 : z.tmps.getD 36 undef = .slice (some ⟨eb, eo, none⟩) kn c3 := hdep { on := 7, ground := .data } (by simp) rfl _ _ rfl rfl
          have e36 := d36
          rw [Array.getD_eq_getD_getElem?] at e36
          have hk2 := HK2.out
          obtain ⟨-, hk4, hk5⟩ := HK3.out
          have HSt := Lib.hid hst
          clear hdep hag hst
          go_simp
          first | exact hK _ _ trivial rfl HSt.out | (simp only [Nat.zero_mul, Nat.add_zero] at *; exact hK _ _ trivial rfl HSt.out)
        · intro k z v hk hst hag hdep
          refine .inl ⟨rfl, fun K hK => ?_⟩
          have d37 : z.tmps.getD 37 undef = .pointer (some ⟨eb, eo, none⟩) := hdep { on := 8, ground := .data } (by simp) rfl _ _ rfl rfl
          have e37 := d37
          rw [Array.getD_eq_getD_getElem?] at e37
          have HSt := Lib.hid hst
          clear hdep hag hst
          go_simp
          exact hK _ _ trivial rfl HSt.out
        · intro k z v hk hst hag hdep
          refine .inl ⟨rfl, fun K hK => ?_⟩
          have d38 : z.tmps.getD 38 undef = .pointer (some ⟨eb, eo, none⟩) := hdep { on := 9, ground := .data } (by simp) rfl _ _ rfl rfl
          have e38 := d38
          rw [Array.getD_eq_getD_getElem?] at e38
          have hc9 := PtE HPt.out hst
          have l0 := hc9.2.2
          clear hc9
          have HSt := Lib.hid hst
          clear hdep hag hst
          go_simp
          exact hK _ _ trivial rfl HSt.out
        · intro z v hst hag hdep
          refine ⟨rfl, fun K hK => ?_⟩
          have d6 : z.tmps.getD 6 undef = .pointer (some ⟨r, 0, none⟩) := hag.2.2 6 (by kernel_rfl)
          have e6 := d6
          rw [Array.getD_eq_getD_getElem?] at e6
          have d34 : z.tmps.getD 34 undef = .agg #[.int .i64 (mo : Int), .slice (some ⟨eb, eo + 2, none⟩) (kn - 1) (c3 - 1)] := hdep { on := 5, ground := .data } (by simp) rfl _ _ rfl rfl
          have e34 := d34
          rw [Array.getD_eq_getD_getElem?] at e34
          have hq : EqD w4 v := hst
          have hz : v.heap[r]? = some (.cells #[.int .i64 0, .slice none 0 0] 28 (0, 0)) := by rw [hq.heap]; exact HXr.out
          have hz1 : (v.setCell ⟨r, 0, none⟩ (.int .i64 (mo : Int))).heap[r]? = some (.cells #[.int .i64 (mo : Int), .slice none 0 0] 28 (0, 0)) := by simp [World.setCell, Array.getElem?_modify, hz]
          have s0 : v.cell? ⟨r, 0, none⟩ = some (.int .i64 0) := by rw [cell_block hz]; rfl
          have s1 : (v.setCell ⟨r, 0, none⟩ (.int .i64 (mo : Int))).cell? ⟨r, 1, none⟩ = some (.slice none 0 0) := by rw [cell_block hz1]; rfl
          have g0 := frozen_block hz 0
          have g1 := frozen_block hz1 1
          have HE : Hid (EqD w4b ((v.setCell ⟨r, 0, none⟩ (.int .i64 (mo : Int))).setCell ⟨r, 1, none⟩ (.slice (some ⟨eb, eo + 2, none⟩) (kn - 1) (c3 - 1)))) := Lib.hid (by rw [← HW4b.out]; exact (hq.set _ _).set _ _)
          clear hdep hag hst hq hz hz1
          go_simp
          exact hK undef _ trivial True.intro HE.out
        · intro k z v hk hst hag hdep
          refine .inl ⟨rfl, fun K hK => ?_⟩
          have d39 : z.tmps.getD 39 undef = .int .i64 z0 := hdep { on := 10, ground := .data } (by simp) rfl _ _ rfl rfl
          have e39 := d39
          rw [Array.getD_eq_getD_getElem?] at e39
          have HSt := Lib.hid hst
          clear hdep hag hst
          go_simp
          exact hK _ _ trivial rfl HSt.out
        · intro k z v hk hst hag hdep
          refine .inl ⟨rfl, fun K hK => ?_⟩
          have HSt := Lib.hid hst
          clear hdep hag hst
          go_simp
          exact hK _ _ trivial rfl HSt.out
      case hdone =>
        intro z w5 hst hag hok
        have hq5 : EqD w4b w5 := hst
        have d7 : z.tmps.getD 7 undef = .int .i64 z0 := hok 12 _ 7 rfl rfl
        have d8 : z.tmps.getD 8 undef = .bool true := hok 13 _ 8 rfl rfl
        have HQ5 := Lib.hid hq5
        clear hst hq5
        obtain ⟨uu, hu, hzz⟩ := Go.Proofs.Ytgagkmlkoeceiaa.R.agree_frame [29, 30, 31, 32, 33, 34, 35, 36, 37, 38, 39, 7, 8] rfl hag
        have e7 := (hu 7).trans d7
        have e8 := (hu 8).trans d8
        subst hzz
        simp only [List.foldl_cons, List.foldl_nil]
        rw [e7, e8]
        clear e7 d7 e8 d8 hu hag hok
        try dsimp only [Exit.then]
        simp only [List.setIfInBounds_toArray, List.set_cons_succ, List.set_cons_zero]
        generalize uu 29 = u29', uu 30 = u30', uu 31 = u31', uu 32 = u32', uu 33 = u33', uu 34 = u34', uu 35 = u35', uu 36 = u36', uu 37 = u37', uu 38 = u38', uu 39 = u39'
        clear uu
        have hx9 : w5.heap[r]? = some (.cells #[.int .i64 (mo : Int), .slice (some ⟨eb, eo + 2, none⟩) (kn - 1) (c3 - 1)] 28 (0, 0)) := by rw [HQ5.out.heap, ← HW4b.out]; exact rc_stored _ _ HXr.out
        have g0 : w5.cell? ⟨r, 0, none⟩ = some (.int .i64 (mo : Int)) := by rw [cell_block hx9]; rfl
        have g1 : w5.cell? ⟨r, 1, none⟩ = some (.slice (some ⟨eb, eo + 2, none⟩) (kn - 1) (c3 - 1)) := by rw [cell_block hx9]; rfl
        clear hx9
        go_wp2_with fail
        refine bodyPost_ret (v := .tuple #[.agg #[.int .i64 (mo : Int), .slice (some ⟨eb, eo + 2, none⟩) (kn - 1) (c3 - 1)], .int .i64 z0, .bool true]) (by rw [results_ctt rfl]; go_simp) rfl ?_
        rw [← HP.out]
        have e1 : putC x i g = (⟨mo, (dropC x.L i ++ [(i, g)]).tail⟩, z0, true) := by unfold putC; rw [if_neg HBd.out, if_neg (by rw [← HKl.out, HSr.out.2.2.2]; exact HFw.out), HSr.out.2.2.2, HHd.out]
        unfold RPutPost
        rw [e1]
        refine ⟨_, rfl, ?_, ?_⟩
        · have hrc : RefC (r :: M) (.agg #[.int .i64 (mo : Int), .slice (some ⟨eb, eo + 2, none⟩) (kn - 1) (c3 - 1)]) ⟨mo, (dropC x.L i ++ [(i, g)]).tail⟩ w4 := by
            refine ⟨_, _, _, es.tail, rfl, HIn.out.tail (by have := HK1.out; omega), HEv.out.tail, fun p o e => ?_⟩
            injection e with e
            injection e with e
            subst e
            exact ⟨(HPt4.out eb eo rfl).1, Nat.lt_of_lt_of_le (HPt4.out eb eo rfl).2 HB34.out.size⟩
          have h9 := hrc.set2 (.int .i64 (mo : Int)) (.slice (some ⟨eb, eo + 2, none⟩) (kn - 1) (c3 - 1))
          rw [HW4b.out] at h9
          exact h9.below HQ5.out.below
        · have h9 := two_set (.int .i64 (mo : Int)) (.slice (some ⟨eb, eo + 2, none⟩) (kn - 1) (c3 - 1)) HB4.out HSr.out.1
          rw [HW4b.out] at h9
          exact h9.trans (HQ5.out.below.mono h9.size)
end Go.Proofs.Ytgagkmlkoeceiaa.C
