/- NumReads: of any bytes just the document's numbers and texts are taken, and its first error told. No condition. -/
import Derived.Test.YthhaefcglhghfaaRefs
import Derived.Test.YthhaefcglhghfaaActs
namespace Go.Proofs.Ythhaefcglhghfaa
open Go.RowKit

/-- Block B is the document's reader. -/
def XBlk (B : Nat) (s : ByteArray) (e : Nat) (w : World) : Prop := w.heap[B]? = some (.cells #[.string s, .int .i64 e] 41 (0, 0))
theorem XBlk.lt {p : Nat} {s : ByteArray} {e : Nat} {w : World} (h : XBlk p s e w) : p < w.heap.size := (Array.getElem?_eq_some_iff.1 h).1
theorem XBlk.c0 {p : Nat} {s : ByteArray} {e : Nat} {w : World} (h : XBlk p s e w) : w.cell? ⟨p, 0, none⟩ = some (.string s) := by simp [World.cell?, show w.heap[p]? = _ from h]
theorem XBlk.c1 {p : Nat} {s : ByteArray} {e : Nat} {w : World} (h : XBlk p s e w) : w.cell? ⟨p, 1, none⟩ = some (.int .i64 e) := by simp [World.cell?, show w.heap[p]? = _ from h]
theorem XBlk.fr {p : Nat} {s : ByteArray} {e : Nat} {w : World} (h : XBlk p s e w) (o : Nat) : w.frozen? ⟨p, o, none⟩ = false := by simp [World.frozen?, show w.heap[p]? = _ from h]
theorem XBlk.new (w : World) (s : ByteArray) (e : Nat) : XBlk w.heap.size s e (w.alloc (.cells #[.string s, .int .i64 e] 41)) := World.alloc_heap_new ..
theorem XBlk.below {p n : Nat} {s : ByteArray} {e : Nat} {w w' : World} (h : XBlk p s e w) (hb : Below n w w') (hp : p < n) : XBlk p s e w' := (hb.block _ hp).trans h
theorem XBlk.set {p : Nat} {s : ByteArray} {e : Nat} {w : World} (h : XBlk p s e w) (s' : ByteArray) (e' : Nat) : XBlk p s' e' ((w.setCell ⟨p, 0, none⟩ (.string s')).setCell ⟨p, 1, none⟩ (.int .i64 e')) := by
  unfold XBlk at *
  simp [World.setCell, Array.getElem?_modify, h]
theorem rawS_inv (l : List UInt8) (e n : Nat) (h : e ≠ 0 → l = []) : (rawS l e n).1.2 ≠ 0 → (rawS l e n).1.1 = [] := by
  unfold rawS failS
  intro hne
  split
  · split
    · rename_i h1 h2
      rcases h2 with h2 | h2
      · exact h h2
      · cases h2
    · rfl
  · rename_i h1
    rw [if_neg h1] at hne
    rw [h hne]; simp
theorem numS_inv (l : List UInt8) (e : Nat) (h : e ≠ 0 → l = []) : (numS l e).1.2 ≠ 0 → (numS l e).1.1 = [] := by
  unfold numS failS
  intro hne
  split
  · rename_i h1
    rw [if_pos h1] at hne
    rw [h hne]; simp
  · rename_i h1
    rw [if_neg h1] at hne
    split
    · rename_i h2
      rcases h2 with h2 | h2
      · exact h h2
      · exact absurd h2 h1
    · rfl
theorem failS_inv (l : List UInt8) (e er : Nat) (h : e ≠ 0 → l = []) : (failS l e er).2 ≠ 0 → (failS l e er).1 = [] := by
  unfold failS
  intro hne
  split
  · rename_i h1
    rw [if_pos h1] at hne
    exact h hne
  · rfl
theorem textS_inv (l : List UInt8) (e : Nat) (h : e ≠ 0 → l = []) : (textS l e).1.2 ≠ 0 → (textS l e).1.1 = [] := rawS_inv _ _ _ (numS_inv l e h)
theorem and_seven (x : Int) : ∃ er : Nat, bits .and .i64 x 7 = (er : Int) := by
  simp only [bits, BitVec.toNat_and]
  refine ⟨(BitVec.ofInt IntKind.i64.bits x).toNat &&& (BitVec.ofInt IntKind.i64.bits 7).toNat, ?_⟩
  have h : (BitVec.ofInt IntKind.i64.bits x).toNat &&& (BitVec.ofInt IntKind.i64.bits 7).toNat ≤ 7 := Nat.le_trans Nat.and_le_right (by decide)
  rw [IntKind.wrap_i64]
  omega
set_option maxRecDepth 100000 in
theorem reftext_any (s : ByteArray) (hs : (s.size : Int) ≤ 1000000) (e : Nat) (he : e ≠ 0 → s.data.toList = []) (w : World) :
    Calls Try.prog 22 #[inV s e] w (RefS (textS s.data.toList e).2 (textS s.data.toList e).1 w) := by
  have H1 := Lib.hid (refread_any s hs e he ((w.alloc (.cells #[.string s, .int .i64 e] 41)).alloc (.cells #[.string ⟨#[]⟩, .int .i64 0] 41)))
  have HI := Lib.hid (numS_inv s.data.toList e he)
  clear he
  unfold inV at H1 ⊢
  go_enter Try.func22, Try.ntmps22
  go_wp2_with fail
  refine H1.out.mono ?_
  rintro en w1 ⟨t, rfl, ht, hts, hb1⟩
  have hB1 : Below w.heap.size w w1 := (((Below.refl _ _).alloc (Nat.le_refl _) _).alloc (by simp) _).trans (hb1.mono (by simp; omega))
  have hblk : XBlk (w.heap.size + 1) ⟨#[]⟩ 0 w1 := by
    have h := (XBlk.new (w.alloc (.cells #[.string s, .int .i64 e] 41)) ⟨#[]⟩ 0).below hb1 (by simp)
    simpa using h
  have hs1 : w.heap.size + 1 < w1.heap.size := hblk.lt
  have HB1 := Lib.hid hB1
  have HBlk := Lib.hid hblk
  obtain ⟨e1, he1⟩ : ∃ e1, (numS s.data.toList e).1.2 = e1 := ⟨_, rfl⟩
  obtain ⟨n1, hn1⟩ : ∃ n1, (numS s.data.toList e).2 = n1 := ⟨_, rfl⟩
  rw [he1, hn1]
  have HT := Lib.hid ht
  have HE := Lib.hid he1
  have HN := Lib.hid hn1
  clear hb1 hB1 hblk ht he1 hn1
  go_wp2_with fail
  have hinv : e1 ≠ 0 → t.data.toList = [] := by rw [HT.out, ← HE.out]; exact HI.out
  have H2 := refraw_any t hts e1 hinv n1 (w1.alloc (.cells #[.string t, .int .i64 e1] 41))
  have htx : textS s.data.toList e = rawS t.data.toList e1 n1 := by unfold textS; rw [HE.out, HN.out, HT.out]
  rw [Int.toNat_natCast, ← htx] at H2
  obtain ⟨r, hr⟩ : ∃ r, textS s.data.toList e = r := ⟨_, rfl⟩
  rw [hr] at H2 ⊢
  refine H2.mono ?_
  rintro en w2 ⟨t2, t3, rfl, ht2, ht3, ht2s, hb2⟩
  have hB2 : Below w.heap.size w w2 := (HB1.out.alloc HB1.out.size _).trans (hb2.mono (by simp; omega))
  have hblk2 : XBlk (w.heap.size + 1) ⟨#[]⟩ 0 w2 := XBlk.below (n := w1.heap.size) (HBlk.out.below ((Below.refl _ _).alloc (Nat.le_refl _) _) hs1) (hb2.mono (by simp)) hs1
  have c0 := hblk2.c0
  have c1 := hblk2.c1
  have f0 := hblk2.fr 0
  have f1 := hblk2.fr 1
  have HX := Lib.hid hblk2
  have HB2 := Lib.hid hB2
  have HT2 := Lib.hid ht2
  have HT3 := Lib.hid ht3
  unfold inV
  clear hinv htx hB2 hblk2 ht2 ht3 hb2 H2
  have HR := Lib.hid hr
  clear hr
  go_wp2
  (try simp only [Exit.inBlock, Exit.then])
  have HX2 := Lib.hid (HX.out.set t2 r.1.2)
  have ca := HX2.out.c0
  have cb := HX2.out.c1
  refine bodyPost_ret (v := .tuple #[.agg #[.string t2, .int .i64 r.1.2], .string t3]) (by rw [results_cell_tmp rfl]; go_simp) rfl ?_
  rw [HR.out]
  exact ⟨t2, t3, rfl, HT2.out, HT3.out, ht2s, (HB2.out.setCell (by simp) _).setCell (by simp) _⟩

theorem InSt.regrown {p : Nat} {l : List UInt8} {e : Nat} {w : World} (h : InSt p l e w) (d : Nat) (os : Array Obj) : InSt p l e (Go.Sort.grow (redrawn w d) os) := by
  obtain ⟨s, hb, hl, hs⟩ := h
  exact ⟨s, ((below_regrown w d os).block _ hb.lt).trans hb, hl, hs⟩
theorem XBlk.regrown {p : Nat} {s : ByteArray} {e : Nat} {w : World} (h : XBlk p s e w) (d : Nat) (os : Array Obj) : XBlk p s e (Go.Sort.grow (redrawn w d) os) := ((below_regrown w d os).block _ h.lt).trans h
theorem InSt.set {p X o : Nat} {l : List UInt8} {e : Nat} {w : World} (h : InSt p l e w) (hne : p ≠ X) (v : Value) : InSt p l e (w.setCell ⟨X, o, none⟩ v) := by
  obtain ⟨s, hb, hl, hs⟩ := h
  exact ⟨s, (Below.heap_setCell w ⟨X, o, none⟩ v p hne).trans hb, hl, hs⟩
set_option maxRecDepth 100000 in
set_option maxHeartbeats 8000000 in
theorem reads_walk (s : ByteArray) (hs : (s.size : Int) ≤ 9223372036854775807) (a : Option Addr) (len cap : Nat) (al : List ActOf) (w : World)
    (hA : len = 0 ∨ ∃ b off, a = some ⟨b, off, none⟩ ∧ len ≤ al.length ∧ b < w.heap.size ∧ Acts w b off al ∧ (∀ i, (((al.getD i default).text.size : Nat) : Int) ≤ 9223372036854775807)) :
    Calls Try.prog 4 #[.string s, .slice a len cap] w fun e w' => e = .returned (.bool true) ∧ Below w.heap.size w w' := by
  have HA := Lib.hid hA
  clear hA
  go_enter Try.func4, Try.ntmps4
  go_wp2_with fail
  refine (awake_any _).mono ?_
  rintro e w1 ⟨rfl, hb1⟩
  have HB1 := Lib.hid hb1
  clear hb1
  go_wp2_with fail
  refine (cut_any s 80 hs (by decide) _).mono ?_
  rintro e w' ⟨⟨t, rfl, hts, _⟩, rfl⟩
  go_wp2_with fail
  refine (of_any t (by omega) _).mono ?_
  rintro e w2 ⟨rfl, hi2, hw2⟩
  have hs1 := HB1.out.size
  have HB2 : Hid (Below w.heap.size w w2) := Lib.hid (by rw [hw2]; exact HB1.out.alloc hs1 _)
  have HI2 := Lib.hid hi2
  have hs12 : w2.heap.size = w1.heap.size + 1 := by rw [hw2]; simp
  obtain ⟨p, hp⟩ : ∃ p, w1.heap.size = p := ⟨_, rfl⟩
  have hpb : w.heap.size ≤ p := by omega
  rw [hp] at HI2 hs12 ⊢
  have HS12 := Lib.hid hs12
  have hXb' : Hid (w.heap.size ≤ w2.heap.size) := Lib.hid HB2.out.size
  clear hi2 hw2 hp hs12
  go_wp2_with fail
  obtain ⟨X, hX⟩ : ∃ X, w2.heap.size = X := ⟨_, rfl⟩
  have hXb : w.heap.size ≤ X := by have := hXb'.out; omega
  have hpX : p ≠ X := by have := HS12.out; omega
  obtain ⟨w3, hw3⟩ : ∃ w3, w2.alloc (.cells #[.string t, .int .i64 0] 41) = w3 := ⟨_, rfl⟩
  have HF3 : Hid (InSt p t.data.toList 0 w3 ∧ XBlk X t 0 w3 ∧ Below w.heap.size w w3) := Lib.hid (by
    rw [← hw3, ← hX]
    exact ⟨HI2.out.alloc _, XBlk.new _ _ _, HB2.out.alloc HB2.out.size _⟩)
  rw [hw3, hX]
  clear hw3 hX
  rcases HA.out with rfl | ⟨b, off, rfl, hlen, hb, hacts, hsz⟩
  · go_loopw [7] (fun i wr => i = .int .i64 0 ∧ Hid (Below w.heap.size w wr)) (fun _ _ => 0)
    case atStart => exact ⟨rfl, Lib.hid HF3.out.2.2⟩
    case round =>
      obtain ⟨rfl, hF⟩ := hrel
      go_wp2
      go_ret
      exact ⟨rfl, hF.out⟩
  · have HC := Lib.hid hacts
    have HZ := Lib.hid hsz
    clear hacts hsz
    go_loopw [7] (fun i wr => ∃ k : Nat, i = .int .i64 k ∧ (k : Int) ≤ len ∧ (k : Int) ≤ 20 ∧ Hid (∃ xs : ByteArray, ∃ e : Nat, InSt p xs.data.toList e wr ∧ XBlk X xs e wr ∧ (e ≠ 0 → xs.data.toList = []) ∧ (xs.size : Int) ≤ 1000000 ∧ Below w.heap.size w wr)) (fun i _ => 20 - (intOf i).toNat)
    case atStart => exact ⟨0, rfl, by omega, by omega, Lib.hid ⟨t, 0, HF3.out.1, HF3.out.2.1, fun h => absurd rfl h, by omega, HF3.out.2.2⟩⟩
    case round =>
      obtain ⟨k, rfl, hkl, hk20, hF⟩ := hrel
      by_cases hlt : (k : Int) < len ∧ (k : Int) < 20
      · obtain ⟨hlt, hlt2⟩ := hlt
        obtain ⟨xs, e, hi, hx, hinv, hxs, hB⟩ := hF.out
        have hlk : k < al.length := by omega
        obtain ⟨c1, c2, c3⟩ := HC.out k hlk
        obtain ⟨A, hAk⟩ : ∃ A, al.getD k default = A := ⟨_, rfl⟩
        have hAz := HZ.out k
        rw [hAk] at c1 c2 c3 hAz
        have c1 := (hB.cell (p := ⟨b, off + k * 3, none⟩) hb).trans c1
        have c2 := (hB.cell (p := ⟨b, off + k * 3 + 1, none⟩) hb).trans c2
        have c3 := (hB.cell (p := ⟨b, off + k * 3 + 2, none⟩) hb).trans c3
        have HI := Lib.hid hi
        have HX := Lib.hid hx
        have HV := Lib.hid hinv
        have HB := Lib.hid hB
        clear hF hi hx hinv hB hAk
        obtain ⟨kd, an, tx⟩ := A
        have HIa : Hid (InSt p xs.data.toList e (wr.alloc (.cells #[.int .i64 kd, .int .i64 an, .string tx] 28))) := Lib.hid (HI.out.alloc _)
        have HXa : Hid (XBlk X xs e (wr.alloc (.cells #[.int .i64 kd, .int .i64 an, .string tx] 28))) := Lib.hid (HX.out.below ((Below.refl _ _).alloc (Nat.le_refl _) _) HX.out.lt)
        have HBa : Hid (Below w.heap.size w (wr.alloc (.cells #[.int .i64 kd, .int .i64 an, .string tx] 28))) := Lib.hid (HB.out.alloc HB.out.size _)
        have hYp : p ≠ wr.heap.size := by obtain ⟨_, hb', _⟩ := HI.out; have := hb'.lt; omega
        have hXY : X ≠ wr.heap.size := by have := HX.out.lt; omega
        by_cases hk0 : kd = 0
        · subst hk0
          go_wp2_with fail
          refine (innum_any p _ e _ HIa.out).mono ?_
          rintro en w5 ⟨rfl, hi5, hg5⟩
          have hx5 : XBlk X xs e w5 := (hg5.block _ HXa.out.lt (by simpa using fun h => hpX h.symm)).trans HXa.out
          have hB5 : Below w.heap.size w w5 := below_of_grown HBa.out hg5 HBa.out.size hpb
          have x0 := hx5.c0
          have x1 := hx5.c1
          have HI5 := Lib.hid hi5
          have HX5 := Lib.hid hx5
          have HB5 := Lib.hid hB5
          have H2 := refread_any xs hxs e HV.out w5
          obtain ⟨q, hq⟩ : ∃ q, numS xs.data.toList e = q := ⟨_, rfl⟩
          have hqi : q.1.2 ≠ 0 → q.1.1 = [] := by rw [← hq]; exact numS_inv _ _ HV.out
          rw [hq] at H2 HI5 ⊢
          unfold inV at H2
          have H2 := Lib.hid H2
          have HQi := Lib.hid hqi
          clear hi5 hx5 hg5 hB5 hq hqi
          go_wp2_with fail
          refine H2.out.mono ?_
          rintro en w6 ⟨t1, rfl, ht1, ht1s, hb6⟩
          have hx6 : XBlk X xs e w6 := HX5.out.below hb6 HX5.out.lt
          have hi6 : InSt p q.1.1 q.1.2 w6 := by obtain ⟨s', h1, h2, h3⟩ := HI5.out; exact ⟨s', (hb6.block _ h1.lt).trans h1, h2, h3⟩
          have hB6 : Below w.heap.size w w6 := HB5.out.trans (hb6.mono HB5.out.size)
          have y0 := hx6.c0
          have y1 := hx6.c1
          have g0 := hx6.fr 0
          have g1 := hx6.fr 1
          have HI6 := Lib.hid hi6
          have HX6 := Lib.hid hx6
          have HB6 := Lib.hid hB6
          have HT1 := Lib.hid ht1
          clear hx6 hi6 hB6 hb6 ht1 x0 x1
          go_wp2_with fail
          obtain ⟨w7, hw7⟩ : ∃ w7, (w6.setCell ⟨X, 0, none⟩ (.string t1)).setCell ⟨X, 1, none⟩ (.int .i64 q.1.2) = w7 := ⟨_, rfl⟩
          have HX7 : Hid (XBlk X t1 q.1.2 w7) := Lib.hid (by rw [← hw7]; exact HX6.out.set _ _)
          have HI7 : Hid (InSt p q.1.1 q.1.2 w7) := Lib.hid (by rw [← hw7]; exact (HI6.out.set hpX _).set hpX _)
          have HB7 : Hid (Below w.heap.size w w7) := Lib.hid (by rw [← hw7]; exact (HB6.out.setCell hXb _).setCell hXb _)
          rw [hw7]
          obtain ⟨E, hE⟩ : ∃ E, endS (q.1.1) (q.1.2) = E := ⟨_, rfl⟩
          have cL : ∀ d os, Calls Try.prog 26 #[.pointer (some ⟨p, 0, none⟩)] (Go.Sort.grow (redrawn w7 d) os) fun en w'' => en = .returned (.int .i64 (t1.size : Int)) ∧ ∃ p : Regrown, w'' = Go.Sort.grow (redrawn w7 p.d) p.os := fun d os => Calls.regrown_of ((left_any p _ _ _ (HI7.out.regrown d os)).mono fun _ _ ⟨h1, h2⟩ => ⟨by rw [h1, ← HT1.out]; rfl, h2 ▸ Below.refl _ _⟩)
          have cE : ∀ d os, Calls Try.prog 27 #[.pointer (some ⟨p, 0, none⟩)] (Go.Sort.grow (redrawn w7 d) os) fun en w'' => en = .returned (.int .i64 (q.1.2 : Nat)) ∧ ∃ p : Regrown, w'' = Go.Sort.grow (redrawn w7 p.d) p.os := fun d os => Calls.regrown_of ((err_any p _ _ _ (HI7.out.regrown d os)).mono fun _ _ ⟨h1, h2⟩ => ⟨h1, h2 ▸ Below.refl _ _⟩)
          have cN : ∀ d os, Calls Try.prog 28 #[.pointer (some ⟨p, 0, none⟩)] (Go.Sort.grow (redrawn w7 d) os) fun en w'' => en = .returned (.int .i64 (E : Nat)) ∧ ∃ p : Regrown, w'' = Go.Sort.grow (redrawn w7 p.d) p.os := fun d os => Calls.regrown_of ((end_any p _ _ _ (HI7.out.regrown d os)).mono fun _ _ ⟨h1, h2⟩ => ⟨by rw [h1, hE], h2 ▸ Below.refl _ _⟩)
          have cR : ∀ d os, Calls Try.prog 29 #[.agg #[.string t1, .int .i64 (q.1.2 : Nat)]] (Go.Sort.grow (redrawn w7 d) os) fun en w'' => en = .returned (.int .i64 (E : Nat)) ∧ ∃ p : Regrown, w'' = Go.Sort.grow (redrawn w7 p.d) p.os := fun d os => Calls.regrown_of ((refend_any t1 (q.1.2) _).mono fun _ _ ⟨h1, h2⟩ => ⟨by rw [h1, HT1.out, hE], h2⟩)
          have z0 := fun d os => (HX7.out.regrown d os).c0
          have z1 := fun d os => (HX7.out.regrown d os).c1
          have CL := Lib.hid cL
          have CE := Lib.hid cE
          have CN := Lib.hid cN
          have CR := Lib.hid cR
          clear cL cE cN cR hE hw7
          refine wp_region_quiet_below (by kernel_rfl) (by kernel_rfl) ?_
          repeat (go_big_quiet_step (first | exact CL.out _ _ | exact CE.out _ _ | exact CN.out _ _ | exact CR.out _ _))
          refine wpQuiet_nil ?_
          intro _ hw'
          obtain ⟨⟨dq, osq⟩, hw''⟩ := hw'
          subst hw''
          go_wp2
          go_roundw
          case rel => exact ⟨k + 1, by go_num, by omega, by omega, Lib.hid ⟨t1, q.1.2, by rw [HT1.out]; exact HI7.out.regrown _ _, HX7.out.regrown _ _, fun h => HT1.out.trans (HQi.out h), ht1s, HB7.out.trans ((below_regrown _ _ _).mono HB7.out.size)⟩⟩
          case measure => first | omega | (simp [intOf]; omega)
        · by_cases hk1 : kd = 1
          · subst hk1
            go_wp2_with fail
            refine (intext_any p _ e _ HIa.out).mono ?_
            rintro en w5 ⟨t4, rfl, ht4, hi5, hg5⟩
            have hx5 : XBlk X xs e w5 := (hg5.block _ HXa.out.lt (by simpa using fun h => hpX h.symm)).trans HXa.out
            have hB5 : Below w.heap.size w w5 := below_of_grown HBa.out hg5 HBa.out.size hpb
            have x0 := hx5.c0
            have x1 := hx5.c1
            have HI5 := Lib.hid hi5
            have HX5 := Lib.hid hx5
            have HB5 := Lib.hid hB5
            have H2 := reftext_any xs hxs e HV.out w5
            obtain ⟨q, hq⟩ : ∃ q, textS xs.data.toList e = q := ⟨_, rfl⟩
            have hqi : q.1.2 ≠ 0 → q.1.1 = [] := by rw [← hq]; exact textS_inv _ _ HV.out
            rw [hq] at H2 HI5 ht4
            unfold inV at H2
            have H2 := Lib.hid H2
            have HQi := Lib.hid hqi
            have HT4 := Lib.hid ht4
            clear hi5 hx5 hg5 hB5 hq hqi ht4
            go_wp2_with fail
            refine H2.out.mono ?_
            rintro en w6 ⟨t1, t3, rfl, ht1, ht3, ht1s, hb6⟩
            obtain rfl : t4 = t3 := ByteArray.ext (Array.toList_inj.1 (HT4.out.trans ht3.symm))
            unfold inV
            clear ht3
            have hx6 : XBlk X xs e w6 := HX5.out.below hb6 HX5.out.lt
            have hi6 : InSt p q.1.1 q.1.2 w6 := by obtain ⟨s', h1, h2, h3⟩ := HI5.out; exact ⟨s', (hb6.block _ h1.lt).trans h1, h2, h3⟩
            have hB6 : Below w.heap.size w w6 := HB5.out.trans (hb6.mono HB5.out.size)
            have y0 := hx6.c0
            have y1 := hx6.c1
            have g0 := hx6.fr 0
            have g1 := hx6.fr 1
            have HI6 := Lib.hid hi6
            have HX6 := Lib.hid hx6
            have HB6 := Lib.hid hB6
            have HT1 := Lib.hid ht1
            clear hx6 hi6 hB6 hb6 ht1 x0 x1
            go_wp2_with fail
            obtain ⟨w7, hw7⟩ : ∃ w7, (w6.setCell ⟨X, 0, none⟩ (.string t1)).setCell ⟨X, 1, none⟩ (.int .i64 q.1.2) = w7 := ⟨_, rfl⟩
            have HX7 : Hid (XBlk X t1 q.1.2 w7) := Lib.hid (by rw [← hw7]; exact HX6.out.set _ _)
            have HI7 : Hid (InSt p q.1.1 q.1.2 w7) := Lib.hid (by rw [← hw7]; exact (HI6.out.set hpX _).set hpX _)
            have HB7 : Hid (Below w.heap.size w w7) := Lib.hid (by rw [← hw7]; exact (HB6.out.setCell hXb _).setCell hXb _)
            rw [hw7]
            obtain ⟨E, hE⟩ : ∃ E, endS (q.1.1) (q.1.2) = E := ⟨_, rfl⟩
            have cL : ∀ d os, Calls Try.prog 26 #[.pointer (some ⟨p, 0, none⟩)] (Go.Sort.grow (redrawn w7 d) os) fun en w'' => en = .returned (.int .i64 (t1.size : Int)) ∧ ∃ p : Regrown, w'' = Go.Sort.grow (redrawn w7 p.d) p.os := fun d os => Calls.regrown_of ((left_any p _ _ _ (HI7.out.regrown d os)).mono fun _ _ ⟨h1, h2⟩ => ⟨by rw [h1, ← HT1.out]; rfl, h2 ▸ Below.refl _ _⟩)
            have cE : ∀ d os, Calls Try.prog 27 #[.pointer (some ⟨p, 0, none⟩)] (Go.Sort.grow (redrawn w7 d) os) fun en w'' => en = .returned (.int .i64 (q.1.2 : Nat)) ∧ ∃ p : Regrown, w'' = Go.Sort.grow (redrawn w7 p.d) p.os := fun d os => Calls.regrown_of ((err_any p _ _ _ (HI7.out.regrown d os)).mono fun _ _ ⟨h1, h2⟩ => ⟨h1, h2 ▸ Below.refl _ _⟩)
            have cN : ∀ d os, Calls Try.prog 28 #[.pointer (some ⟨p, 0, none⟩)] (Go.Sort.grow (redrawn w7 d) os) fun en w'' => en = .returned (.int .i64 (E : Nat)) ∧ ∃ p : Regrown, w'' = Go.Sort.grow (redrawn w7 p.d) p.os := fun d os => Calls.regrown_of ((end_any p _ _ _ (HI7.out.regrown d os)).mono fun _ _ ⟨h1, h2⟩ => ⟨by rw [h1, hE], h2 ▸ Below.refl _ _⟩)
            have cR : ∀ d os, Calls Try.prog 29 #[.agg #[.string t1, .int .i64 (q.1.2 : Nat)]] (Go.Sort.grow (redrawn w7 d) os) fun en w'' => en = .returned (.int .i64 (E : Nat)) ∧ ∃ p : Regrown, w'' = Go.Sort.grow (redrawn w7 p.d) p.os := fun d os => Calls.regrown_of ((refend_any t1 (q.1.2) _).mono fun _ _ ⟨h1, h2⟩ => ⟨by rw [h1, HT1.out, hE], h2⟩)
            have z0 := fun d os => (HX7.out.regrown d os).c0
            have z1 := fun d os => (HX7.out.regrown d os).c1
            have CL := Lib.hid cL
            have CE := Lib.hid cE
            have CN := Lib.hid cN
            have CR := Lib.hid cR
            clear cL cE cN cR hE hw7
            refine wp_region_quiet_below (by kernel_rfl) (by kernel_rfl) ?_
            repeat (go_big_quiet_step (first | exact CL.out _ _ | exact CE.out _ _ | exact CN.out _ _ | exact CR.out _ _))
            refine wpQuiet_nil ?_
            intro _ hw'
            obtain ⟨⟨dq, osq⟩, hw''⟩ := hw'
            subst hw''
            go_wp2
            go_roundw
            case rel => exact ⟨k + 1, by go_num, by omega, by omega, Lib.hid ⟨t1, q.1.2, by rw [HT1.out]; exact HI7.out.regrown _ _, HX7.out.regrown _ _, fun h => HT1.out.trans (HQi.out h), ht1s, HB7.out.trans ((below_regrown _ _ _).mono HB7.out.size)⟩⟩
            case measure => first | omega | (simp [intOf]; omega)
          · by_cases hk2 : kd = 2
            · subst hk2
              go_wp2_with fail
              refine (inraw_any p _ e an _ HIa.out).mono ?_
              rintro en w5 ⟨t4, rfl, ht4, hi5, hg5⟩
              have hx5 : XBlk X xs e w5 := (hg5.block _ HXa.out.lt (by simpa using fun h => hpX h.symm)).trans HXa.out
              have hB5 : Below w.heap.size w w5 := below_of_grown HBa.out hg5 HBa.out.size hpb
              have x0 := hx5.c0
              have x1 := hx5.c1
              have HI5 := Lib.hid hi5
              have HX5 := Lib.hid hx5
              have HB5 := Lib.hid hB5
              have a1 : w5.cell? ⟨wr.heap.size, 1, none⟩ = some (.int .i64 an) := by
                have hblk := World.alloc_heap_new wr (.cells #[.int .i64 2, .int .i64 an, .string tx] 28)
                have h5 := (hg5.block wr.heap.size (by simp) (by simpa using fun h => hYp h.symm)).trans hblk
                simp [World.cell?, h5]
              have H2 := refraw_any xs hxs e HV.out an w5
              obtain ⟨q, hq⟩ : ∃ q, rawS xs.data.toList e an.toNat = q := ⟨_, rfl⟩
              have hqi : q.1.2 ≠ 0 → q.1.1 = [] := by rw [← hq]; exact rawS_inv _ _ _ HV.out
              rw [hq] at H2 HI5 ht4
              unfold inV at H2
              have H2 := Lib.hid H2
              have HQi := Lib.hid hqi
              have HT4 := Lib.hid ht4
              clear hi5 hx5 hg5 hB5 hq hqi ht4
              go_wp2_with fail
              refine H2.out.mono ?_
              rintro en w6 ⟨t1, t3, rfl, ht1, ht3, ht1s, hb6⟩
              obtain rfl : t4 = t3 := ByteArray.ext (Array.toList_inj.1 (HT4.out.trans ht3.symm))
              unfold inV
              clear ht3
              have hx6 : XBlk X xs e w6 := HX5.out.below hb6 HX5.out.lt
              have hi6 : InSt p q.1.1 q.1.2 w6 := by obtain ⟨s', h1, h2, h3⟩ := HI5.out; exact ⟨s', (hb6.block _ h1.lt).trans h1, h2, h3⟩
              have hB6 : Below w.heap.size w w6 := HB5.out.trans (hb6.mono HB5.out.size)
              have y0 := hx6.c0
              have y1 := hx6.c1
              have g0 := hx6.fr 0
              have g1 := hx6.fr 1
              have HI6 := Lib.hid hi6
              have HX6 := Lib.hid hx6
              have HB6 := Lib.hid hB6
              have HT1 := Lib.hid ht1
              clear hx6 hi6 hB6 hb6 ht1 x0 x1
              go_wp2_with fail
              obtain ⟨w7, hw7⟩ : ∃ w7, (w6.setCell ⟨X, 0, none⟩ (.string t1)).setCell ⟨X, 1, none⟩ (.int .i64 q.1.2) = w7 := ⟨_, rfl⟩
              have HX7 : Hid (XBlk X t1 q.1.2 w7) := Lib.hid (by rw [← hw7]; exact HX6.out.set _ _)
              have HI7 : Hid (InSt p q.1.1 q.1.2 w7) := Lib.hid (by rw [← hw7]; exact (HI6.out.set hpX _).set hpX _)
              have HB7 : Hid (Below w.heap.size w w7) := Lib.hid (by rw [← hw7]; exact (HB6.out.setCell hXb _).setCell hXb _)
              rw [hw7]
              obtain ⟨E, hE⟩ : ∃ E, endS (q.1.1) (q.1.2) = E := ⟨_, rfl⟩
              have cL : ∀ d os, Calls Try.prog 26 #[.pointer (some ⟨p, 0, none⟩)] (Go.Sort.grow (redrawn w7 d) os) fun en w'' => en = .returned (.int .i64 (t1.size : Int)) ∧ ∃ p : Regrown, w'' = Go.Sort.grow (redrawn w7 p.d) p.os := fun d os => Calls.regrown_of ((left_any p _ _ _ (HI7.out.regrown d os)).mono fun _ _ ⟨h1, h2⟩ => ⟨by rw [h1, ← HT1.out]; rfl, h2 ▸ Below.refl _ _⟩)
              have cE : ∀ d os, Calls Try.prog 27 #[.pointer (some ⟨p, 0, none⟩)] (Go.Sort.grow (redrawn w7 d) os) fun en w'' => en = .returned (.int .i64 (q.1.2 : Nat)) ∧ ∃ p : Regrown, w'' = Go.Sort.grow (redrawn w7 p.d) p.os := fun d os => Calls.regrown_of ((err_any p _ _ _ (HI7.out.regrown d os)).mono fun _ _ ⟨h1, h2⟩ => ⟨h1, h2 ▸ Below.refl _ _⟩)
              have cN : ∀ d os, Calls Try.prog 28 #[.pointer (some ⟨p, 0, none⟩)] (Go.Sort.grow (redrawn w7 d) os) fun en w'' => en = .returned (.int .i64 (E : Nat)) ∧ ∃ p : Regrown, w'' = Go.Sort.grow (redrawn w7 p.d) p.os := fun d os => Calls.regrown_of ((end_any p _ _ _ (HI7.out.regrown d os)).mono fun _ _ ⟨h1, h2⟩ => ⟨by rw [h1, hE], h2 ▸ Below.refl _ _⟩)
              have cR : ∀ d os, Calls Try.prog 29 #[.agg #[.string t1, .int .i64 (q.1.2 : Nat)]] (Go.Sort.grow (redrawn w7 d) os) fun en w'' => en = .returned (.int .i64 (E : Nat)) ∧ ∃ p : Regrown, w'' = Go.Sort.grow (redrawn w7 p.d) p.os := fun d os => Calls.regrown_of ((refend_any t1 (q.1.2) _).mono fun _ _ ⟨h1, h2⟩ => ⟨by rw [h1, HT1.out, hE], h2⟩)
              have z0 := fun d os => (HX7.out.regrown d os).c0
              have z1 := fun d os => (HX7.out.regrown d os).c1
              have CL := Lib.hid cL
              have CE := Lib.hid cE
              have CN := Lib.hid cN
              have CR := Lib.hid cR
              clear cL cE cN cR hE hw7
              refine wp_region_quiet_below (by kernel_rfl) (by kernel_rfl) ?_
              repeat (go_big_quiet_step (first | exact CL.out _ _ | exact CE.out _ _ | exact CN.out _ _ | exact CR.out _ _))
              refine wpQuiet_nil ?_
              intro _ hw'
              obtain ⟨⟨dq, osq⟩, hw''⟩ := hw'
              subst hw''
              go_wp2
              go_roundw
              case rel => exact ⟨k + 1, by go_num, by omega, by omega, Lib.hid ⟨t1, q.1.2, by rw [HT1.out]; exact HI7.out.regrown _ _, HX7.out.regrown _ _, fun h => HT1.out.trans (HQi.out h), ht1s, HB7.out.trans ((below_regrown _ _ _).mono HB7.out.size)⟩⟩
              case measure => first | omega | (simp [intOf]; omega)
            · skip
              have e0 : (kd == 0) = false := by rw [beq_eq_false_iff_ne]; exact hk0
              have e1 : (kd == 1) = false := by rw [beq_eq_false_iff_ne]; exact hk1
              have e2 : (kd == 2) = false := by rw [beq_eq_false_iff_ne]; exact hk2
              obtain ⟨er, her⟩ := and_seven an
              go_wp2_with fail
              refine (fail_any p _ e er _ HIa.out).mono ?_
              rintro en w5 ⟨rfl, hi5, hg5⟩
              have a1 : w5.cell? ⟨wr.heap.size, 1, none⟩ = some (.int .i64 an) := by
                have hblk := World.alloc_heap_new wr (.cells #[.int .i64 kd, .int .i64 an, .string tx] 28)
                have h5 := (hg5.block wr.heap.size (by simp) (by simpa using fun h => hYp h.symm)).trans hblk
                simp [World.cell?, h5]
              have hx5 : XBlk X xs e w5 := (hg5.block _ HXa.out.lt (by simpa using fun h => hpX h.symm)).trans HXa.out
              have hB5 : Below w.heap.size w w5 := below_of_grown HBa.out hg5 HBa.out.size hpb
              have x0 := hx5.c0
              have x1 := hx5.c1
              have HI5 := Lib.hid hi5
              have HX5 := Lib.hid hx5
              have HB5 := Lib.hid hB5
              have g0 := hx5.fr 0
              have g1 := hx5.fr 1
              clear hi5 hx5 hg5 hB5
              by_cases hset : e = 0 ∧ er ≠ 0
              · obtain ⟨rfl, her0⟩ := hset
                have hfs : failS xs.data.toList 0 er = ([], er) := by unfold failS; rw [if_neg (by omega)]
                rw [hfs] at HI5
                have ht2 : ((er : Int) != 0) = true := by rw [bne_iff_ne]; omega
                have ht3 : ((er : Int) == 0) = false := by rw [beq_eq_false_iff_ne]; omega
                have ht1s : (((⟨#[]⟩ : ByteArray).size : Nat) : Int) ≤ 1000000 := by decide
                clear hfs her0
                go_wp2_with fail
                obtain ⟨w7, hw7⟩ : ∃ w7, (w5.setCell ⟨X, 0, none⟩ (.string ⟨#[]⟩)).setCell ⟨X, 1, none⟩ (.int .i64 er) = w7 := ⟨_, rfl⟩
                have HX7 : Hid (XBlk X ⟨#[]⟩ er w7) := Lib.hid (by rw [← hw7]; exact HX5.out.set _ _)
                have HI7 : Hid (InSt p [] er w7) := Lib.hid (by rw [← hw7]; exact (HI5.out.set hpX _).set hpX _)
                have HB7 : Hid (Below w.heap.size w w7) := Lib.hid (by rw [← hw7]; exact (HB5.out.setCell hXb _).setCell hXb _)
                rw [hw7]
                obtain ⟨E, hE⟩ : ∃ E, endS ([]) (er) = E := ⟨_, rfl⟩
                have cL : ∀ d os, Calls Try.prog 26 #[.pointer (some ⟨p, 0, none⟩)] (Go.Sort.grow (redrawn w7 d) os) fun en w'' => en = .returned (.int .i64 ((⟨#[]⟩ : ByteArray).size : Int)) ∧ ∃ p : Regrown, w'' = Go.Sort.grow (redrawn w7 p.d) p.os := fun d os => Calls.regrown_of ((left_any p _ _ _ (HI7.out.regrown d os)).mono fun _ _ ⟨h1, h2⟩ => ⟨h1, h2 ▸ Below.refl _ _⟩)
                have cE : ∀ d os, Calls Try.prog 27 #[.pointer (some ⟨p, 0, none⟩)] (Go.Sort.grow (redrawn w7 d) os) fun en w'' => en = .returned (.int .i64 (er : Nat)) ∧ ∃ p : Regrown, w'' = Go.Sort.grow (redrawn w7 p.d) p.os := fun d os => Calls.regrown_of ((err_any p _ _ _ (HI7.out.regrown d os)).mono fun _ _ ⟨h1, h2⟩ => ⟨h1, h2 ▸ Below.refl _ _⟩)
                have cN : ∀ d os, Calls Try.prog 28 #[.pointer (some ⟨p, 0, none⟩)] (Go.Sort.grow (redrawn w7 d) os) fun en w'' => en = .returned (.int .i64 (E : Nat)) ∧ ∃ p : Regrown, w'' = Go.Sort.grow (redrawn w7 p.d) p.os := fun d os => Calls.regrown_of ((end_any p _ _ _ (HI7.out.regrown d os)).mono fun _ _ ⟨h1, h2⟩ => ⟨by rw [h1, hE], h2 ▸ Below.refl _ _⟩)
                have cR : ∀ d os, Calls Try.prog 29 #[.agg #[.string ⟨#[]⟩, .int .i64 (er : Nat)]] (Go.Sort.grow (redrawn w7 d) os) fun en w'' => en = .returned (.int .i64 (E : Nat)) ∧ ∃ p : Regrown, w'' = Go.Sort.grow (redrawn w7 p.d) p.os := fun d os => Calls.regrown_of ((refend_any ⟨#[]⟩ (er) _).mono fun _ _ ⟨h1, h2⟩ => ⟨by subst hE; exact h1, h2⟩)
                have z0 := fun d os => (HX7.out.regrown d os).c0
                have z1 := fun d os => (HX7.out.regrown d os).c1
                have CL := Lib.hid cL
                have CE := Lib.hid cE
                have CN := Lib.hid cN
                have CR := Lib.hid cR
                clear cL cE cN cR hE hw7
                refine wp_region_quiet_below (by kernel_rfl) (by kernel_rfl) ?_
                repeat (go_big_quiet_step (first | exact CL.out _ _ | exact CE.out _ _ | exact CN.out _ _ | exact CR.out _ _))
                refine wpQuiet_nil ?_
                intro _ hw'
                obtain ⟨⟨dq, osq⟩, hw''⟩ := hw'
                subst hw''
                go_wp2
                go_roundw
                case rel => exact ⟨k + 1, by go_num, by omega, by omega, Lib.hid ⟨⟨#[]⟩, er, HI7.out.regrown _ _, HX7.out.regrown _ _, fun _ => rfl, ht1s, HB7.out.trans ((below_regrown _ _ _).mono HB7.out.size)⟩⟩
                case measure => first | omega | (simp [intOf]; omega)
              · have hfs : failS xs.data.toList e er = (xs.data.toList, e) := by unfold failS; rw [if_pos (by omega)]
                rw [hfs] at HI5
                have ht1s := hxs
                clear hfs
                by_cases he0 : e = 0
                · have her0 : er = 0 := by omega
                  subst he0 her0
                  go_wp2_with fail
                  obtain ⟨w7, hw7⟩ : ∃ w7, w5 = w7 := ⟨_, rfl⟩
                  have HX7 : Hid (XBlk X xs 0 w7) := Lib.hid (by rw [← hw7]; exact HX5.out)
                  have HI7 : Hid (InSt p xs.data.toList 0 w7) := Lib.hid (by rw [← hw7]; exact HI5.out)
                  have HB7 : Hid (Below w.heap.size w w7) := Lib.hid (by rw [← hw7]; exact HB5.out)
                  rw [hw7]
                  obtain ⟨E, hE⟩ : ∃ E, endS (xs.data.toList) (0) = E := ⟨_, rfl⟩
                  have cL : ∀ d os, Calls Try.prog 26 #[.pointer (some ⟨p, 0, none⟩)] (Go.Sort.grow (redrawn w7 d) os) fun en w'' => en = .returned (.int .i64 (xs.size : Int)) ∧ ∃ p : Regrown, w'' = Go.Sort.grow (redrawn w7 p.d) p.os := fun d os => Calls.regrown_of ((left_any p _ _ _ (HI7.out.regrown d os)).mono fun _ _ ⟨h1, h2⟩ => ⟨h1, h2 ▸ Below.refl _ _⟩)
                  have cE : ∀ d os, Calls Try.prog 27 #[.pointer (some ⟨p, 0, none⟩)] (Go.Sort.grow (redrawn w7 d) os) fun en w'' => en = .returned (.int .i64 (0 : Nat)) ∧ ∃ p : Regrown, w'' = Go.Sort.grow (redrawn w7 p.d) p.os := fun d os => Calls.regrown_of ((err_any p _ _ _ (HI7.out.regrown d os)).mono fun _ _ ⟨h1, h2⟩ => ⟨h1, h2 ▸ Below.refl _ _⟩)
                  have cN : ∀ d os, Calls Try.prog 28 #[.pointer (some ⟨p, 0, none⟩)] (Go.Sort.grow (redrawn w7 d) os) fun en w'' => en = .returned (.int .i64 (E : Nat)) ∧ ∃ p : Regrown, w'' = Go.Sort.grow (redrawn w7 p.d) p.os := fun d os => Calls.regrown_of ((end_any p _ _ _ (HI7.out.regrown d os)).mono fun _ _ ⟨h1, h2⟩ => ⟨by rw [h1, hE], h2 ▸ Below.refl _ _⟩)
                  have cR : ∀ d os, Calls Try.prog 29 #[.agg #[.string xs, .int .i64 (0 : Nat)]] (Go.Sort.grow (redrawn w7 d) os) fun en w'' => en = .returned (.int .i64 (E : Nat)) ∧ ∃ p : Regrown, w'' = Go.Sort.grow (redrawn w7 p.d) p.os := fun d os => Calls.regrown_of ((refend_any xs (0) _).mono fun _ _ ⟨h1, h2⟩ => ⟨by subst hE; exact h1, h2⟩)
                  have z0 := fun d os => (HX7.out.regrown d os).c0
                  have z1 := fun d os => (HX7.out.regrown d os).c1
                  have CL := Lib.hid cL
                  have CE := Lib.hid cE
                  have CN := Lib.hid cN
                  have CR := Lib.hid cR
                  clear cL cE cN cR hE hw7
                  refine wp_region_quiet_below (by kernel_rfl) (by kernel_rfl) ?_
                  repeat (go_big_quiet_step (first | exact CL.out _ _ | exact CE.out _ _ | exact CN.out _ _ | exact CR.out _ _))
                  refine wpQuiet_nil ?_
                  intro _ hw'
                  obtain ⟨⟨dq, osq⟩, hw''⟩ := hw'
                  subst hw''
                  go_wp2
                  go_roundw
                  case rel => exact ⟨k + 1, by go_num, by omega, by omega, Lib.hid ⟨xs, 0, HI7.out.regrown _ _, HX7.out.regrown _ _, fun h => absurd rfl h, ht1s, HB7.out.trans ((below_regrown _ _ _).mono HB7.out.size)⟩⟩
                  case measure => first | omega | (simp [intOf]; omega)
                · have ht2 : ((e : Int) != 0) = true := by rw [bne_iff_ne]; omega
                  have ht3 : ((e : Int) == 0) = false := by rw [beq_eq_false_iff_ne]; omega
                  clear hset
                  go_wp2_with fail
                  obtain ⟨w7, hw7⟩ : ∃ w7, w5 = w7 := ⟨_, rfl⟩
                  have HX7 : Hid (XBlk X xs e w7) := Lib.hid (by rw [← hw7]; exact HX5.out)
                  have HI7 : Hid (InSt p xs.data.toList e w7) := Lib.hid (by rw [← hw7]; exact HI5.out)
                  have HB7 : Hid (Below w.heap.size w w7) := Lib.hid (by rw [← hw7]; exact HB5.out)
                  rw [hw7]
                  obtain ⟨E, hE⟩ : ∃ E, endS (xs.data.toList) (e) = E := ⟨_, rfl⟩
                  have cL : ∀ d os, Calls Try.prog 26 #[.pointer (some ⟨p, 0, none⟩)] (Go.Sort.grow (redrawn w7 d) os) fun en w'' => en = .returned (.int .i64 (xs.size : Int)) ∧ ∃ p : Regrown, w'' = Go.Sort.grow (redrawn w7 p.d) p.os := fun d os => Calls.regrown_of ((left_any p _ _ _ (HI7.out.regrown d os)).mono fun _ _ ⟨h1, h2⟩ => ⟨h1, h2 ▸ Below.refl _ _⟩)
                  have cE : ∀ d os, Calls Try.prog 27 #[.pointer (some ⟨p, 0, none⟩)] (Go.Sort.grow (redrawn w7 d) os) fun en w'' => en = .returned (.int .i64 (e : Nat)) ∧ ∃ p : Regrown, w'' = Go.Sort.grow (redrawn w7 p.d) p.os := fun d os => Calls.regrown_of ((err_any p _ _ _ (HI7.out.regrown d os)).mono fun _ _ ⟨h1, h2⟩ => ⟨h1, h2 ▸ Below.refl _ _⟩)
                  have cN : ∀ d os, Calls Try.prog 28 #[.pointer (some ⟨p, 0, none⟩)] (Go.Sort.grow (redrawn w7 d) os) fun en w'' => en = .returned (.int .i64 (E : Nat)) ∧ ∃ p : Regrown, w'' = Go.Sort.grow (redrawn w7 p.d) p.os := fun d os => Calls.regrown_of ((end_any p _ _ _ (HI7.out.regrown d os)).mono fun _ _ ⟨h1, h2⟩ => ⟨by rw [h1, hE], h2 ▸ Below.refl _ _⟩)
                  have cR : ∀ d os, Calls Try.prog 29 #[.agg #[.string xs, .int .i64 (e : Nat)]] (Go.Sort.grow (redrawn w7 d) os) fun en w'' => en = .returned (.int .i64 (E : Nat)) ∧ ∃ p : Regrown, w'' = Go.Sort.grow (redrawn w7 p.d) p.os := fun d os => Calls.regrown_of ((refend_any xs (e) _).mono fun _ _ ⟨h1, h2⟩ => ⟨by subst hE; exact h1, h2⟩)
                  have z0 := fun d os => (HX7.out.regrown d os).c0
                  have z1 := fun d os => (HX7.out.regrown d os).c1
                  have CL := Lib.hid cL
                  have CE := Lib.hid cE
                  have CN := Lib.hid cN
                  have CR := Lib.hid cR
                  clear cL cE cN cR hE hw7
                  refine wp_region_quiet_below (by kernel_rfl) (by kernel_rfl) ?_
                  repeat (go_big_quiet_step (first | exact CL.out _ _ | exact CE.out _ _ | exact CN.out _ _ | exact CR.out _ _))
                  refine wpQuiet_nil ?_
                  intro _ hw'
                  obtain ⟨⟨dq, osq⟩, hw''⟩ := hw'
                  subst hw''
                  go_wp2
                  go_roundw
                  case rel => exact ⟨k + 1, by go_num, by omega, by omega, Lib.hid ⟨xs, e, HI7.out.regrown _ _, HX7.out.regrown _ _, HV.out, ht1s, HB7.out.trans ((below_regrown _ _ _).mono HB7.out.size)⟩⟩
                  case measure => first | omega | (simp [intOf]; omega)
      · go_wp2
        all_goals go_ret
        all_goals (obtain ⟨_, _, _, _, _, _, hB⟩ := hF.out; exact ⟨rfl, hB⟩)

namespace NumReadsDone
open Go.ChangeShapes Go.WideShapes Go.ChangeAt Go.RowKit
open Go.ChangeMaps (open_string shut_string)
theorem own : ownKnob Try.prog.godebug = none := by kernel_rfl
theorem laidOut : laidOutB Try.prog = true := by kernel_rfl
set_option maxRecDepth 100000 in
theorem lifted (os : Os) (started : os.Started) (H : Type) (enc : TypeId × Value → H) :
    ReturnsInHanded {} Try.checked os 4 .any (Rows.numReadsSpec.pre6 enc Try.prog Try.f4 Rows.numReadsRow.domain false) (Rows.numReadsSpec.post enc Try.prog Try.f4 false true false false) := by
  refine returnsInHanded_of_change (C := Try.checked) own started (by kernel_rfl) Try.func4
    (ChangeSpec.witness6 (enc := enc) (C := Try.checked) false ⟨#[], #[.string ⟨#[]⟩, .slice none 0 0], []⟩ 8 (by kernel_rfl) (by kernel_rfl) (by kernel_rfl) (by kernel_rfl)) ?_
  intro W base args ds gs before hval0 hW hcnd _
  have hval : ∀ (j : Nat) t v, Try.f4.params[j]? = some t → args[j]? = some v → Value.okWide Try.prog W .any base t v := hval0
  have hW' := hW
  obtain ⟨p, q, hA0, hV, rfl, hfz, hnd⟩ := hW
  have hA : DataW.TrodAll enc Try.prog W 0 (fun _ => true) true Try.f4.params.toList args.toList ds p := hA0
  rw [Try.params4] at hA hval
  obtain ⟨v0, vs0, d0, ds0, p0, q0, hargs, rfl, rfl, h0, r0⟩ := trodAll_cons hA
  obtain ⟨v1, vs1, d1, ds1, p1, q1, rfl, rfl, rfl, h1, r1⟩ := trodAll_cons r0
  obtain ⟨rfl, rfl, rfl⟩ := trodAll_nil r1
  obtain rfl : args = #[v0, v1] := by cases args; simp_all
  obtain ⟨rfl, rfl⟩ := trodVars_none hV
  obtain ⟨s0, rfl, rfl, rfl, w0⟩ := open_string Try.underlying9 (hval 0 9 v0 rfl rfl) h0
  obtain ⟨a1, len1, cap1, rfl⟩ := okWide_slice Try.underlying22 (hval 1 22 v1 rfl rfl)
  have k1 := h1
  have lt1 : ∀ x ∈ p1, x.block < W.heap.size := by obtain ⟨m, hm⟩ := k1; exact DataW.trod_lt m _ _ _ hm
  clear hA0 hval0
  have hs0 : (s0.size : Int) ≤ 9223372036854775807 := by unfold maxLen at w0; omega
  have hA : ∃ al : List ActOf, len1 = 0 ∨ ∃ b off, a1 = some ⟨b, off, none⟩ ∧ len1 ≤ al.length ∧ b < W.heap.size ∧ Acts W b off al ∧ (∀ i, (((al.getD i default).text.size : Nat) : Int) ≤ 9223372036854775807) := by
    obtain ⟨fuel, hf⟩ := h1
    rcases open_acts hf with h | ⟨b, off, al, h⟩
    · exact ⟨[], .inl h⟩
    · exact ⟨al, .inr ⟨b, off, h⟩⟩
  obtain ⟨al, hA⟩ := hA
  refine (reads_walk s0 hs0 a1 len1 cap1 al W hA).mono fun e W' ⟨he, bel⟩ => ?_
  subst he
  exact ⟨_, rfl, _, _, _, [], _, [], hW', trodAll_mk1 (shut_bool Try.underlying4 _), (trodAll_cons_mk (shut_string Try.underlying9 w0) (trodAll_cons_mk (Below.trod laidOut (by kernel_rfl) (of_decide_eq_true (by kernel_rfl)) k1 bel lt1) trodAll_mk0)), rfl, bel.frame _, fun h => by cases h⟩

theorem over : Rows.numReadsRow.holds Try.pinned (OpenSpec.ofChange Rows.numReadsSpec) :=
  OpenClaim.holds_of_wide 4 Try.f4 rfl rfl rfl rfl rfl rfl rfl ⟨rfl, rfl, rfl, rfl, rfl⟩ rfl rfl rfl rfl rfl (by kernel_rfl) Try.func4 (by kernel_rfl)
    (of_decide_eq_true (by kernel_rfl)) (by unfold Func.isWrapper; first | (rw [if_pos (by decide +kernel)]; kernel_rfl) | (rw [if_neg (by decide +kernel)]; exact ⟨rfl, rfl⟩))
    (fun os started H enc _ => lifted os started H enc)
end NumReadsDone
theorem NumReads_holds : Rows.NumReadsSaid := NumReadsDone.over
#print axioms NumReads_holds
end Go.Proofs.Ythhaefcglhghfaa
