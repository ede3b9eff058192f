/- gram.read: of what an In holds it takes all parts of a datagram. -/
import Derived.Test.YtghnkpfnpidncaaDoorGOut
import Derived.Test.YtghnkpfnpidncaaDoorIRelIn
import Derived.Test.YtghnkpfnpidncaaDoorITake
import Derived.Laws.ResultCell
import Derived.Deep.RegionWith
import Derived.Deep.DeepCutAuto
import Derived.Deep.AppendLies
import Derived.Deep.RegionLaw
import Derived.Deep.CutBlock
namespace Go.Proofs.YtghnkpfnpidncaaDoor.G
open Go.RowKit Go.Proofs.YtghnkpfnpidncaaDoor.I

/-- Numbers, taken one behind the other. -/
def rdTake : Nat → List UInt8 → Nat → (List UInt8 × Nat) × List Nat
  | 0, l, e => ((l, e), [])
  | j + 1, l, e => ((numS (rdTake j l e).1.1 (rdTake j l e).1.2).1, (rdTake j l e).2 ++ [(numS (rdTake j l e).1.1 (rdTake j l e).1.2).2])
theorem rdTake_len (j : Nat) (l : List UInt8) (e : Nat) : (rdTake j l e).2.length = j := by
  induction j with
  | zero => rfl
  | succ j ih => simp [rdTake, ih]
/-- A datagram in a block. -/
def GBlk (g : Nat) (a b c d : Value) (w : World) : Prop := w.heap[g]? = some (.cells #[a, b, c, d] 26 (0, 0))
theorem GBlk.lt {g : Nat} {a b c d : Value} {w : World} (h : GBlk g a b c d w) : g < w.heap.size := (Array.getElem?_eq_some_iff.1 h).1
theorem GBlk.c0 {g : Nat} {a b c d : Value} {w : World} (h : GBlk g a b c d w) : w.cell? ⟨g, 0, none⟩ = some a := by rw [Lib.cell_of_heap h]; rfl
theorem GBlk.c1 {g : Nat} {a b c d : Value} {w : World} (h : GBlk g a b c d w) : w.cell? ⟨g, 1, none⟩ = some b := by rw [Lib.cell_of_heap h]; rfl
theorem GBlk.c2 {g : Nat} {a b c d : Value} {w : World} (h : GBlk g a b c d w) : w.cell? ⟨g, 2, none⟩ = some c := by rw [Lib.cell_of_heap h]; rfl
theorem GBlk.c3 {g : Nat} {a b c d : Value} {w : World} (h : GBlk g a b c d w) : w.cell? ⟨g, 3, none⟩ = some d := by rw [Lib.cell_of_heap h]; rfl
theorem GBlk.fr {g : Nat} {a b c d : Value} {w : World} (h : GBlk g a b c d w) (o : Nat) : w.frozen? ⟨g, o, none⟩ = false := by simp [World.frozen?, show w.heap[g]? = _ from h]
theorem GBlk.set0 {g : Nat} {a b c d : Value} {w : World} (h : GBlk g a b c d w) (v : Value) : GBlk g v b c d (w.setCell ⟨g, 0, none⟩ v) := by
  unfold GBlk at *; simp [World.setCell, Array.getElem?_modify, h]
theorem GBlk.set1 {g : Nat} {a b c d : Value} {w : World} (h : GBlk g a b c d w) (v : Value) : GBlk g a v c d (w.setCell ⟨g, 1, none⟩ v) := by
  unfold GBlk at *; simp [World.setCell, Array.getElem?_modify, h]
theorem GBlk.set2 {g : Nat} {a b c d : Value} {w : World} (h : GBlk g a b c d w) (v : Value) : GBlk g a b v d (w.setCell ⟨g, 2, none⟩ v) := by
  unfold GBlk at *; simp [World.setCell, Array.getElem?_modify, h]
theorem GBlk.set3 {g : Nat} {a b c d : Value} {w : World} (h : GBlk g a b c d w) (v : Value) : GBlk g a b c v (w.setCell ⟨g, 3, none⟩ v) := by
  unfold GBlk at *; simp [World.setCell, Array.getElem?_modify, h]
theorem GBlk.other {g k o : Nat} {a b c d : Value} {w : World} (h : GBlk g a b c d w) (hne : g ≠ k) (v : Value) : GBlk g a b c d (w.setCell ⟨k, o, none⟩ v) :=
  (Below.heap_setCell w ⟨k, o, none⟩ v g hne).trans h
theorem GBlk.grown {g p : Nat} {a b c d : Value} {w w' : World} (h : GBlk g a b c d w) (hg : w.grownBy w' (some p)) (hne : g ≠ p) : GBlk g a b c d w' :=
  (hg.block g h.lt (by intro e; cases e; exact hne rfl)).trans h
theorem inst_other {p g o : Nat} {l : List UInt8} {e : Nat} {w : World} (h : InSt p l e w) (hne : p ≠ g) (v : Value) : InSt p l e (w.setCell ⟨g, o, none⟩ v) := by
  obtain ⟨s, h1, h2, h3⟩ := h
  exact ⟨s, (Below.heap_setCell w ⟨g, o, none⟩ v p hne).trans h1, h2, h3⟩
theorem inst_lt {p : Nat} {l : List UInt8} {e : Nat} {w : World} (h : InSt p l e w) : p < w.heap.size := by obtain ⟨s, h1, _⟩ := h; exact h1.lt
theorem numS_len (l : List UInt8) (e : Nat) : (numS l e).1.1.length ≤ l.length := by
  unfold numS
  split
  · simp
  · simp only
    unfold failS
    split <;> simp
theorem textS_len (l : List UInt8) (e : Nat) : (textS l e).2.length ≤ l.length := by
  have h := numS_len l e
  unfold textS rawS
  split
  · simp
  · simp only [List.length_take]; omega
/-- What stands in the midst of read. -/
structure Rd (p g r : Nat) (l : List UInt8) (er : Nat) (a b c d : Value) (w0 w : World) : Prop where
  inst : InSt p l er w
  blk : GBlk g a b c d w
  res : ∃ x y z u, GBlk r x y z u w
  below : Below p w0 w
theorem Rd.took {p g r : Nat} {l l' : List UInt8} {er er' : Nat} {a b c d : Value} {w0 w w' : World} (h : Rd p g r l er a b c d w0 w) (hi : InSt p l' er' w') (hg : w.grownBy w' (some p)) (h1 : p < g) (h2 : p < r) : Rd p g r l' er' a b c d w0 w' := by
  obtain ⟨x, y, z, u, hr⟩ := h.res
  exact ⟨hi, h.blk.grown hg (by omega), ⟨x, y, z, u, hr.grown hg (by omega)⟩, below_of_grown h.below hg (Nat.le_of_lt (inst_lt h.inst)) (Nat.le_refl _)⟩
theorem Rd.set {p g r o : Nat} {l : List UInt8} {er : Nat} {a b c d a' b' c' d' : Value} {w0 w : World} {v : Value} (h : Rd p g r l er a b c d w0 w) (hn : GBlk g a' b' c' d' (w.setCell ⟨g, o, none⟩ v)) (h1 : p < g) (h2 : r ≠ g) : Rd p g r l er a' b' c' d' w0 (w.setCell ⟨g, o, none⟩ v) := by
  obtain ⟨x, y, z, u, hr⟩ := h.res
  exact ⟨inst_other h.inst (by omega) _, hn, ⟨x, y, z, u, hr.other h2 _⟩, h.below.setCell (p := ⟨g, o, none⟩) (Nat.le_of_lt h1) _⟩

theorem Rd.drew {p g r : Nat} {l : List UInt8} {er : Nat} {a b c d : Value} {w0 w : World} (h : Rd p g r l er a b c d w0 w) : Rd p g r l er a b c d w0 w.drew := ⟨h.inst, h.blk, h.res, h.below.drew⟩
theorem row_ne {w : World} {base n k : Nat} {v : Value} {xs : List Value} (h : w.ownsRow base 3 1 v n xs) (hk : k < base) : some k ≠ v.ownBlock := by
  intro e
  have := (h.lt k e.symm).1
  omega
/-- Behind the call of a round. -/
def Mid (p g r : Nat) (v1 v2 : Nat) (l5 : List UInt8) (e5 : Nat) (a : Option Addr) (j cap : Nat) (xs : List Value) (w W : World) : Prop := Rd p g r l5 e5 (.int .i64 v1) (.int .i64 v2) (.slice a j cap) (.string ⟨#[]⟩) w W ∧ W.ownsRow (g + 1) 3 1 (.slice a j cap) j xs
theorem mid_took {p g r v1 v2 : Nat} {l l5 : List UInt8} {e e5 : Nat} {a : Option Addr} {j cap : Nat} {xs : List Value} {w W W' : World} (h : Rd p g r l e (.int .i64 v1) (.int .i64 v2) (.slice a j cap) (.string ⟨#[]⟩) w W) (ho : W.ownsRow (g + 1) 3 1 (.slice a j cap) j xs)
    (hi : InSt p l5 e5 W') (hg : W.drew.grownBy W' (some p)) (h1 : p < g) (h2 : p < r) : Mid p g r v1 v2 l5 e5 a j cap xs w W' :=
  ⟨h.drew.took hi hg h1 h2, World.ownsRow.kept (w := W.drew) ho hg (.inr (Ne.symm (row_ne (k := p) ho (by omega))))⟩
theorem mid_app {p g r v1 v2 : Nat} {l5 : List UInt8} {e5 : Nat} {a : Option Addr} {j cap : Nat} {xs : List Value} {w W W1 : World} (h : Mid p g r v1 v2 l5 e5 a j cap xs w W) (o : Obj) (hg : (W.alloc o).grownBy W1 (Value.slice a j cap).ownBlock) (h1 : p < g) (h2 : r < g) :
    Rd p g r l5 e5 (.int .i64 v1) (.int .i64 v2) (.slice a j cap) (.string ⟨#[]⟩) w W1 := by
  obtain ⟨hr, ho⟩ := h
  have key : ∀ k o', k < g + 1 → W.heap[k]? = some o' → W1.heap[k]? = some o' := fun k o' hk ho' => by
    have hl : k < W.heap.size := (Array.getElem?_eq_some_iff.1 ho').1
    exact (hg.block k (by simp; omega) (row_ne ho hk)).trans ((Below.heap_alloc W o k hl).trans ho')
  obtain ⟨s, i1, i2, i3⟩ := hr.inst
  obtain ⟨x, y, z, u, hres⟩ := hr.res
  exact ⟨⟨s, key p _ (by omega) i1, i2, i3⟩, key g _ (by omega) hr.blk, ⟨x, y, z, u, key r _ (by omega) hres⟩,
    (hr.below.alloc (Nat.le_of_lt (inst_lt hr.inst)) o).grown hg (by have := inst_lt hr.inst; simp; omega) (fun q hq => by have := (ho.lt q hq).1; omega)⟩
theorem mid_store {p g r v1 v2 : Nat} {l5 : List UInt8} {e5 : Nat} {a a' : Option Addr} {j cap n cap' : Nat} {ys : List Value} {w W1 : World} (h : Rd p g r l5 e5 (.int .i64 v1) (.int .i64 v2) (.slice a j cap) (.string ⟨#[]⟩) w W1) (ho : W1.ownsRow (g + 1) 3 1 (.slice a' n cap') n ys) (h1 : p < g) (h2 : r < g) :
    Mid p g r v1 v2 l5 e5 a' n cap' ys w (W1.setCell ⟨g, 2, none⟩ (.slice a' n cap')) :=
  ⟨h.set (h.blk.set2 _) h1 (by omega), World.ownsRow.kept ho (grown_set W1 g 2 _) (.inr (Ne.symm (row_ne (k := g) ho (by omega))))⟩
/-- What stands between two rounds. -/
def LoopI (p g r : Nat) (v1 v2 : Nat) (l4 : List UInt8) (e4 : Nat) (w : World) (j : Nat) (W : World) : Prop := ∃ a cap, Rd p g r (rdTake j l4 e4).1.1 (rdTake j l4 e4).1.2 (.int .i64 v1) (.int .i64 v2) (.slice a j cap) (.string ⟨#[]⟩) w W ∧
  W.ownsRow (g + 1) 3 1 (.slice a j cap) j ((rdTake j l4 e4).2.map fun n : Nat => Value.int .i64 (n : Int))
theorem infoInt : (Tryd.prog.info? 3).map (fun i => (i.zero, i.size, i.bytes)) = some (some (.int .i64 0), 1, 8) := by kernel_rfl
theorem nums_of_own {w : World} {base cap : Nat} {a : Option Addr} {ns : List Nat} (h : w.ownsRow base 3 1 (.slice a ns.length cap) ns.length (ns.map fun n : Nat => Value.int .i64 (n : Int))) : NumsAt a ns.length (ns.map Int.ofNat) w := by
  have hcells := @World.ownsRow.cells _ _ _ _ _ _ _ h
  have hlt := h.lt
  refine ⟨by simp, ?_⟩
  rcases h.2 with ⟨e, h0⟩ | ⟨g, cap', cur, e, _⟩
  · injection e with e1 e2 e3
    subst e1
    exact .inl ⟨rfl, by rw [List.length_eq_zero_iff.1 h0]; rfl⟩
  · injection e with e1 e2 e3
    subst e1
    refine .inr ⟨g, 0, rfl, (hlt g rfl).2, fun i hi => ?_⟩
    have hi' : i < ns.length := by simpa using hi
    have := hcells (g := g) rfl i (.int .i64 ((ns[i] : Nat) : Int)) (by simp [hi'])
    have ha : (⟨g, 0, none⟩ : Addr).add i = ⟨g, 0 + i, none⟩ := by unfold Addr.add; split <;> simp_all
    rw [ha] at this
    simpa [hi'] using this
theorem own_lt {w : World} {base n cap : Nat} {a : Option Addr} {xs : List Value} (h : w.ownsRow base 3 1 (.slice a n cap) n xs) : ∀ b off, a = some ⟨b, off, none⟩ → base ≤ b := by
  rintro b off rfl
  exact (h.lt b rfl).1
theorem NumsAt.set {a : Option Addr} {len r o : Nat} {zs : List Int} {w : World} (h : NumsAt a len zs w) (hne : ∀ b off, a = some ⟨b, off, none⟩ → b ≠ r) (v : Value) : NumsAt a len zs (w.setCell ⟨r, o, none⟩ v) := by
  refine ⟨h.1, h.2.imp id ?_⟩
  rintro ⟨b, off, ha, hl, hi⟩
  exact ⟨b, off, ha, Nat.lt_of_lt_of_le hl (KeepsWalks.setCell w _ v).size, fun i hi' => (World.cell?_of_block (a := ⟨b, off + i, none⟩) (Below.heap_setCell w ⟨r, o, none⟩ v b (hne b off ha))).trans (hi i hi')⟩
theorem NumsAt.below {a : Option Addr} {len : Nat} {zs : List Int} {w w' : World} (h : NumsAt a len zs w) (hb : Below w.heap.size w w') : NumsAt a len zs w' := by
  refine ⟨h.1, h.2.imp id ?_⟩
  rintro ⟨b, off, ha, hl, hi⟩
  exact ⟨b, off, ha, Nat.lt_of_lt_of_le hl hb.size, fun i hi' => (hb.cell (p := ⟨b, off + i, none⟩) hl).trans (hi i hi')⟩
theorem nums_of_own' {w : World} {base cap j : Nat} {a : Option Addr} {ns : List Nat} (hn : ns.length = j) (h : w.ownsRow base 3 1 (.slice a j cap) j (ns.map fun n : Nat => Value.int .i64 (n : Int))) : NumsAt a ns.length (ns.map Int.ofNat) w := by
  subst hn; exact nums_of_own h
def FinR (p g : Nat) (v : Value) (n : Nat) (xs : List Value) (w W : World) : Prop := Below p w W ∧ W.ownsRow (g + 1) 3 1 v n xs
theorem FinR.set {p g r n : Nat} {v : Value} {xs : List Value} {w W : World} (h : FinR p g v n xs w W) (h1 : p < r) (h2 : r < g) (o : Nat) (u : Value) : FinR p g v n xs w (W.setCell ⟨r, o, none⟩ u) :=
  ⟨h.1.setCell (p := ⟨r, o, none⟩) (Nat.le_of_lt h1) _, World.ownsRow.kept h.2 (grown_set W r o u) (.inr (Ne.symm (row_ne (k := r) h.2 (by omega))))⟩
theorem FinR.drew {p g n : Nat} {v : Value} {xs : List Value} {w W : World} (h : FinR p g v n xs w W) : FinR p g v n xs w W.drew := ⟨h.1.drew, h.2⟩
def ReadPost (p : Nat) (v1 v2 : Nat) (ns : List Nat) (dl : List UInt8) (er : Nat) (w : World) (en : Ending) (w' : World) : Prop :=
  ∃ a cap d, en = .returned (.tuple #[gramV v1 v2 a ns.length cap d, .int .i64 er]) ∧ d.data.toList = dl ∧ (d.size : Int) ≤ 1000000 ∧ NumsAt a ns.length (ns.map Int.ofNat) w' ∧ (∀ b off, a = some ⟨b, off, none⟩ → p < b) ∧ Below p w w'

set_option maxRecDepth 100000 in
set_option maxHeartbeats 2000000 in
theorem read_any (p : Nat) (l : List UInt8) (e : Nat) (w : World) (h : InSt p l e w) (l1 l2 l3 l4 l6 l7 dl : List UInt8) (e1 e2 e3 e4 e6 e7 v1 v2 v3 c : Nat) (ns : List Nat) (hn1 : numS l e = ((l1, e1), v1)) (hn2 : numS l1 e1 = ((l2, e2), v2)) (hn3 : numS l2 e2 = ((l3, e3), v3))
    (hst : (if 64 < v3 then failS l3 e3 1 else (l3, e3)) = (l4, e4)) (hc : (if 64 < v3 then 0 else v3) = c) (hq : rdTake c l4 e4 = ((l6, e6), ns)) (ht : textS l6 e6 = ((l7, e7), dl)) :
    Calls Tryd.prog 34 #[.pointer (some ⟨p, 0, none⟩)] w (ReadPost p v1 v2 ns dl (endS l7 e7) w) := by
  obtain ⟨P, hP⟩ : ∃ P, ReadPost p v1 v2 ns dl (endS l7 e7) w = P := ⟨_, rfl⟩
  rw [hP]
  have HP := Lib.hid hP
  have HQ6 := Lib.hid hq
  have HT7 := Lib.hid ht
  clear hP hq ht
  obtain ⟨s0, hs0⟩ := h
  have hpl : p < w.heap.size := hs0.1.lt
  have h : InSt p l e w := ⟨s0, hs0⟩
  obtain ⟨wA, hwA⟩ : ∃ wA, (w.alloc (.cells #[.int .i64 0, .int .i64 0, .slice none 0 0, .string ⟨#[]⟩] 26)).alloc (.cells #[.int .i64 0, .int .i64 0, .slice none 0 0, .string ⟨#[]⟩] 26) = wA := ⟨_, rfl⟩
  obtain ⟨r, hr⟩ : ∃ r, w.heap.size = r := ⟨_, rfl⟩
  obtain ⟨g, hg⟩ : ∃ g, r + 1 = g := ⟨_, rfl⟩
  have hR : Rd p g r l e (.int .i64 0) (.int .i64 0) (.slice none 0 0) (.string ⟨#[]⟩) w wA := by
    refine ⟨by rw [← hwA]; exact (h.alloc _).alloc _, ?_, ⟨.int .i64 0, .int .i64 0, .slice none 0 0, .string ⟨#[]⟩, ?_⟩, ?_⟩
    rotate_left
    · rw [← hwA]; unfold GBlk; rw [Below.heap_alloc _ _ _ (by simp; omega), ← hr]; exact World.alloc_heap_new _ _
    · rw [← hwA]; exact ((Below.refl _ _).alloc (by omega) _).alloc (by simp; omega) _
    · rw [← hwA]; unfold GBlk; rw [← hg, ← hr]
      have := World.alloc_heap_new (w.alloc (.cells #[.int .i64 0, .int .i64 0, .slice none 0 0, .string ⟨#[]⟩] 26)) (.cells #[.int .i64 0, .int .i64 0, .slice none 0 0, .string ⟨#[]⟩] 26)
      rwa [World.size_alloc] at this
  have hc64 : (c : Int) ≤ 64 := by rw [← hc]; split <;> omega
  have HSt := Lib.hid hst
  have HC := Lib.hid hc
  clear hst hc
  have H1 := Lib.hid (innum_any p l e wA hR.inst)
  rw [hn1] at H1
  have HR := Lib.hid hR
  have hgp : p < g := by omega
  have hrp : p < r := by omega
  have hrg : r ≠ g := by omega
  have hrg2 : r < g := by omega
  have HN2 := Lib.hid hn2
  have HN3 := Lib.hid hn3
  have HN1 := Lib.hid hn1
  clear hs0 h hR hn1 hn2 hn3
  go_enter Tryd.func34, Tryd.ntmps34
  go_wp2_with fail
  refine H1.out.mono ?_
  rintro en w1 ⟨rfl, hi1, hg1⟩
  have R1 := HR.out.took hi1 hg1 hgp hrp
  have k0 := R1.blk.c0
  have f0 := R1.blk.fr 0
  obtain ⟨wB, hwB⟩ : ∃ wB, w1.setCell ⟨g, 0, none⟩ (.int .i64 v1) = wB := ⟨_, rfl⟩
  have RB : Rd p g r l1 e1 (.int .i64 v1) (.int .i64 0) (.slice none 0 0) (.string ⟨#[]⟩) w wB := by rw [← hwB]; exact R1.set (R1.blk.set0 _) hgp hrg
  have H2 := Lib.hid (innum_any p l1 e1 wB RB.inst)
  rw [HN2.out] at H2
  have HRB := Lib.hid RB
  clear hwA hr hg hi1 hg1 R1 RB HR H1
  go_wp2_with fail
  refine H2.out.mono ?_
  rintro en w2 ⟨rfl, hi2, hg2⟩
  have R2 := HRB.out.took hi2 hg2 hgp hrp
  have k1 := R2.blk.c1
  have f1 := R2.blk.fr 1
  obtain ⟨wC, hwC⟩ : ∃ wC, w2.setCell ⟨g, 1, none⟩ (.int .i64 v2) = wC := ⟨_, rfl⟩
  have RC : Rd p g r l2 e2 (.int .i64 v1) (.int .i64 v2) (.slice none 0 0) (.string ⟨#[]⟩) w wC := by rw [← hwC]; exact R2.set (R2.blk.set1 _) hgp hrg
  have H3 := Lib.hid (innum_any p l2 e2 wC RC.inst)
  rw [HN3.out] at H3
  have HRC := Lib.hid RC
  clear hwB k0 f0 hi2 hg2 R2 RC HRB H2
  go_wp2_with fail
  refine H3.out.mono ?_
  rintro en w3 ⟨rfl, hi3, hg3⟩
  have R3 := HRC.out.took hi3 hg3 hgp hrp
  have HR3 := Lib.hid R3
  clear hwC k1 f1 hi3 hg3 R3 HRC H3
  have HFl := Lib.hid (fail_any p l3 e3 1 w3 HR3.out.inst)
  go_upto_if 15 with fail
  go_cut [5] (fun t5 wx => t5 = .int .i64 c ∧ Rd p g r l4 e4 (.int .i64 v1) (.int .i64 v2) (.slice none 0 0) (.string ⟨#[]⟩) w wx)
  case first =>
    by_cases h64 : (64 : Int) < v3
    · go_wp2_with fail
      refine HFl.out.mono ?_
      rintro en w4 ⟨rfl, hi4, hg4⟩
      have h1 := HSt.out
      have h2 := HC.out
      rw [if_pos (by omega)] at h1 h2
      rw [h1] at hi4
      have R4 := HR3.out.took hi4 hg4 hgp hrp
      subst h2
      clear h1 hi4 hg4
      go_wp2
      go_meet
      exact ⟨rfl, R4⟩
    · have h1 := HSt.out
      have h2 := HC.out
      rw [if_neg (by omega)] at h1 h2
      cases h1
      subst h2
      go_wp2
      go_meet
      exact ⟨rfl, HR3.out⟩
  case rest =>
    obtain ⟨rfl, hRd⟩ := hcut
    have HI0 : Hid (LoopI p g r v1 v2 l4 e4 w 0 wc) := Lib.hid ⟨none, 0, hRd, World.ownsRow_nil _ _ _ _⟩
    clear hRd
    go_wp2
    go_loopw [19] (fun i wr => ∃ j : Nat, j ≤ c ∧ i = .int .i64 j ∧ Hid (LoopI p g r v1 v2 l4 e4 w j wr)) (fun i _ => c - (intOf i).toNat)
    case atStart => exact ⟨0, by omega, rfl, HI0⟩
    case round =>
      obtain ⟨j, hj, rfl, hI⟩ := hrel
      by_cases hlt : j < c
      · obtain ⟨a, cap, hRd, hown⟩ := hI.out
        obtain ⟨⟨⟨l5, e5⟩, v5⟩, hn5⟩ : ∃ q, numS (rdTake j l4 e4).1.1 (rdTake j l4 e4).1.2 = q := ⟨_, rfl⟩
        have HNum := Lib.hid (innum_any p _ _ wr.drew hRd.drew.inst)
        rw [hn5] at HNum
        obtain ⟨xs, hxs⟩ : ∃ xs, ((rdTake j l4 e4).2.map fun n : Nat => Value.int .i64 (n : Int)) = xs := ⟨_, rfl⟩
        rw [hxs] at hown
        have k2 := hRd.blk.c2
        have f2 := hRd.blk.fr 2
        have HRd := Lib.hid hRd
        have HOwn := Lib.hid hown
        have HN5 := Lib.hid hn5
        have HXs := Lib.hid hxs
        obtain ⟨i0, hi0, hz0, hz1, hz2⟩ := info_parts infoInt
        clear hI hRd hown hn5 hxs
        go_upto_block 1 with fail
        go_cut [19] (fun t19 wx => t19 = .int .i64 j ∧ ∃ a' cap', Mid p g r v1 v2 l5 e5 a' (j + 1) cap' (xs ++ [.int .i64 v5]) w wx)
        case first =>
          go_upto_region 10 with fail
          go_region_law (first
            | (go_simp; go_at_call 57; refine HNum.out.mono ?_; rintro en wq ⟨rfl, hi, hg⟩; have HQ := Lib.hid (mid_took HRd.out HOwn.out hi hg hgp hrp); clear hi hg; have kq := HQ.out.1.blk.c2; have fq := HQ.out.1.blk.fr 2; have kn : wq.heap.size ≠ g := World.new_ne wq _ kq; have kqa : (wq.alloc (.cells #[.int .i64 v5] 3)).cell? ⟨g, 2, none⟩ = some (.slice a j cap) := by (rw [World.cell?_alloc_past _ _ _ HQ.out.1.blk.lt]; exact kq))
            | (refine step_append_lies _ (by rfl) _ _ _ (by rfl) (g + 1) 3 i0 _ 1 8 Tryd.underlying22 hi0 hz0 hz1 hz2 rfl (by omega) (.slice a j cap) j xs (by rfl) (HQ.out.2.alloc _) ⟨wq.heap.size, 0, none⟩ 1 1 [.int .i64 v5] (by rfl) (by rfl) (World.news_of_block (cs := #[.int .i64 v5]) (t := 3) (fr := (0, 0)) (heap_alloc_new wq _)) (by simp [Value.oneCell']) (by omega) (by unfold maxLen; omega) (by omega) (by have := HQ.out.1.blk.lt; simp; omega) (wq.heap.size + 1) (by simp) ?_; intro gg cap' w1 hown1 hgrow hat hlt; have HA := Lib.hid (mid_app HQ.out _ hgrow hgp hrg2); have kw := HA.out.blk.c2; have fw := HA.out.blk.fr 2; have HO1 := Lib.hid hown1; clear hown1 hgrow hat hlt))
          all_goals
            go_wp2_with fail
            go_meet
            exact ⟨rfl, some ⟨gg, 0, none⟩, cap', mid_store HA.out HO1.out hgp hrg2⟩
        case rest =>
          obtain ⟨rfl, a', cap', hM⟩ := hcut
          have HI' : Hid (LoopI p g r v1 v2 l4 e4 w (j + 1) wc) := Lib.hid ⟨a', cap', by simp only [rdTake]; rw [HN5.out]; exact hM.1, by simp only [rdTake]; rw [HN5.out, List.map_append, HXs.out]; exact hM.2⟩
          clear hM
          go_wp2
          go_roundw
          case measure => simp [intOf]; omega
          case rel => first | exact ⟨j + 1, by omega, by go_num, HI'⟩ | trace_state
      · obtain rfl : j = c := by omega
        obtain ⟨a, cap, hRd, hown⟩ := hI.out
        rw [HQ6.out] at hRd hown
        simp only at hRd hown
        have hnl : ns.length = j := by have := rdTake_len j l4 e4; rw [HQ6.out] at this; exact this
        have HT := Lib.hid (intext_any p l6 e6 wr hRd.inst)
        rw [HT7.out] at HT
        have HRd := Lib.hid hRd
        have HOwn := Lib.hid hown
        have HNl := Lib.hid hnl
        clear hI hRd hown hnl
        go_wp2_with fail
        refine HT.out.mono ?_
        rintro en w7 ⟨t, rfl, htl, hi7, hg7⟩
        have R7 := HRd.out.took hi7 hg7 hgp hrp
        have own7 := World.ownsRow.kept HOwn.out hg7 (.inr (Ne.symm (row_ne (k := p) HOwn.out (by omega))))
        have k3 := R7.blk.c3
        have f3 := R7.blk.fr 3
        obtain ⟨wD, hwD⟩ : ∃ wD, w7.setCell ⟨g, 3, none⟩ (.string t) = wD := ⟨_, rfl⟩
        have RD : Rd p g r l7 e7 (.int .i64 v1) (.int .i64 v2) (.slice a j cap) (.string t) w wD := by rw [← hwD]; exact R7.set (R7.blk.set3 _) hgp hrg
        have ownD := World.ownsRow.kept own7 (grown_set w7 g 3 (.string t)) (.inr (Ne.symm (row_ne (k := g) own7 (by omega))))
        rw [hwD] at ownD
        have hts : (t.size : Int) ≤ 1000000 := by
          obtain ⟨s6, _, hs6, hz6⟩ := HRd.out.inst
          have h1 := textS_len l6 e6
          rw [HT7.out, ← htl, ← hs6] at h1
          have h2 : t.size ≤ s6.size := h1
          omega
        have HEnd := Lib.hid (end_any p l7 e7 wD.drew RD.drew.inst)
        have HRD := Lib.hid RD
        have HOwnD := Lib.hid ownD
        have HTl := Lib.hid htl
        have HTs := Lib.hid hts
        clear hi7 hg7 R7 own7 htl hts ownD
        have d0 := HRD.out.blk.c0
        have d1 := HRD.out.blk.c1
        have d2 := HRD.out.blk.c2
        have d3 := HRD.out.blk.c3
        obtain ⟨x0, x1, x2, x3, hres⟩ := HRD.out.res
        have r0 := hres.c0
        have r1 := hres.c1
        have r2 := hres.c2
        have r3 := hres.c3
        have q0 := hres.fr 0
        have q1 := hres.fr 1
        have q2 := hres.fr 2
        have q3 := hres.fr 3
        clear hres RD
        go_upto_region 13 with fail
        go_region_with (go_at_call 60; refine HEnd.out.mono ?_; rintro en w' ⟨rfl, rfl⟩)
        all_goals go_wp2_with fail
        all_goals refine bodyPost_ret (v := .tuple #[.agg #[.int .i64 v1, .int .i64 v2, .slice a j cap, .string t], .int .i64 (endS l7 e7 : Nat)]) (by rw [results_cell_tmp rfl]; go_simp) rfl ?_
        all_goals
          have hF : FinR p g (.slice a j cap) j (ns.map fun n : Nat => Value.int .i64 (n : Int)) w _ := (((((show FinR p g (.slice a j cap) j _ w wD from ⟨HRD.out.below, HOwnD.out⟩).set hrp hrg2 0 (.int .i64 v1)).set hrp hrg2 1 (.int .i64 v2)).set hrp hrg2 2 (.slice a j cap)).set hrp hrg2 3 (.string t)).drew
          obtain ⟨hB, hO⟩ := hF
          rw [← HP.out]
          exact ⟨a, cap, t, by rw [HNl.out]; rfl, HTl.out, HTs.out, nums_of_own' HNl.out hO, fun b off e => by have := own_lt hO b off e; omega, hB⟩
end Go.Proofs.YtghnkpfnpidncaaDoor.G
