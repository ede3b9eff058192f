/- The program's grid: Resize. -/
import Derived.Test.YtkggmcnocpgnbaaDoorJSix
namespace Go.Proofs.YtkggmcnocpgnbaaDoor.K
open Go.RowKit Go.Shelf

attribute [local go_sem] Oper.semAt_some

theorem tmps_named {F : Fence} {n : Nat} {P : Program} {c : Code} {Q : Exit → Act → World → Prop} {a : Act} {w : World} (h : ∀ A : Array Value, a.tmps = A → c.wpIn F n P Q a w) : c.wpIn F n P Q a w := h _ rfl
/-- the rows that were put, and blanks -/
def szS (W H : Nat) (l : List Ro) : List Ro := (l.map fun r => resizeS r W) ++ List.replicate (H - l.length) (blankR W 0)
theorem szS_length {W H : Nat} {l : List Ro} (h : l.length ≤ H) : (szS W H l).length = H := by unfold szS; rw [List.length_append, List.length_map, List.length_replicate]; omega
theorem szS_set {W H : Nat} {l : List Ro} (r : Ro) (h : l.length < H) : setG ⟨W, szS W H l⟩ (l.length : Int) r = ⟨W, szS W H (l ++ [r])⟩ := by
  unfold setG
  rw [if_pos ⟨by omega, by show (l.length : Int) < ((szS W H l).length : Int); rw [szS_length (by omega)]; omega⟩, Int.toNat_natCast]
  simp only
  congr 1
  unfold szS
  rw [List.set_append_right _ _ (by rw [List.length_map]; exact Nat.le_refl _), List.length_map, Nat.sub_self, List.map_append, List.length_append, List.length_singleton]
  obtain ⟨d, hd⟩ : ∃ d, H - l.length = d + 1 := ⟨H - l.length - 1, by omega⟩
  rw [hd, List.replicate_succ, List.set_cons_zero, show H - (l.length + 1) = d by omega]
  simp
theorem szS_stop {W H : Nat} {l : List Ro} (r : Ro) (h : l.length = H) : setG ⟨W, szS W H l⟩ (l.length : Int) r = ⟨W, szS W H l⟩ := by
  unfold setG
  rw [if_neg (by rintro ⟨_, h2⟩; rw [show ((⟨W, szS W H l⟩ : Gd).rs.length) = H from szS_length (by omega)] at h2; omega)]
theorem szS_all (x : Gd) (w h off : Int) (l : List Ro) (hl : (l = x.rs.drop (plN x.rs.length off) ∧ l.length ≤ szN h) ∨ (l = (x.rs.drop (plN x.rs.length off)).take (szN h) ∧ l.length = szN h)) : (sizeG x w h off).1 = ⟨szN w, szS (szN w) (szN h) l⟩ := by
  unfold sizeG szS
  simp only
  congr 1
  rcases hl with ⟨rfl, h1⟩ | ⟨h1, h2⟩
  · rw [List.take_of_length_le h1, List.length_drop]
  · rw [← h1]
    have h3 : l.length ≤ x.rs.length - plN x.rs.length off := by rw [h1, List.length_take, List.length_drop]; omega
    rw [show szN h - l.length = 0 by omega, show szN h - (x.rs.length - plN x.rs.length off) = 0 by omega]
theorem GridAt.grown {g q : Nat} {x : Gd} {us : List Rv} {cap : Nat} {w w' : World} {row : Option Nat} (h : GridAt g q x us cap w) (hg : w.grownBy w' row) (hr : ∀ r, row = some r → ∃ o : Obj, w.heap[r]? = some o ∧ o.isCells = false) : GridAt g q x us cap w' := by
  have hk : ∀ (i : Nat) (cs : Array Value) (T : TypeId) fr, w.heap[i]? = some (Obj.cells cs T fr) → w'.heap[i]? = some (Obj.cells cs T fr) := fun i cs T fr hi => (hg.block i (Array.getElem?_eq_some_iff.1 hi).1 (fun e => by
    obtain ⟨o, ho, hc⟩ := hr i e.symm
    rw [hi] at ho; cases ho; cases hc)).trans hi
  have hne : ∀ u ∈ us, ∀ b off, u.a = some ⟨b, off, none⟩ → b < w.heap.size → w'.heap[b]? = w.heap[b]? := fun u hu b off e _ => by
    obtain ⟨_, cs, h5⟩ := h.ty u hu b off e
    rw [h5]; exact hk _ _ _ _ h5
  refine ⟨h.ok, hk _ _ _ _ h.gb, h.own.kept hg (fun k hq e => ?_), h.rv.moved hg.size hne, fun u hu => (h.ty u hu).moved (hne u hu)⟩
  obtain ⟨o, ho, hc⟩ := hr k e
  exact absurd (row_cellsV h.own hq ho) (by rw [hc]; decide)
theorem KeepB.grown {L : List Nat} {w w' w'' : World} {row : Option Nat} (h : KeepB L w w') (hg : w'.grownBy w'' row) (hr : ∀ r, row = some r → w.heap.size ≤ r) : KeepB L w w'' :=
  ⟨hg.os.trans h.os, hg.tape.trans h.tape, hg.output.trans h.output, Nat.le_trans h.size hg.size, fun i hi hn => (hg.block i (Nat.lt_of_lt_of_le hi h.size) (fun e => by have := hr i e.symm; omega)).trans (h.block i hi hn)⟩
theorem KeepB.from_ {L : List Nat} {w w' : World} (h : KeepB L w w') (hL : ∀ p ∈ L, p < w.heap.size → ∃ cs T, w.heap[p]? = some (.cells cs T (0, 0))) (B : Nat) : KeepsFrom B w w' := ⟨h.size, fun i o _ hi ho => h.block1 hi (fun e => by
  obtain ⟨cs, T, hp⟩ := hL i e (Array.getElem?_eq_some_iff.1 hi).1
  rw [hi] at hp; cases hp; cases ho)⟩
theorem KeepB.keepL {L M : List Nat} {w w' : World} (h : KeepB L w w') (hM : ∀ p ∈ M, p ∉ L) : KeepL M w w' := ⟨h.size, fun b hb hl => h.block b hl (hM b hb)⟩
/-- an iterator's rows, with runes of 32 bits -/
abbrev ItR (w : World) := { x : It w // AllC Rng x.r.l }
def ItR.u {w : World} (x : ItR w) : Rv := x.1.u
def ItR.r {w : World} (x : ItR w) : Ro := x.1.r
theorem itsR_of {w : World} : ∀ (its : List (It w)), (∀ x ∈ its, AllC Rng x.r.l) → ∃ jts : List (ItR w), jts.map ItR.u = its.map It.u ∧ jts.map ItR.r = its.map It.r
  | [], _ => ⟨[], rfl, rfl⟩
  | x :: its, h => by
    obtain ⟨jts, h1, h2⟩ := itsR_of its (fun y hy => h y (List.mem_cons_of_mem _ hy))
    exact ⟨⟨x, h x (by simp)⟩ :: jts, by rw [List.map_cons, List.map_cons, h1]; rfl, by rw [List.map_cons, List.map_cons, h2]; rfl⟩
/-- between two rounds of Resize: the first rows are put -/
structure RsI (W H P r qr m : Nat) (w : World) (l : List Ro) (k : Nat) (V : World) : Prop where
  p : Boxed V P 78 (.pointer (some ⟨r, 0, none⟩))
  y : Boxed V (P + 1) 3 (.int .i64 (k : Int))
  g : Gr r qr ⟨W, szS W H l⟩ V
  b : Below m w V
theorem Gr.grown {g q : Nat} {x : Gd} {w w' : World} {row : Option Nat} (h : Gr g q x w) (hg : w.grownBy w' row) (hr : ∀ r, row = some r → ∃ o : Obj, w.heap[r]? = some o ∧ o.isCells = false) : Gr g q x w' := by
  obtain ⟨us, cap, h⟩ := h
  exact ⟨us, cap, h.grown hg hr⟩
theorem boxed_grown {V V' : World} {B : Nat} {t : TypeId} {v : Value} {row : Option Nat} (h : Boxed V B t v) (hg : V.grownBy V' row) (hr : ∀ r, row = some r → ∃ o : Obj, V.heap[r]? = some o ∧ o.isCells = false) : Boxed V' B t v := h.kept hg (fun e => by
  obtain ⟨o, ho, hc⟩ := hr B e.symm
  rw [show V.heap[B]? = _ from h] at ho; cases ho; cases hc)
theorem RsI.grown {W H P r qr m : Nat} {w : World} {l : List Ro} {k : Nat} {V V' : World} {row : Option Nat} (h : RsI W H P r qr m w l k V) (hm : m ≤ V.heap.size) (hg : V.grownBy V' row) (hr : ∀ r, row = some r → m ≤ r ∧ ∃ o : Obj, V.heap[r]? = some o ∧ o.isCells = false) : RsI W H P r qr m w l k V' :=
  ⟨boxed_grown h.p hg (fun r e => (hr r e).2), boxed_grown h.y hg (fun r e => (hr r e).2), h.g.grown hg (fun r e => (hr r e).2), h.b.grown hg hm (fun r e => (hr r e).1)⟩
/-- a struct of two cells that is put over another one -/
theorem put2 {V : World} {g : Nat} {a b : Value} {T : TypeId} (h : V.heap[g]? = some (.cells #[a, b] T (0, 0))) (u v : Value) : ((V.setCell ⟨g, 0, none⟩ u).setCell ⟨g, 1, none⟩ v).heap[g]? = some (.cells #[u, v] T (0, 0)) := by
  simp [World.setCell, Array.getElem?_modify, h]
theorem GridAt.put {g r qr : Nat} {y : Gd} {vs : List Rv} {cap' : Nat} {V : World} {a b : Value} (h : GridAt r qr y vs cap' V) (hg : V.heap[g]? = some (.cells #[a, b] 130 (0, 0))) (hne : g ≠ qr) : GridAt g qr y vs cap' ((V.setCell ⟨g, 0, none⟩ (.int .i64 (y.W : Int))).setCell ⟨g, 1, none⟩ (.slice (some ⟨qr, 0, none⟩) vs.length cap')) := by
  have hk : KeepB [g] V ((V.setCell ⟨g, 0, none⟩ (.int .i64 (y.W : Int))).setCell ⟨g, 1, none⟩ (.slice (some ⟨qr, 0, none⟩) vs.length cap')) := (KeepB.setCell _).trans (KeepB.setCell _)
  have hk' : ∀ u ∈ vs, ∀ b off, u.a = some ⟨b, off, none⟩ → b < V.heap.size → ((V.setCell ⟨g, 0, none⟩ (.int .i64 (y.W : Int))).setCell ⟨g, 1, none⟩ (.slice (some ⟨qr, 0, none⟩) vs.length cap')).heap[b]? = V.heap[b]? := fun u hu b off e hl => hk.block b hl (fun hb => (h.ty u hu).ne hg (by decide) b off e (by simpa using hb))
  refine ⟨h.ok, put2 hg _ _, ?_, h.rv.moved hk.size hk', fun u hu => (h.ty u hu).moved (hk' u hu)⟩
  have ho := h.own
  refine ⟨ho.1, ?_⟩
  rcases ho.2 with ⟨h0, _⟩ | ⟨g', c', cur, he, hbase, hgb, hc, hmx, hsz, ht⟩
  · cases h0
  · cases he
    exact .inr ⟨_, _, cur, rfl, hbase, (hk.block qr h.lt.2 (fun e => hne (List.mem_singleton.1 e).symm)).trans hgb, hc, hmx, hsz, ht⟩
/-- what Resize leaves -/
def SizPost (g : Nat) (L : List Nat) (y : Gd × List Ro) (w : World) (e : Ending) (w' : World) : Prop := ∃ a m c q', e = .returned (.slice a m c) ∧ RowsL .i32 (q' :: L) a m c y.2 w' ∧ Gr g q' y.1 w' ∧ w.heap.size ≤ q' ∧ KeepB [g] w w'

set_option maxRecDepth 100000 in
set_option maxHeartbeats 8000000 in
theorem gresize_in (n : Nat) (hn : 20 ≤ n) {g q : Nat} {L : List Nat} {x : Gd} (W0 H0 off : Int) (w : World) (h : Gr g q x w) (hL : ∀ p ∈ L, p < w.heap.size) :
    CallsIn Fence.wide n Tryd.prog 71 #[.pointer (some ⟨g, 0, none⟩), .int .i64 W0, .int .i64 H0, .int .i64 off] w (SizPost g L (sizeG x W0 H0 off) w) := by
  have h1 : 1 ≤ n := by omega
  obtain ⟨us, cap, h⟩ := h
  have hf := h.few
  have hfit := h.fit
  have HN := Lib.hid (gnear_any off 0 ((us.length : Int) - 1) w)
  rw [plN_near (by omega)] at HN
  have ho := plN_lt (by omega : 0 < us.length) off
  have hul := h.ulen
  have hfin := szS_all x W0 H0 off
  have hok := sizeG_ok h.ok W0 H0 off
  have hs2 : (sizeG x W0 H0 off).2 = x.rs.take (plN x.rs.length off) := rfl
  rw [← hul] at hfin hs2
  obtain ⟨o, hoe⟩ : ∃ o, plN us.length off = o := ⟨_, rfl⟩
  rw [hoe] at HN ho hfin hs2
  have hll : ∀ r ∈ x.rs, r.l.length ≤ 1000 := fun r hr => by rw [h.ok.len r hr]; exact h.ok.w2
  have hL' : ∀ p ∈ g :: L, p < w.heap.size := fun p hp => by
    rcases List.mem_cons.1 hp with rfl | hp
    · exact h.lt.1
    · exact hL p hp
  have HC := Lib.hid (copyDown_any (L := g :: L) w (h.rin.sub 0 o (by omega)) ((h.rv.take (0 + o)).drop 0) (fun r hr => hll r (List.mem_of_mem_take (List.mem_of_mem_drop hr))) (by rw [List.length_drop, List.length_take]; omega) hL')
  rw [Nat.zero_add, Nat.zero_mul, Nat.sub_zero, List.drop_zero] at HC
  have HG := Lib.hid h
  have c1 := h.c1
  have hoc : o ≤ cap := by omega
  have hocI : (o : Int) ≤ us.length := by omega
  have hno : ¬ cap = o := by omega
  have hlen3 : (us.length : Int) ≤ 1000 := by omega
  have hcapI := hfit.2
  have hcapL : us.length ≤ cap := hfit.1
  have HFin := Lib.hid hfin
  have HOk := Lib.hid hok
  have HS2 := Lib.hid hs2
  have HUl := Lib.hid hul
  have HLl := Lib.hid hll
  have HL := Lib.hid hL
  have HN1 := Lib.hid (gnew_any W0 H0)
  obtain ⟨len, hle⟩ : ∃ len, us.length = len := ⟨_, rfl⟩
  rw [hle] at c1 HN hocI ho hf hlen3 hcapL
  have HLe := Lib.hid hle
  clear hfin hok hs2 hul hll h hL hL' hoe hle hfit
  refine callsIn_of_wp_marks Tryd.func71 rfl trivial ?_ rfl
  simp only [Tryd.ntmps71, List.size_toArray, List.length_cons, List.length_nil, Nat.reduceAdd, Nat.reduceSub, Array.replicate_succ, Array.replicate_zero, List.push_toArray, List.append_toArray, List.nil_append, List.cons_append]
  gi_wp2_with (refine ⟨by first | trivial | omega, ?_⟩; gi_at_call 91; refine (callsIn_wide.2 HN.out).mono ?_; rintro e w' ⟨rfl, rfl⟩)
  refine ⟨by first | trivial | omega, ?_⟩
  refine (down_in (n - 1) _ _ _ w).mono ?_
  rintro e w' ⟨rfl, rfl⟩
  gi_wp2_with fail
  refine ⟨by first | trivial | omega, ?_⟩
  refine (callsIn_wide.2 HC.out).mono ?_
  rintro e w1 ⟨a, ma, c, us', rfl, hRL, -, -, hb1⟩
  have HRL := Lib.hid hRL
  have HB1 := Lib.hid hb1
  clear hRL hb1 HC HN
  gi_wp2_with fail
  refine ⟨by first | trivial | omega, ?_⟩
  refine (callsIn_wide.2 (HN1.out w1)).mono ?_
  rintro e w2 ⟨r, qr, rfl, hr1, hq1, hGn, hb2⟩
  have HGn := Lib.hid hGn
  have HB2 := Lib.hid hb2
  have c1' := (HG.out.below (HB1.out.trans (HB2.out.mono HB1.out.size))).c1
  rw [HLe.out] at c1'
  clear hGn hb2 HN1 c1
  obtain ⟨Pz, hPz⟩ : ∃ Pz, w2.heap.size = Pz := ⟨_, rfl⟩
  obtain ⟨w3, hw3⟩ : ∃ w3, w2.alloc (.cells #[.pointer (some ⟨r, 0, none⟩)] 78) = w3 := ⟨_, rfl⟩
  obtain ⟨w4, hw4⟩ : ∃ w4, w3.alloc (.cells #[.int .i64 0] 3) = w4 := ⟨_, rfl⟩
  have hs3 : w3.heap.size = Pz + 1 := by rw [← hw3, World.size_alloc, hPz]
  have hs4 : w4.heap.size = Pz + 2 := by rw [← hw4, World.size_alloc, hs3]
  have b23 : Below w2.heap.size w2 w3 := by rw [← hw3]; exact (Below.refl _ _).alloc (Nat.le_refl _) _
  have b34 : Below w3.heap.size w3 w4 := by rw [← hw4]; exact (Below.refl _ _).alloc (Nat.le_refl _) _
  have b24 : Below w2.heap.size w2 w4 := b23.trans (b34.mono (by omega))
  have bP : Boxed w4 Pz 78 (.pointer (some ⟨r, 0, none⟩)) := by rw [← hw4, ← hw3, ← hPz]; exact (Boxed.new w2 _ _).alloc _
  have bY : Boxed w4 (Pz + 1) 3 (.int .i64 0) := by rw [← hw4, ← hs3]; exact Boxed.new w3 _ _
  have hG4 := HG.out.below ((HB1.out.trans (HB2.out.mono HB1.out.size)).trans (b24.mono (Nat.le_trans HB1.out.size HB2.out.size)))
  have c4 := hG4.c1
  rw [HLe.out] at c4
  rw [← hw4, ← hw3] at c4
  have HG4 := Lib.hid hG4
  have HGn4 := Lib.hid (HGn.out.below b24)
  have HBP := Lib.hid bP
  have HBY := Lib.hid bY
  have HB24 := Lib.hid b24
  have HW3 := Lib.hid hw3
  have HW4 := Lib.hid hw4
  have HPz := Lib.hid hPz
  have HS4 := Lib.hid hs4
  have HS3 := Lib.hid hs3
  clear hs3 hs4 b23 b34 b24 bP bY hG4 hw3 hw4 hPz
  gi_wp2_with fail
  refine ⟨by first | trivial | omega, ?_⟩
  refine (down_in (n - 1) _ _ _ _).mono ?_
  rintro e w' ⟨rfl, rfl⟩
  gi_wp2_with fail
  rw [HW3.out, HW4.out, HPz.out]
  obtain ⟨w5, hw5⟩ : ∃ w5, w4.alloc (.cells #[.slice (some ⟨q, o * 2, none⟩) (len - o) (cap - o)] 66) = w5 := ⟨_, rfl⟩
  rw [hw5]
  have b45 : Below w4.heap.size w4 w5 := by rw [← hw5]; exact (Below.refl _ _).alloc (Nat.le_refl _) _
  have b04 : Below w.heap.size w w4 := (HB1.out.trans (HB2.out.mono HB1.out.size)).trans (HB24.out.mono (Nat.le_trans HB1.out.size HB2.out.size))
  have b05 : Below w.heap.size w w5 := b04.trans (b45.mono b04.size)
  have hsub := HG4.out.rin.sub o (len - o) (by rw [HLe.out]; omega)
  have htk : (us.take (o + (len - o))).drop o = us.drop o := by rw [List.take_of_length_le (by rw [HLe.out]; omega)]
  rw [htk] at hsub
  have hzn : ∀ l : List Ro, l.length ≤ szN H0 → (szS (szN W0) (szN H0) l).length = szN H0 := fun l hl => szS_length hl
  have hrs0 := HG.out.rv.drop o
  obtain ⟨its0, hi1, hi2⟩ := its_of hrs0 (fun r hr => HLl.out r (List.mem_of_mem_drop hr))
  obtain ⟨its, hj1, hj2⟩ := itsR_of its0 (fun x hx => HG.out.ok.rng x.r (List.mem_of_mem_drop (by rw [← hi2]; exact List.mem_map_of_mem hx)))
  rw [hi1] at hj1
  rw [hi2] at hj2
  have hlk5 : LooksV (Pz + 1 + 1) (some ⟨q, o * 2, none⟩) (len - o) (cap - o) (its.map ItR.u) w5 := by
    rw [hj1, ← hw5, show Pz + 1 + 1 = w4.heap.size from HS4.out.symm]
    exact looksV_new hsub
  have hlk : ∀ b ∈ lookV (Pz + 1 + 1) (some ⟨q, o * 2, none⟩) its, b < w5.heap.size := by
    have h := hlk5.all
    intro b hb
    exact h b (by cases its <;> exact hb)
  have hlen : its.length ≤ 1000 := by
    have h1 := congrArg List.length hj1
    rw [List.length_map, List.length_drop, HLe.out] at h1
    omega
  have hqw := HG.out.lt.2
  have hgw := HG.out.lt.1
  have hs5 : w5.heap.size = Pz + 3 := by rw [← hw5, World.size_alloc, HS4.out]
  have hw2z : w2.heap.size = Pz := HPz.out
  have hrw : r < Pz ∧ qr < Pz := by
    obtain ⟨us2, cap2, h2⟩ := HGn.out
    rw [← hw2z]; exact h2.lt
  have hgr : w.heap.size ≤ r ∧ w.heap.size ≤ qr := ⟨Nat.le_trans HB1.out.size hr1, Nat.le_trans HB1.out.size hq1⟩
  have b15 : Below w1.heap.size w1 w5 := HB2.out.trans ((HB24.out.trans (b45.mono HB24.out.size)).mono HB2.out.size)
  have hP5 : RsI (szN W0) (szN H0) Pz r qr w1.heap.size w1 [] 0 w5 := by
    refine ⟨?_, ?_, ?_, b15⟩
    · rw [← hw5]; exact HBP.out.alloc _
    · rw [← hw5]; exact HBY.out.alloc _
    · have h := HGn4.out.below b45
      have e : newG W0 H0 = ⟨szN W0, szS (szN W0) (szN H0) []⟩ := by unfold newG szS; simp
      rw [← e]; exact h
  have hnot : ∀ p ∈ [r, qr], p ∉ lookV (Pz + 1 + 1) (some ⟨q, o * 2, none⟩) its := by
    intro p hp hb
    have hp' : p = r ∨ p = qr := by simpa using hp
    have hq' : p = Pz + 1 + 1 ∨ p = q := by
      unfold lookV at hb
      rcases List.mem_cons.1 hb with h | h
      · exact .inl h
      · right
        cases its with
        | nil => cases h
        | cons z zs => simpa [blkV] using h
    omega
  have HIts := Lib.hid hj2
  have HLk := Lib.hid hlk5
  have HNot := Lib.hid hnot
  have HP5 := Lib.hid hP5
  have HB05 := Lib.hid b05
  have HS5 := Lib.hid hs5
  have HW5 := Lib.hid hw5
  have HLen := Lib.hid hlen
  have HHlk := Lib.hid hlk
  clear hj2 hj1 hi1 hi2 hrs0 hsub htk b45 b04 b15 hlk5 hnot hP5 b05 hs5 hw5 hlen hlk hzn c4 c1'
  refine tmps_named fun A hA => ?_
  rename_i K hK
  have hw15 : w1.heap.size ≤ w5.heap.size := HP5.out.b.size
  have HEnd : ∀ (V : World) (D : Nat) (l : List Ro), w5.heap.size ≤ D → V.heap[D]? = some (.deferred (some [])) → (∃ k, RsI (szN W0) (szN H0) Pz r qr w1.heap.size w1 l k V) → ((l = x.rs.drop o ∧ l.length ≤ szN H0) ∨ (l = (x.rs.drop o).take (szN H0) ∧ l.length = szN H0)) → K { tmps := A, defers := [{ target := .collected D, args := #[] }] } V := by
    rintro V D l hD hDf ⟨k, hI⟩ hl
    have hfin := HFin.out l hl
    obtain ⟨us2, cap2, hG2⟩ := hI.g
    have b0V : Below w.heap.size w V := HB1.out.trans (hI.b.mono HB1.out.size)
    have hg0 := HG.out.below b0V
    have gb := hg0.gb
    have e0 := hI.p.cell
    have e1 := hG2.c0
    have e2 := hG2.c1
    have f0 := hg0.fr 0
    have f1 := hg0.fr 1
    have d0 := hg0.c0
    have d1 := hg0.c1
    have HG2 := Lib.hid hG2
    have HGb := Lib.hid gb
    have HI := Lib.hid hI
    have HDf := Lib.hid hDf
    have HD := Lib.hid hD
    have HFn := Lib.hid hfin
    have HB0 := Lib.hid b0V
    have hs2 := hG2.fit
    obtain ⟨m2, hm2⟩ : ∃ m2, us2.length = m2 := ⟨_, rfl⟩
    rw [hm2] at e2
    have HM2 := Lib.hid hm2
    have hgq : g ≠ qr := by omega
    have HGq := Lib.hid hgq
    clear hl hI hG2 hg0 gb hDf hD b0V hfin hs2 hm2 hgq
    subst hA
    refine hK _ _ ?_
    gi_wp2_with fail
    obtain ⟨V2, hV2⟩ : ∃ V2, (V.setCell ⟨g, 0, none⟩ (.int .i64 (szN W0 : Int))).setCell ⟨g, 1, none⟩ (.slice (some ⟨qr, 0, none⟩) m2 cap2) = V2 := ⟨_, rfl⟩
    have hK2 : V2.heap[D]? = some (.deferred (some [])) := by
      rw [← hV2]
      exact (KeepsOthers.setCell _ _ _).same D _ ((KeepsOthers.setCell _ _ _).same D _ HDf.out rfl) rfl
    refine ⟨by simp, .inl ⟨_, _, rfl, run_takeDeferred (by first | exact hK2 | (rw [hV2]; exact hK2)), ?_⟩⟩
    refine ⟨_, results_tmp rfl _ _ _, ?_⟩
    try rw [hV2]
    have hG4 := HG2.out.put HGb.out HGq.out
    rw [HM2.out] at hG4
    have hV2' : (V.setCell ⟨g, 0, none⟩ (.int .i64 ((⟨szN W0, szS (szN W0) (szN H0) l⟩ : Gd).W : Int))).setCell ⟨g, 1, none⟩ (.slice (some ⟨qr, 0, none⟩) m2 cap2) = V2 := hV2
    rw [hV2'] at hG4
    have hgp := grownBy_putObj' V2 D (.deferred none)
    have k2 : KeepB [g] w1 V2 := by
      rw [← hV2]
      exact ((KeepB.of_below HI.out.b).trans (KeepB.setCell _)).trans (KeepB.setCell _)
    have k3 : KeepB [g] w1 (V2.putObj D (.deferred none)) := k2.grown hgp (fun r e => by cases e; have := HD.out; omega)
    have hG5 : Gr g qr ⟨szN W0, szS (szN W0) (szN H0) l⟩ (V2.putObj D (.deferred none)) := Gr.grown ⟨us2, cap2, hG4⟩ hgp (fun r e => by cases e; exact ⟨_, hK2, rfl⟩)
    refine ⟨a, ma, c, qr, rfl, ?_, ?_, hgr.2, (KeepB.of_below HB1.out).trans k3⟩
    · rw [HS2.out]
      exact (((HRL.out.cons hq1).keptB (k3.mono (fun i hi => by rw [List.mem_singleton.1 hi]; simp)))).sub (fun p hp => by
        rcases List.mem_cons.1 hp with rfl | hp
        · simp
        · simp [hp])
    · rw [HFn.out]; exact hG5
  have HEnd := Lib.hid HEnd
  clear hK
  refine wpIn_rangeFunc_ownH rfl h1 (gf := 104) (lb := #[.pointer (some ⟨Pz + 1 + 1, 0, none⟩)]) rfl trivial (enters_of Tryd.func104 (by kernel_rfl) rfl)
    (down_stopsG ItR.u (n - 1) (by omega) (Pz + 1 + 1) _ _ _ its (by have := HLen.out; omega) w5 HLk.out) keepL_t (keepL_b HHlk.out) (Below.refl _ _) (fun _ => rfl)
    (fun pre V => pre.length ≤ szN H0 ∧ w5.heap.size ≤ V.heap.size ∧ RsI (szN W0) (szN H0) Pz r qr w1.heap.size w1 (pre.map ItR.r) pre.length V)
    (fun c pre V => c = .exit 0 ∧ ∃ p y, pre = p ++ [y] ∧ p.length = szN H0 ∧ RsI (szN W0) (szN H0) Pz r qr w1.heap.size w1 (p.map ItR.r) p.length V)
    (fun s X Y row hs hg hr => ⟨hs.1, Nat.le_trans hs.2.1 hg.size, hs.2.2.grown hs.2.2.b.size hg (fun r e => ⟨by have := (hr r e).1; omega, (hr r e).2⟩)⟩)
    (fun c s X Y row hs hg hr => by
      obtain ⟨e, p, y, h1, h2, h3⟩ := hs
      exact ⟨e, p, y, h1, h2, h3.grown h3.b.size hg (fun r e => ⟨by have := (hr r e).1; omega, (hr r e).2⟩)⟩)
    ⟨Nat.zero_le _, Nat.le_refl _, HP5.out⟩
    (fun x a' V => ∃ Bx, w5.heap.size ≤ Bx ∧ RoB 27 Bx (.slice x.u.a x.u.n x.u.c) x.u.b V ∧ a' = { tmps := (A.setIfInBounds 39 x.u.val).setIfInBounds 12 (.pointer (some ⟨Bx, 0, none⟩)), defers := [] })
    (fun x a' s X Y row hs hg hr => by
      obtain ⟨Bx, hb1, hb2, hb3⟩ := hs
      refine ⟨Bx, hb1, hb2.grown hg (fun e => ?_), hb3⟩
      obtain ⟨_, o, ho, hc⟩ := hr Bx e
      rw [show X.heap[Bx]? = _ from hb2] at ho
      cases ho
      cases hc)
    ?assign ?body ?done ?stop
  case assign =>
    rintro l pre x V K' ⟨hpl, hsz, hI⟩ hK'
    obtain ⟨ua, un, uc, ub, hu⟩ : ∃ ua un uc ub, x.u = ⟨ua, un, uc, ub⟩ := ⟨_, _, _, _, rfl⟩
    rw [hu] at hK' ⊢
    simp only [Rv.val] at hK' ⊢
    subst hA
    gi_wp2
    refine hK' _ _ ((KeepsOthers.alloc _ _).from _) (KeepL.of_below ((Below.refl _ V).alloc (Nat.le_refl _) _) (fun b hb => Nat.lt_of_lt_of_le (HHlk.out b hb) hsz)) ⟨hpl, Nat.le_trans hsz (by simp), hI.grown hI.b.size (World.grownBy_alloc V _ none) (fun r e => by cases e)⟩ ⟨V.heap.size, hsz, RoB.new _ _ _ _, ?_⟩
    first | rfl | simp
  case body =>
    rintro l pre x a' V hl0 - ⟨hpl, hsz, hI⟩ ⟨Bx, hBx, hX, rfl⟩ -
    have b0V : Below w.heap.size w V := HB1.out.trans (hI.b.mono HB1.out.size)
    have hxv : RowV .i32 x.u.val x.r V := RowV.belowAll x.1.2.1 b0V
    have hpz : Pz ∉ [r, qr] := fun h => by have : Pz = r ∨ Pz = qr := by simpa using h
                                           omega
    have hpz1 : Pz + 1 ∉ [r, qr] := fun h => by have : Pz + 1 = r ∨ Pz + 1 = qr := by simpa using h
                                                omega
    have hcl : ∀ p ∈ [r, qr], p < V.heap.size → ∃ cs T, V.heap[p]? = some (.cells cs T (0, 0)) := fun p hp _ => by
      obtain ⟨us2, cap2, hG2⟩ := hI.g
      have : p = r ∨ p = qr := by simpa using hp
      rcases this with rfl | rfl
      · exact ⟨_, _, hG2.gb⟩
      · obtain ⟨cs, hc⟩ := hG2.qb
        exact ⟨cs, _, hc⟩
    have hset := gset_any (pre.length : Int) V hI.g hxv x.2 x.1.2.2
    have hlm : (pre.map ItR.r).length = pre.length := List.length_map ..
    have hzl : (⟨szN W0, szS (szN W0) (szN H0) (pre.map ItR.r)⟩ : Gd).rs.length = szN H0 := szS_length (by rw [hlm]; exact hpl)
    rw [hzl] at hset
    obtain ⟨ua, un, uc, ub, hu⟩ : ∃ ua un uc ub, x.u = ⟨ua, un, uc, ub⟩ := ⟨_, _, _, _, rfl⟩
    rw [hu] at hX hset ⊢
    simp only [Rv.val] at hX hset ⊢
    have r0 := hX.c0
    have r1 := hX.c1
    have e0 := hI.p.cell
    have e1 := hI.y.cell
    have f1 := hI.y.frozen
    have hsr := szS_set (W := szN W0) (H := szN H0) (l := pre.map ItR.r) x.r
    have hss := szS_stop (W := szN W0) (H := szN H0) (l := pre.map ItR.r) x.r
    rw [hlm] at hsr hss
    obtain ⟨k, hk⟩ : ∃ k, pre.length = k := ⟨_, rfl⟩
    rw [hk] at hset hsr hss hpl hI e1
    have hkI : (k : Int) ≤ 1000 := by have := szN_le H0; omega
    have HI := Lib.hid hI
    have HSz := Lib.hid hsz
    have HCl := Lib.hid hcl
    have HKe := Lib.hid hk
    have HPz1 := Lib.hid hpz1
    have HPz0 := Lib.hid hpz
    have HLm := Lib.hid hlm
    by_cases hc : k < szN H0
    · have hd : decide (0 ≤ (k : Int) ∧ (k : Int) < (szN H0 : Int)) = true := decide_eq_true ⟨by omega, by omega⟩
      rw [hd, hsr hc] at hset
      have HSet := Lib.hid hset
      have HC := Lib.hid hc
      clear hsr hss hset hd hc hpl hI hsz hcl hk hpz1 hpz hlm hzl hX hxv b0V hu
      subst hA
      simp only [List.setIfInBounds_toArray, List.set_cons_succ, List.set_cons_zero]
      gi_wp2_with fail
      refine ⟨trivial, fun _ => by omega, ?_⟩
      refine (CallsIn.inRound l (callsIn_wide.2 HSet.out)).mono ?_
      rintro e V2 ⟨rfl, hG2, hk2⟩
      have bP2 : Boxed V2 Pz 78 (.pointer (some ⟨r, 0, none⟩)) := hk2.block1 HI.out.p HPz0.out
      have bY2 : Boxed V2 (Pz + 1) 3 (.int .i64 (k : Int)) := hk2.block1 HI.out.y HPz1.out
      have e1 := bY2.cell
      have f1 := bY2.frozen
      have HG2 := Lib.hid hG2
      have HK2 := Lib.hid hk2
      have BP2 := Lib.hid bP2
      have BY2 := Lib.hid bY2
      clear hG2 hk2 bP2 bY2 HSet
      gi_wp2_with fail
      have hgu : KeepsFrom w5.heap.size V V2 := HK2.out.from_ HCl.out _
      have hk3 : KeepB [Pz + 1] V2 (V2.setCell ⟨Pz + 1, 0, none⟩ (.int .i64 ((k : Int) + 1))) := KeepB.setCell _
      have hns : ∀ p ∈ [Pz + 1], p < V2.heap.size → ∃ cs T, V2.heap[p]? = some (.cells cs T (0, 0)) ∧ T ≠ 105 := fun p hp _ => by
        rw [List.mem_singleton.1 hp]; exact ⟨_, _, BY2.out, by decide⟩
      refine ⟨hgu.trans ((KeepsOthers.setCell _ _ _).from _), keepL_t (HK2.out.keepL (fun b hb hb' => HNot.out b hb' hb)) (hk3.keepL (fun b hb hb' => ?_)), ?_, ?_, ⟨?_, ?_, ?_, ?_⟩⟩
      · rw [List.mem_singleton.1 hb'] at hb
        unfold lookV at hb
        rcases List.mem_cons.1 hb with h | h
        · omega
        · have : Pz + 1 = q := by
            cases its with
            | nil => cases h
            | cons z zs => simpa [blkV] using h
          omega
      · rw [List.length_append, HKe.out]; exact HC.out
      · exact Nat.le_trans HSz.out (Nat.le_trans HK2.out.size (by simp))
      · exact hk3.block1 BP2.out (by simp)
      · rw [List.length_append, HKe.out]
        exact BY2.out.set _
      · rw [List.map_append]
        obtain ⟨us2, cap2, h2⟩ := HG2.out
        exact ⟨us2, cap2, h2.kept hk3 (fun h => by rw [List.mem_singleton] at h; omega) (fun h => by rw [List.mem_singleton] at h; omega) hns⟩
      · exact hk3.below (fun i hi => by rw [List.mem_singleton.1 hi]; have := HB2.out.size; omega) (HK2.out.below (fun i hi => by have h2 : i = r ∨ i = qr := (by simpa using hi); omega) HI.out.b HI.out.b.size) (Nat.le_trans HI.out.b.size HK2.out.size)
    · have hd : decide (0 ≤ (k : Int) ∧ (k : Int) < (szN H0 : Int)) = false := decide_eq_false (by omega)
      have hkH : k = szN H0 := by omega
      rw [hd, hss hkH] at hset
      have HSet := Lib.hid hset
      have HC := Lib.hid hkH
      clear hsr hss hset hd hc hpl hI hsz hcl hk hpz1 hpz hlm hzl hX hxv b0V hu hkH
      subst hA
      simp only [List.setIfInBounds_toArray, List.set_cons_succ, List.set_cons_zero]
      gi_wp2_with fail
      refine ⟨trivial, fun _ => by omega, ?_⟩
      refine (CallsIn.inRound l (callsIn_wide.2 HSet.out)).mono ?_
      rintro e V2 ⟨rfl, hG2, hk2⟩
      have bP2 : Boxed V2 Pz 78 (.pointer (some ⟨r, 0, none⟩)) := hk2.block1 HI.out.p HPz0.out
      have bY2 : Boxed V2 (Pz + 1) 3 (.int .i64 (k : Int)) := hk2.block1 HI.out.y HPz1.out
      have e1 := bY2.cell
      have f1 := bY2.frozen
      have HG2 := Lib.hid hG2
      have HK2 := Lib.hid hk2
      have BP2 := Lib.hid bP2
      have BY2 := Lib.hid bY2
      clear hG2 hk2 bP2 bY2 HSet
      gi_wp2_with fail
      have hgu : KeepsFrom w5.heap.size V V2 := HK2.out.from_ HCl.out _
      refine ⟨hgu, rfl, pre, x, rfl, by rw [HKe.out]; exact HC.out, ⟨BP2.out, by rw [HKe.out]; exact BY2.out, HG2.out, ?_⟩⟩
      exact HK2.out.below (fun i hi => by have h2 : i = r ∨ i = qr := (by simpa using hi); omega) HI.out.b HI.out.b.size
  case done =>
    rintro D xs V hD rfl ⟨hpl, hsz, hI⟩ hK
    have h := HEnd.out V D (xs.map ItR.r) hD hK ⟨_, hI⟩ (.inl ⟨HIts.out, by rw [List.length_map]; exact hpl⟩)
    rw [← hA] at h
    exact h
  case stop =>
    rintro D c pre V hD ⟨j, hj, rfl⟩ ⟨rfl, p, y, hp, hpl, hI⟩ hK
    have hpe : p = its.take (szN H0) := by
      have h1 : (its.take j).take (szN H0) = p := by rw [hp, List.take_left' hpl]
      have h2 := congrArg List.length hp
      rw [List.length_take, List.length_append, List.length_singleton, hpl] at h2
      rw [List.take_take, Nat.min_eq_left (by omega)] at h1
      exact h1.symm
    have h := HEnd.out V D (p.map ItR.r) hD hK ⟨_, hI⟩ (.inr ⟨by rw [hpe, List.map_take, HIts.out], by rw [List.length_map]; exact hpl⟩)
    gi_wp2
    exact h
theorem gresize_any {g q : Nat} {L : List Nat} {x : Gd} (W0 H0 off : Int) (w : World) (h : Gr g q x w) (hL : ∀ p ∈ L, p < w.heap.size) :
    Calls Tryd.prog 71 #[.pointer (some ⟨g, 0, none⟩), .int .i64 W0, .int .i64 H0, .int .i64 off] w (SizPost g L (sizeG x W0 H0 off) w) :=
  (callsIn_wide (n := 20)).1 (gresize_in 20 (by decide) W0 H0 off w h hL)
end Go.Proofs.YtkggmcnocpgnbaaDoor.K
