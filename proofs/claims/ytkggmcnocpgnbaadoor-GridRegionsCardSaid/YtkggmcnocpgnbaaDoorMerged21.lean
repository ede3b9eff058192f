/- The law's do of a grid: each call, of both. -/
import Derived.Test.YtkggmcnocpgnbaaDoorJLdU
import Derived.Test.YtkggmcnocpgnbaaDoorJLdS
import Derived.Test.YtkggmcnocpgnbaaDoorMerged20
import Derived.Test.YtkggmcnocpgnbaaDoorJLdQ
import Derived.Test.YtkggmcnocpgnbaaDoorMerged11
import Derived.Test.YtkggmcnocpgnbaaDoorMerged16
import Derived.Test.YtkggmcnocpgnbaaDoorMerged6
namespace Go.Proofs.YtkggmcnocpgnbaaDoor.K
open Go.RowKit

def stepG (x : Gd) (A : ActG) : Gd :=
  if A.kind = 0 then setG x A.y (doS W.ofS (rowAt x.rs A.y) A.row)
  else if A.kind = 1 then (upG x A.top A.bottom A.n A.style).1
  else if A.kind = 2 then (downG x A.top A.bottom A.n A.style).1
  else (sizeG x (smallN A.w) (smallN A.h) A.n).1
theorem lawDo_any {g q : Nat} {L : List Nat} {x : Gd} {v : Value} {A : ActG} (w : World) (hT : W.Tab w) (hra : RngA A.row) (h : Gr g q x w) (hv : RefG L v x w) (hg : g ∈ L) (hq : q ∈ L) (hL : ∀ p ∈ L, p < w.heap.size) :
    Calls Tryd.prog 37 #[.pointer (some ⟨g, 0, none⟩), v, .agg (actC A)] w (DoG g q L (stepG x A) w) := by
  unfold stepG
  by_cases h0 : A.kind = 0
  · rw [if_pos h0]
    by_cases hy : 0 ≤ A.y ∧ A.y < (x.rs.length : Int)
    · exact doPutIn_any w hT h0 A.y.toNat (by omega) (by omega) hra h hv hg hq hL
    · exact doPutOut_any w hT h0 hy hra h hv hg hq hL
  · rw [if_neg h0]
    by_cases h1 : A.kind = 1
    · rw [if_pos h1]
      exact doUp_any w h1 h hv hg hq hL
    · rw [if_neg h1]
      by_cases h2 : A.kind = 2
      · rw [if_pos h2]
        exact doDown_any w h2 h hv hg hq hL
      · rw [if_neg h2]
        exact doSize_any w h0 h1 h2 h hv hg hq hL
/-- a grid and the document's, alike; all that they have is beyond m -/
structure Syn (m g : Nat) (x : Gd) (v : Value) (w0 w : World) : Prop where
  ex : ∃ q L, m ≤ q ∧ (∀ p ∈ L, p < w.heap.size) ∧ g ∈ L ∧ q ∈ L ∧ Gr g q x w ∧ RefG L v x w
  g : m ≤ g
  b : Below m w0 w
  m : m ≤ w.heap.size
theorem Syn.below {m g : Nat} {x : Gd} {v : Value} {w0 w w' : World} (h : Syn m g x v w0 w) (hb : Below w.heap.size w w') : Syn m g x v w0 w' := by
  obtain ⟨⟨q, L, hq, hL, hgL, hqL, h1, h2⟩, hg, hb0, hm⟩ := h
  exact ⟨⟨q, L, hq, fun p hp => Nat.lt_of_lt_of_le (hL p hp) hb.size, hgL, hqL, h1.below hb, h2.below hb⟩, hg, hb0.trans (hb.mono hm), Nat.le_trans hm hb.size⟩
theorem Syn.ok {m g : Nat} {x : Gd} {v : Value} {w0 w : World} (h : Syn m g x v w0 w) : GdOk x := by
  obtain ⟨⟨q, L, -, -, -, -, h1, -⟩, -⟩ := h
  exact h1.ok
end Go.Proofs.YtkggmcnocpgnbaaDoor.K

/- What was handed in: a grid's acts, an act. -/
namespace Go.Proofs.YtkggmcnocpgnbaaDoor.K
open Go.RowKit Go.ChangeShapes Go.WideShapes

instance : Inhabited ActG := ⟨⟨0, 0, 0, 0, 0, 0, 0, 0, default⟩⟩
theorem cActG : Tryd.prog.cellsOf 77 = 13 := by kernel_rfl
/-- an act in memory -/
structure GActAt (w : World) (b o : Nat) (A : ActG) : Prop where
  c0 : w.cell? ⟨b, o, none⟩ = some (.int .i64 A.kind)
  c1 : w.cell? ⟨b, o + 1, none⟩ = some (.int .i64 A.y)
  c2 : w.cell? ⟨b, o + 2, none⟩ = some (.int .i64 A.top)
  c3 : w.cell? ⟨b, o + 3, none⟩ = some (.int .i64 A.bottom)
  c4 : w.cell? ⟨b, o + 4, none⟩ = some (.int .i64 A.n)
  c5 : w.cell? ⟨b, o + 5, none⟩ = some (.int .i64 A.style)
  c6 : w.cell? ⟨b, o + 6, none⟩ = some (.int .i64 A.w)
  c7 : w.cell? ⟨b, o + 7, none⟩ = some (.int .i64 A.h)
  c8 : w.cell? ⟨b, o + 8, none⟩ = some (.int .i64 A.row.kind)
  c9 : w.cell? ⟨b, o + 9, none⟩ = some (.int .i64 A.row.at_)
  c10 : w.cell? ⟨b, o + 10, none⟩ = some (.int .i64 A.row.n)
  c11 : w.cell? ⟨b, o + 11, none⟩ = some (.int .i64 A.row.style)
  c12 : w.cell? ⟨b, o + 12, none⟩ = some (.int .i32 A.row.rune)
theorem GActAt.block {w w' : World} {b o : Nat} {A : ActG} (h : GActAt w b o A) (hb : w'.heap[b]? = w.heap[b]?) : GActAt w' b o A :=
  ⟨(World.cell?_of_block (a := ⟨b, o, none⟩) hb).trans h.c0, (World.cell?_of_block (a := ⟨b, o + 1, none⟩) hb).trans h.c1, (World.cell?_of_block (a := ⟨b, o + 2, none⟩) hb).trans h.c2, (World.cell?_of_block (a := ⟨b, o + 3, none⟩) hb).trans h.c3, (World.cell?_of_block (a := ⟨b, o + 4, none⟩) hb).trans h.c4, (World.cell?_of_block (a := ⟨b, o + 5, none⟩) hb).trans h.c5, (World.cell?_of_block (a := ⟨b, o + 6, none⟩) hb).trans h.c6, (World.cell?_of_block (a := ⟨b, o + 7, none⟩) hb).trans h.c7, (World.cell?_of_block (a := ⟨b, o + 8, none⟩) hb).trans h.c8, (World.cell?_of_block (a := ⟨b, o + 9, none⟩) hb).trans h.c9, (World.cell?_of_block (a := ⟨b, o + 10, none⟩) hb).trans h.c10, (World.cell?_of_block (a := ⟨b, o + 11, none⟩) hb).trans h.c11, (World.cell?_of_block (a := ⟨b, o + 12, none⟩) hb).trans h.c12⟩
/-- a slice of acts -/
structure GActsIn (a : Option Addr) (n cap : Nat) (l : List ActG) (w : World) : Prop where
  len : n = l.length
  fit : n ≤ cap
  top : (cap : Int) ≤ 9223372036854775807
  ok : ∀ A ∈ l, RngA A.row
  at_ : l = [] ∨ ∃ b off, a = some ⟨b, off, none⟩ ∧ b < w.heap.size ∧ ∀ i A, l[i]? = some A → GActAt w b (off + i * 13) A
theorem GActsIn.belowAll {a : Option Addr} {n cap : Nat} {l : List ActG} {w w' : World} (h : GActsIn a n cap l w) (hb : Below w.heap.size w w') : GActsIn a n cap l w' := by
  refine ⟨h.len, h.fit, h.top, h.ok, h.at_.imp id ?_⟩
  rintro ⟨b, off, ha, hl, hi⟩
  exact ⟨b, off, ha, Nat.lt_of_lt_of_le hl hb.size, fun i A hA => (hi i A hA).block (hb.block b hl)⟩
set_option maxRecDepth 100000 in
theorem trod_actG {H : Type} {enc : TypeId × Value → H} {W : World} {m : Nat} {cs : List Value} {x : DataW H × List MemPlace} {b0 : Nat} {f0 : Nat → Bool} {t0 : Bool} (h : DataW.trod enc Tryd.prog W b0 f0 t0 m 77 cs = some x) (hl : cs.length = 13) :
    ∃ A : ActG, cs = (actC A).toList ∧ RngA A.row := by
  match cs, hl with
  | [v0, v1, v2, v3, v4, v5, v6, v7, v8, v9, v10, v11, v12], _ =>
    obtain ⟨xs, n, hn, hxy, _, hxl, hf⟩ := DataW.trod_struct Tryd.underlying77 h
    match xs, hxl with
    | [y0, y1, y2, y3, y4, y5, y6, y7, y8], _ =>
      have g0 := hf 0 _ rfl
      have g1 := hf 1 _ rfl
      have g2 := hf 2 _ rfl
      have g3 := hf 3 _ rfl
      have g4 := hf 4 _ rfl
      have g5 := hf 5 _ rfl
      have g6 := hf 6 _ rfl
      have g7 := hf 7 _ rfl
      have g8 := hf 8 _ rfl
      simp [cI, cAct] at g0 g1 g2 g3 g4 g5 g6 g7 g8
      obtain ⟨k0, e0, _, _⟩ := DataW.trod_int Tryd.underlying3 g0
      obtain ⟨k1, e1, _, _⟩ := DataW.trod_int Tryd.underlying3 g1
      obtain ⟨k2, e2, _, _⟩ := DataW.trod_int Tryd.underlying3 g2
      obtain ⟨k3, e3, _, _⟩ := DataW.trod_int Tryd.underlying3 g3
      obtain ⟨k4, e4, _, _⟩ := DataW.trod_int Tryd.underlying3 g4
      obtain ⟨k5, e5, _, _⟩ := DataW.trod_int Tryd.underlying3 g5
      obtain ⟨k6, e6, _, _⟩ := DataW.trod_int Tryd.underlying3 g6
      obtain ⟨k7, e7, _, _⟩ := DataW.trod_int Tryd.underlying3 g7
      obtain ⟨A8, e8, hA8⟩ := trod_act g8 rfl
      simp at e0 e1 e2 e3 e4 e5 e6 e7 e8
      subst e0 e1 e2 e3 e4 e5 e6 e7
      obtain ⟨rfl, rfl, rfl, rfl, rfl⟩ := e8
      exact ⟨⟨k0, k1, k2, k3, k4, k5, k6, k7, A8⟩, rfl, hA8⟩
set_option maxRecDepth 100000 in
theorem open_actG {H : Type} {enc : TypeId × Value → H} {W : World} {base : Nat} {v : Value} {x : DataW H × List MemPlace} (hv : Value.okWide Tryd.prog W .any base 77 v) (h : ∃ m, DataW.trod enc Tryd.prog W 0 (fun _ => true) true m 77 v.cells.toList = some x) :
    ∃ A : ActG, v = .agg (actC A) ∧ RngA A.row := by
  obtain ⟨cs, rfl, hsz⟩ := okWide_struct Tryd.underlying77 hv
  rw [cActG] at hsz
  obtain ⟨m, hm⟩ := h
  obtain ⟨A, he, hA⟩ := trod_actG hm (by simpa [Value.cells] using hsz)
  refine ⟨A, ?_, hA⟩
  congr 1
  apply Array.ext'
  simpa [Value.cells] using he
set_option maxRecDepth 100000 in
theorem open_actsG {H : Type} {enc : TypeId × Value → H} {W : World} {base : Nat} {v : Value} {x : DataW H × List MemPlace} (hv : Value.okWide Tryd.prog W .any base 73 v) (h : ∃ m, DataW.trod enc Tryd.prog W 0 (fun _ => true) true m 73 v.cells.toList = some x) :
    ∃ (a : Option Addr) (len cap : Nat) (l : List ActG), v = .slice a len cap ∧ GActsIn a len cap l W := by
  obtain ⟨a, len, cap, rfl⟩ := okWide_slice Tryd.underlying73 hv
  obtain ⟨m, hm⟩ := h
  rcases Deep.open_slice Tryd.underlying73 hm with ⟨hc, _⟩ | ⟨a', len', cap', m', n', D, Pl, hc, _, hl, hcm, hmm, _, hx⟩
  · simp [Value.cells] at hc
    obtain ⟨rfl, rfl, rfl⟩ := hc
    exact ⟨none, 0, 0, [], rfl, ⟨rfl, Nat.le_refl _, by omega, (fun _ h => by cases h), .inl rfl⟩⟩
  · simp [Value.cells] at hc
    obtain ⟨rfl, rfl, rfl⟩ := hc
    simp only [if_true] at hmm
    subst hmm
    have hcap : (m' : Int) ≤ 9223372036854775807 := by unfold maxLen at hcm; omega
    have each : ∀ i, i < len → ∃ A : ActG, RngA A.row ∧ ∀ j u, (actC A).toList[j]? = some u → W.cell? (a'.add (i * 13 + j)) = some u := by
      intro i hi
      obtain ⟨cs', h1, h2⟩ := hx i (by omega)
      rw [cActG] at h1
      obtain ⟨_, hlen, hcell⟩ := World.cells?_some h1
      obtain ⟨A, he, hA⟩ := trod_actG h2 hlen
      refine ⟨A, hA, fun j u hj => ?_⟩
      have hj5 : j < 13 := by have := (List.getElem?_eq_some_iff.1 hj).1; simpa [actC] using this
      have f := hcell j (by omega)
      rw [Deep.add_add] at f
      rw [← he] at hj
      rw [f, hj]
    by_cases hl0 : len = 0
    · subst hl0
      exact ⟨some a', 0, m', [], rfl, ⟨rfl, by omega, hcap, (fun _ h => by cases h), .inl rfl⟩⟩
    · obtain ⟨q, hq⟩ := Deep.choose_lt each
      obtain ⟨b, off, spot⟩ := a'
      have hc0 := (hq 0 (by omega)).2 0 _ rfl
      have hspot : spot = none := by simpa [Addr.add] using World.cell?_spot hc0
      subst hspot
      rw [addN] at hc0
      have hblt := World.block_lt_of_cell? W _ hc0
      refine ⟨some ⟨b, off, none⟩, len, m', (List.range len).map q, rfl, ⟨by simp, hl, hcap, fun A hA => ?_, .inr ⟨b, off, rfl, hblt, fun i A hA => ?_⟩⟩⟩
      · obtain ⟨i, hi, rfl⟩ := List.mem_map.1 hA
        exact (hq i (List.mem_range.1 hi)).1
      · have hi : i < len := by have := (List.getElem?_eq_some_iff.1 hA).1; simpa using this
        have e : q i = A := by simpa [hi] using hA
        have f := (hq i hi).2
        rw [e] at f
        have fj := fun j u h => by have := f j u h; rw [addN, ← Nat.add_assoc] at this; exact this
        exact ⟨fj 0 _ rfl, fj 1 _ rfl, fj 2 _ rfl, fj 3 _ rfl, fj 4 _ rfl, fj 5 _ rfl, fj 6 _ rfl, fj 7 _ rfl, fj 8 _ rfl, fj 9 _ rfl, fj 10 _ rfl, fj 11 _ rfl, fj 12 _ rfl⟩
end Go.Proofs.YtkggmcnocpgnbaaDoor.K

/- The law's awake of a grid: a fixed fact. -/
namespace Go.Proofs.YtkggmcnocpgnbaaDoor.K
open Go.RowKit

def awkG : Nat → Gd
  | 0 => newG 3 3
  | j + 1 => setG (awkG j) (j : Int) ⟨putS (W.ofS (97 + (j : Int))) (rowAt (awkG j).rs (j : Int)).l 0 (97 + (j : Int)) 0, false⟩
def awkU : Gd := ⟨3, [⟨[⟨98, 0, 0⟩, ⟨32, 0, 0⟩, ⟨32, 0, 0⟩], false⟩, ⟨[⟨32, 0, 0⟩, ⟨32, 0, 0⟩, ⟨32, 0, 0⟩], false⟩, ⟨[⟨99, 0, 0⟩, ⟨32, 0, 0⟩, ⟨32, 0, 0⟩], false⟩]⟩
theorem awk_up : upG (awkG 3) 0 1 1 0 = (awkU, [⟨[⟨97, 0, 0⟩, ⟨32, 0, 0⟩, ⟨32, 0, 0⟩], false⟩]) := by kernel_rfl
theorem rowAt_ok {x : Gd} (hx : GdOk x) (y : Int) : (rowAt x.rs y).l.length ≤ 1000 ∧ AllC Rng (rowAt x.rs y).l := by
  unfold rowAt
  split
  · rename_i h
    have hl : y.toNat < x.rs.length := by omega
    rw [List.getD_eq_getElem?_getD, List.getElem?_eq_getElem hl]
    exact ⟨by show x.rs[y.toNat].l.length ≤ 1000; rw [hx.len _ (List.getElem_mem hl)]; exact hx.w2, hx.rng _ (List.getElem_mem hl)⟩
  · exact ⟨by simp, fun c hc => by cases hc⟩
theorem awk_put {r : Ro} (h : r.l.length ≤ 1000 ∧ AllC Rng r.l) {j : Nat} (hj : j < 3) : (putS (W.ofS (97 + (j : Int))) r.l 0 (97 + (j : Int)) 0).length ≤ 1000 ∧ AllC Rng (putS (W.ofS (97 + (j : Int))) r.l 0 (97 + (j : Int)) 0) := by
  have e : doS W.ofS r ⟨0, 0, 0, 0, 97 + (j : Int)⟩ = ⟨putS (W.ofS (97 + (j : Int))) r.l 0 (97 + (j : Int)) 0, false⟩ := by unfold doS; rw [if_pos rfl]
  have h1 := do_len (of := W.ofS) (a := ⟨0, 0, 0, 0, 97 + (j : Int)⟩) h.1
  have h2 := do_rng (of := W.ofS) (a := ⟨0, 0, 0, 0, 97 + (j : Int)⟩) h.2 ⟨by show (-2147483648 : Int) ≤ 97 + (j : Int); omega, by show 97 + (j : Int) ≤ 2147483647; omega⟩
  rw [e] at h1 h2
  exact ⟨h1, h2⟩
theorem awk_ok : ∀ j, j ≤ 3 → GdOk (awkG j) := by
  intro j
  induction j with
  | zero => intro _; exact newG_ok 3 3
  | succ j ih =>
    intro hj
    exact setG_ok (ih (by omega)) _ (awk_put (rowAt_ok (ih (by omega)) _) (by omega)).2
theorem awk_txt : awkU.rs.map txt = [⟨#[98]⟩, ⟨#[]⟩, ⟨#[99]⟩] := by
  have h0 : txt ⟨[⟨98, 0, 0⟩, ⟨32, 0, 0⟩, ⟨32, 0, 0⟩], false⟩ = ⟨#[98]⟩ := (txt_eq (by decide)).symm
  have h1 : txt ⟨[⟨32, 0, 0⟩, ⟨32, 0, 0⟩, ⟨32, 0, 0⟩], false⟩ = ⟨#[]⟩ := (txt_eq (by decide)).symm
  have h2 : txt ⟨[⟨99, 0, 0⟩, ⟨32, 0, 0⟩, ⟨32, 0, 0⟩], false⟩ = ⟨#[99]⟩ := (txt_eq (by decide)).symm
  show [txt _, txt _, txt _] = _
  rw [h0, h1, h2]
set_option maxRecDepth 100000 in
set_option maxHeartbeats 16000000 in
theorem gawake_any (w : World) (hT : W.Tab w) :
    Calls Tryd.prog 34 #[] w fun e w' => e = .returned (.bool true) ∧ Below w.heap.size w w' := by
  obtain ⟨P, hP⟩ : ∃ P : Ending → World → Prop, (fun e w' => e = .returned (.bool true) ∧ Below w.heap.size w w') = P := ⟨_, rfl⟩
  rw [hP]
  have HP := Lib.hid hP
  have HT := Lib.hid hT
  have HN := Lib.hid (gnew_any 3 3 w)
  clear hP hT
  go_enter Tryd.func34, Tryd.ntmps34
  go_wp2_with fail
  refine HN.out.mono ?_
  rintro e w1 ⟨g, q, rfl, hg, hq, hG, hb1⟩
  have HGq : Hid (w.heap.size ≤ g ∧ w.heap.size ≤ q) := Lib.hid ⟨hg, hq⟩
  obtain ⟨b9, hb9⟩ : ∃ b, w1.heap.size = b := ⟨_, rfl⟩
  obtain ⟨w2, hw2⟩ : ∃ w2, w1.alloc (.cells #[.int .i32 97, .int .i32 98, .int .i32 99] 21) = w2 := ⟨_, rfl⟩
  have b12 : Below w1.heap.size w1 w2 := by rw [← hw2]; exact (Below.refl _ _).alloc (Nat.le_refl _) _
  have hblk : w2.heap[b9]? = some (.cells #[.int .i32 97, .int .i32 98, .int .i32 99] 21 (0, 0)) := by rw [← hw2, ← hb9]; exact World.alloc_heap_new _ _
  have HGr := Lib.hid (hG.below b12)
  have HB2 : Hid (Below w.heap.size w w2) := Lib.hid (hb1.trans (b12.mono hb1.size))
  have HBk := Lib.hid hblk
  have HW2 := Lib.hid hw2
  have HB9 := Lib.hid hb9
  have HLt : Hid (g < b9 ∧ q < b9) := Lib.hid (by rw [← hb9]; exact hG.lt)
  clear hg hq hG hb1 b12 hblk hw2 hb9 HN
  go_wp2_with fail
  rw [HW2.out, HB9.out]
  go_loopw [11] (fun i wr => ∃ j : Nat, i = .int .i64 (j : Int) ∧ j ≤ 3 ∧ Hid (Gr g q (awkG j) wr ∧ KeepB [g, q] w2 wr)) (fun i _ => 3 - (intOf i).toNat)
  case atStart => exact ⟨0, rfl, by omega, Lib.hid ⟨HGr.out, KeepB.refl _ _⟩⟩
  case round =>
    obtain ⟨j, rfl, hj, HF⟩ := hrel
    have hblk : wr.heap[b9]? = some (.cells #[.int .i32 97, .int .i32 98, .int .i32 99] 21 (0, 0)) := HF.out.2.block1 HBk.out (fun e => by
      have h2 : b9 = g ∨ b9 = q := by simpa using e
      have := HLt.out
      omega)
    by_cases hlt : j < 3
    · have hd : decide (j < 3) = true := decide_eq_true hlt
      have e0 : wr.cell? ⟨b9, j, none⟩ = some (.int .i32 (97 + (j : Int))) := by
        simp only [World.cell?, hblk]
        match j, hlt with
        | 0, _ => rfl
        | 1, _ => rfl
        | 2, _ => rfl
      have hrow : Calls Tryd.prog 60 #[.pointer (some ⟨g, 0, none⟩), .int .i64 (j : Int)] wr (RowA (rowAt (awkG j).rs (j : Int)) wr) := by
        obtain ⟨us, cap, hgg⟩ := HF.out.1
        exact row_any (j : Int) wr hgg
      have hjI : (j : Int) < 3 := by omega
      obtain ⟨z, hz⟩ : ∃ z : Int, 97 + (j : Int) = z := ⟨_, rfl⟩
      have hrok := rowAt_ok (awk_ok j (by omega)) (j : Int)
      have hput := awk_put hrok hlt
      have hsucc : awkG (j + 1) = setG (awkG j) (j : Int) ⟨putS (W.ofS (97 + (j : Int))) (rowAt (awkG j).rs (j : Int)).l 0 (97 + (j : Int)) 0, false⟩ := rfl
      rw [hz] at e0 hput hsucc
      obtain ⟨r0, hr0⟩ : ∃ r, rowAt (awkG j).rs (j : Int) = r := ⟨_, rfl⟩
      rw [hr0] at hrow hrok hput hsucc
      obtain ⟨l2, hl2⟩ : ∃ l, putS (W.ofS z) r0.l 0 z 0 = l := ⟨_, rfl⟩
      rw [hl2] at hput hsucc
      have HRow := Lib.hid hrow
      have HRok := Lib.hid hrok
      have HPut := Lib.hid hput
      have HSu := Lib.hid hsucc
      have HL2 := Lib.hid hl2
      have HBlk := Lib.hid hblk
      clear hrow hrok hput hsucc hl2 hblk hz hr0
      go_wp2_with fail
      refine HRow.out.mono ?_
      rintro e w3 ⟨⟨pa, pn, pc, pb⟩, rfl, hp, hb3⟩
      unfold Rv.val at hp ⊢
      simp only at hp ⊢
      obtain ⟨-, hce, hnil, hfit, hmx, hpn⟩ := hp.of
      have hbw3 : Below w.heap.size w wr := HF.out.2.below (fun i hi => by
        have h2 : i = g ∨ i = q := by simpa using hi
        have := HGq.out
        omega) HB2.out HB2.out.size
      have hpu := rowPut_any pa pn pc pb r0.l 0 z 0 w3 ((HT.out.belowAll hbw3).belowAll hb3) hce hnil (by have := HRok.out.1; omega)
      rw [HL2.out] at hpu
      have HPu := Lib.hid hpu
      have HB3 := Lib.hid hb3
      clear hp hb3 hce hnil hfit hmx hpn hbw3 hpu
      go_wp2_with fail
      refine HPu.out.mono ?_
      rintro e w4 ⟨v4, rfl, hO4, hb4⟩
      obtain ⟨x4, y4, rfl, -⟩ := hO4.shape
      have hrv : RowV .i32 (Rv.val ⟨x4, l2.length, y4, false⟩) ⟨l2, false⟩ w4 := hO4.rowV (r := ⟨l2, false⟩)
      have hset := gset_any (j : Int) w4 ((HF.out.1.below HB3.out).below hb4) hrv HPut.out.2 HPut.out.1
      rw [← HSu.out] at hset
      have HSet := Lib.hid hset
      have HB4 := Lib.hid hb4
      unfold Rv.val at HSet
      simp only at HSet
      clear hO4 hb4 hrv hset
      go_wp2_with fail
      refine HSet.out.mono ?_
      rintro e w5 ⟨rfl, hg5, hk5⟩
      have HF5 : Hid (Gr g q (awkG (j + 1)) w5 ∧ KeepB [g, q] w2 w5) := Lib.hid ⟨hg5, ((HF.out.2.trans (KeepB.of_below HB3.out)).trans (KeepB.of_below HB4.out)).trans hk5⟩
      clear hg5 hk5
      go_wp2_with fail
      go_roundw
      case rel => exact ⟨j + 1, by go_num, by omega, HF5⟩
      case measure => simp [intOf]; omega
    · obtain rfl : j = 3 := by omega
      have hU := gup_any (L := []) 0 1 1 0 wr HF.out.1 (fun p hp => by cases hp)
      rw [awk_up] at hU
      have HU := Lib.hid hU
      clear hU hblk
      go_wp2_with fail
      refine HU.out.mono ?_
      rintro e w6 ⟨a, m, c, rfl, hR, hG6, hk6⟩
      simp only at hR hG6
      have htx := gtext_any w6 hG6
      have HTx := Lib.hid htx
      have HR := Lib.hid hR
      have HK6 := Lib.hid hk6
      clear htx hR hG6 hk6
      go_wp2_with fail
      refine HTx.out.mono ?_
      rintro e w7 ⟨ta, tc, rfl, hS, hb7⟩
      have hR7 := HR.out.below hb7
      have hm := hR7.len
      obtain ⟨vs, h1, h2, -⟩ := hR7.ex
      have hvl : vs.length = 1 := by rw [h2.1]; rfl
      obtain rfl : m = 1 := hm
      obtain ⟨u, rfl⟩ : ∃ u, vs = [u] := by
        match vs, hvl with
        | [u], _ => exact ⟨u, rfl⟩
      obtain ⟨b, off, rfl, -, hi⟩ := h1.at_.resolve_left (by simp)
      obtain ⟨c0, c1⟩ := hi 0 u rfl
      rw [Nat.zero_mul, Nat.add_zero] at c0 c1
      have hru := h2.2 0 u _ rfl rfl
      obtain ⟨ua, un, uc, ub⟩ := u
      unfold Rv.val at hru
      simp only at hru c0 c1
      obtain ⟨-, hce, -, -, -, hun⟩ := hru.of
      obtain rfl : un = 3 := hun
      obtain ⟨b5, o5, rfl, -, hi5⟩ := hce.at_.resolve_left (by simp)
      have k0 := (hi5 0 _ rfl).c0
      rw [Nat.zero_mul, Nat.add_zero] at k0
      simp only at k0
      rw [awk_txt] at hS
      obtain ⟨bt, ot, rfl, -, hit⟩ := hS.at_.resolve_left (by simp)
      have t0 := hit 0 _ rfl
      have t1 := hit 1 _ rfl
      have t2 := hit 2 _ rfl
      rw [Nat.add_zero] at t0
      have hend : Hid (P (.returned (.bool true)) w7) := Lib.hid (by
        rw [← HP.out]
        refine ⟨rfl, ?_⟩
        have hk := ((HF.out.2.trans HK6.out).trans (KeepB.of_below hb7))
        exact hk.below (fun i hi => by
          have h2 : i = g ∨ i = q := by simpa using hi
          have := HGq.out
          omega) HB2.out HB2.out.size)
      have hl3 : awkU.rs.length = 3 := rfl
      rw [hl3]
      clear hR7 h1 h2 hvl hi hru hce hi5 hS hit hb7 hl3
      go_wp2_with fail
      exact hend.out
end Go.Proofs.YtkggmcnocpgnbaaDoor.K
