/- What was handed in: acts, cells, an act; what the row's list gives: the spans. -/
import Derived.Test.YtmdnnpcofbhceaaDoorVDo
import Derived.Test.YtmdnnpcofbhceaaDoorLaid
import Derived.Deep.Slices
import Derived.ProofKit
namespace Go.Proofs.YtmdnnpcofbhceaaDoor.K
open Go.RowKit Go.ChangeShapes Go.WideShapes

instance : Inhabited ActR := ⟨⟨0, 0, 0, 0, 0⟩⟩
instance : Inhabited Cel := ⟨⟨0, 0, 0⟩⟩
theorem cI : Tryd.prog.cellsOf 3 = 1 := by kernel_rfl
theorem cR : Tryd.prog.cellsOf 21 = 1 := by kernel_rfl
theorem cAct : Tryd.prog.cellsOf 35 = 5 := by kernel_rfl
theorem cCell : Tryd.prog.cellsOf 82 = 3 := by kernel_rfl
def RngA (A : ActR) : Prop := -2147483648 ≤ A.rune ∧ A.rune ≤ 2147483647
/-- an act in memory -/
structure ActAt (w : World) (b o : Nat) (A : ActR) : Prop where
  c0 : w.cell? ⟨b, o, none⟩ = some (.int .i64 A.kind)
  c1 : w.cell? ⟨b, o + 1, none⟩ = some (.int .i64 A.at_)
  c2 : w.cell? ⟨b, o + 2, none⟩ = some (.int .i64 A.n)
  c3 : w.cell? ⟨b, o + 3, none⟩ = some (.int .i64 A.style)
  c4 : w.cell? ⟨b, o + 4, none⟩ = some (.int .i32 A.rune)
theorem ActAt.block {w w' : World} {b o : Nat} {A : ActR} (h : ActAt w b o A) (hb : w'.heap[b]? = w.heap[b]?) : ActAt w' b o A :=
  ⟨(World.cell?_of_block (a := ⟨b, o, none⟩) hb).trans h.c0, (World.cell?_of_block (a := ⟨b, o + 1, none⟩) hb).trans h.c1, (World.cell?_of_block (a := ⟨b, o + 2, none⟩) hb).trans h.c2, (World.cell?_of_block (a := ⟨b, o + 3, none⟩) hb).trans h.c3, (World.cell?_of_block (a := ⟨b, o + 4, none⟩) hb).trans h.c4⟩
/-- a slice of acts -/
structure ActsIn (a : Option Addr) (n cap : Nat) (l : List ActR) (w : World) : Prop where
  len : n = l.length
  fit : n ≤ cap
  top : (cap : Int) ≤ 9223372036854775807
  ok : ∀ A ∈ l, RngA A
  at_ : l = [] ∨ ∃ b off, a = some ⟨b, off, none⟩ ∧ b < w.heap.size ∧ ∀ i A, l[i]? = some A → ActAt w b (off + i * 5) A
theorem ActsIn.belowAll {a : Option Addr} {n cap : Nat} {l : List ActR} {w w' : World} (h : ActsIn a n cap l w) (hb : Below w.heap.size w w') : ActsIn a n cap l w' := by
  refine ⟨h.len, h.fit, h.top, h.ok, h.at_.imp id ?_⟩
  rintro ⟨b, off, ha, hl, hi⟩
  exact ⟨b, off, ha, Nat.lt_of_lt_of_le hl hb.size, fun i A hA => (hi i A hA).block (hb.block b hl)⟩
theorem rng_of {k : Int} (h : (Lit.wf (.int .i32 k)) = true) : -2147483648 ≤ k ∧ k ≤ 2147483647 := by
  simp [Lit.wf, IntKind.min, IntKind.max, IntKind.signed, IntKind.bits] at h
  omega
set_option maxRecDepth 100000 in
theorem trod_act {H : Type} {enc : TypeId × Value → H} {W : World} {m : Nat} {cs : List Value} {x : DataW H × List MemPlace} {b0 : Nat} {f0 : Nat → Bool} {t0 : Bool} (h : DataW.trod enc Tryd.prog W b0 f0 t0 m 35 cs = some x) (hl : cs.length = 5) :
    ∃ A : ActR, cs = [.int .i64 A.kind, .int .i64 A.at_, .int .i64 A.n, .int .i64 A.style, .int .i32 A.rune] ∧ RngA A := by
  match cs, hl with
  | [v0, v1, v2, v3, v4], _ =>
    obtain ⟨xs, n, hn, hxy, _, hxl, hf⟩ := DataW.trod_struct Tryd.underlying35 h
    match xs, hxl with
    | [y0, y1, y2, y3, y4], _ =>
      have g0 := hf 0 _ rfl
      have g1 := hf 1 _ rfl
      have g2 := hf 2 _ rfl
      have g3 := hf 3 _ rfl
      have g4 := hf 4 _ rfl
      simp [cI, cR] at g0 g1 g2 g3 g4
      obtain ⟨k0, e0, _, _⟩ := DataW.trod_int Tryd.underlying3 g0
      obtain ⟨k1, e1, _, _⟩ := DataW.trod_int Tryd.underlying3 g1
      obtain ⟨k2, e2, _, _⟩ := DataW.trod_int Tryd.underlying3 g2
      obtain ⟨k3, e3, _, _⟩ := DataW.trod_int Tryd.underlying3 g3
      obtain ⟨k4, e4, _, hw⟩ := DataW.trod_int Tryd.underlying21 g4
      simp at e0 e1 e2 e3 e4
      subst e0 e1 e2 e3 e4
      exact ⟨⟨k0, k1, k2, k3, k4⟩, rfl, rng_of hw⟩
set_option maxRecDepth 100000 in
theorem trod_cel {H : Type} {enc : TypeId × Value → H} {W : World} {m : Nat} {cs : List Value} {x : DataW H × List MemPlace} {b0 : Nat} {f0 : Nat → Bool} {t0 : Bool} (h : DataW.trod enc Tryd.prog W b0 f0 t0 m 82 cs = some x) (hl : cs.length = 3) :
    ∃ c : Cel, cs = [.int .i32 c.rune, .int .i64 c.style, .int .i64 c.part] ∧ Rng c := by
  match cs, hl with
  | [v0, v1, v2], _ =>
    obtain ⟨xs, n, hn, hxy, _, hxl, hf⟩ := DataW.trod_struct Tryd.underlying82 h
    match xs, hxl with
    | [y0, y1, y2], _ =>
      have g0 := hf 0 _ rfl
      have g1 := hf 1 _ rfl
      have g2 := hf 2 _ rfl
      simp [cI, cR] at g0 g1 g2
      obtain ⟨k0, e0, _, hw⟩ := DataW.trod_int Tryd.underlying21 g0
      obtain ⟨k1, e1, _, _⟩ := DataW.trod_int Tryd.underlying3 g1
      obtain ⟨k2, e2, _, _⟩ := DataW.trod_int Tryd.underlying3 g2
      simp at e0 e1 e2
      subst e0 e1 e2
      exact ⟨⟨k0, k1, k2⟩, rfl, rng_of hw⟩
set_option maxRecDepth 100000 in
theorem open_act {H : Type} {enc : TypeId × Value → H} {W : World} {base : Nat} {v : Value} {x : DataW H × List MemPlace} (hv : Value.okWide Tryd.prog W .any base 35 v) (h : ∃ m, DataW.trod enc Tryd.prog W 0 (fun _ => true) true m 35 v.cells.toList = some x) :
    ∃ A : ActR, v = actV A ∧ RngA A := by
  obtain ⟨cs, rfl, hsz⟩ := okWide_struct Tryd.underlying35 hv
  rw [cAct] at hsz
  obtain ⟨m, hm⟩ := h
  obtain ⟨A, he, hA⟩ := trod_act hm (by simpa [Value.cells] using hsz)
  refine ⟨A, ?_, hA⟩
  unfold actV
  congr 1
  apply Array.ext'
  simpa [Value.cells] using he
theorem addN (b off j : Nat) : (⟨b, off, none⟩ : Addr).add j = ⟨b, off + j, none⟩ := by unfold Addr.add; split <;> simp_all
set_option maxRecDepth 100000 in
theorem open_acts {H : Type} {enc : TypeId × Value → H} {W : World} {base : Nat} {v : Value} {x : DataW H × List MemPlace} (hv : Value.okWide Tryd.prog W .any base 22 v) (h : ∃ m, DataW.trod enc Tryd.prog W 0 (fun _ => true) true m 22 v.cells.toList = some x) :
    ∃ (a : Option Addr) (len cap : Nat) (l : List ActR), v = .slice a len cap ∧ ActsIn a len cap l W := by
  obtain ⟨a, len, cap, rfl⟩ := okWide_slice Tryd.underlying22 hv
  obtain ⟨m, hm⟩ := h
  rcases Deep.open_slice Tryd.underlying22 hm with ⟨hc, _⟩ | ⟨a', len', cap', m', n', D, Pl, hc, _, hl, hcm, hmm, _, hx⟩
  · simp [Value.cells] at hc
    obtain ⟨rfl, rfl, rfl⟩ := hc
    exact ⟨none, 0, 0, [], rfl, ⟨rfl, Nat.le_refl _, by omega, (fun _ h => by cases h), .inl rfl⟩⟩
  · simp [Value.cells] at hc
    obtain ⟨rfl, rfl, rfl⟩ := hc
    simp only [if_true] at hmm
    subst hmm
    have hcap : (m' : Int) ≤ 9223372036854775807 := by unfold maxLen at hcm; omega
    have each : ∀ i, i < len → ∃ A : ActR, RngA A ∧ ∀ j u, [Value.int .i64 A.kind, .int .i64 A.at_, .int .i64 A.n, .int .i64 A.style, .int .i32 A.rune][j]? = some u → W.cell? (a'.add (i * 5 + j)) = some u := by
      intro i hi
      obtain ⟨cs', h1, h2⟩ := hx i (by omega)
      rw [cAct] at h1
      obtain ⟨_, hlen, hcell⟩ := World.cells?_some h1
      obtain ⟨A, he, hA⟩ := trod_act h2 hlen
      refine ⟨A, hA, fun j u hj => ?_⟩
      have hj5 : j < 5 := by have := (List.getElem?_eq_some_iff.1 hj).1; simpa using this
      have f := hcell j (by omega)
      rw [Deep.add_add] at f
      rw [← he] at hj
      rw [f, hj]
    by_cases hl0 : len = 0
    · subst hl0
      exact ⟨some a', 0, m', [], rfl, ⟨rfl, by omega, hcap, (fun _ h => by cases h), .inl rfl⟩⟩
    · obtain ⟨q, hq⟩ := Deep.choose_lt each
      obtain ⟨b, off, spot⟩ := a'
      have hc0 := (hq 0 (by omega)).2 0 _ rfl
      have hspot : spot = none := by simpa [Addr.add] using World.cell?_spot hc0
      subst hspot
      rw [addN] at hc0
      have hblt := World.block_lt_of_cell? W _ hc0
      refine ⟨some ⟨b, off, none⟩, len, m', (List.range len).map q, rfl, ⟨by simp, hl, hcap, fun A hA => ?_, .inr ⟨b, off, rfl, hblt, fun i A hA => ?_⟩⟩⟩
      · obtain ⟨i, hi, rfl⟩ := List.mem_map.1 hA
        exact (hq i (List.mem_range.1 hi)).1
      · have hi : i < len := by have := (List.getElem?_eq_some_iff.1 hA).1; simpa using this
        have e : q i = A := by simpa [hi] using hA
        have f := (hq i hi).2
        rw [e] at f
        have fj := fun j u h => by have := f j u h; rw [addN, ← Nat.add_assoc] at this; exact this
        exact ⟨fj 0 _ rfl, fj 1 _ rfl, fj 2 _ rfl, fj 3 _ rfl, fj 4 _ rfl⟩
set_option maxRecDepth 100000 in
theorem open_cells {H : Type} {enc : TypeId × Value → H} {W : World} {base : Nat} {v : Value} {x : DataW H × List MemPlace} (hv : Value.okWide Tryd.prog W .any base 24 v) (h : ∃ m, DataW.trod enc Tryd.prog W 0 (fun _ => true) true m 24 v.cells.toList = some x) :
    ∃ (a : Option Addr) (len cap : Nat) (l : List Cel), v = .slice a len cap ∧ CelsIn .i32 a len l W ∧ (a = none → cap = 0) ∧ len ≤ cap ∧ (cap : Int) ≤ 9223372036854775807 ∧ AllC Rng l := by
  obtain ⟨a, len, cap, rfl⟩ := okWide_slice Tryd.underlying24 hv
  obtain ⟨m, hm⟩ := h
  rcases Deep.open_slice Tryd.underlying24 hm with ⟨hc, _⟩ | ⟨a', len', cap', m', n', D, Pl, hc, _, hl, hcm, hmm, _, hx⟩
  · simp [Value.cells] at hc
    obtain ⟨rfl, rfl, rfl⟩ := hc
    exact ⟨none, 0, 0, [], rfl, ⟨rfl, .inl rfl⟩, fun _ => rfl, Nat.le_refl _, by omega, (fun _ h => by cases h)⟩
  · simp [Value.cells] at hc
    obtain ⟨rfl, rfl, rfl⟩ := hc
    simp only [if_true] at hmm
    subst hmm
    have hcap : (m' : Int) ≤ 9223372036854775807 := by unfold maxLen at hcm; omega
    have each : ∀ i, i < len → ∃ A : Cel, Rng A ∧ ∀ j u, [Value.int .i32 A.rune, .int .i64 A.style, .int .i64 A.part][j]? = some u → W.cell? (a'.add (i * 3 + j)) = some u := by
      intro i hi
      obtain ⟨cs', h1, h2⟩ := hx i (by omega)
      rw [cCell] at h1
      obtain ⟨_, hlen, hcell⟩ := World.cells?_some h1
      obtain ⟨A, he, hA⟩ := trod_cel h2 hlen
      refine ⟨A, hA, fun j u hj => ?_⟩
      have hj5 : j < 3 := by have := (List.getElem?_eq_some_iff.1 hj).1; simpa using this
      have f := hcell j (by omega)
      rw [Deep.add_add] at f
      rw [← he] at hj
      rw [f, hj]
    by_cases hl0 : len = 0
    · subst hl0
      exact ⟨some a', 0, m', [], rfl, ⟨rfl, .inl rfl⟩, (fun e => by cases e), by omega, hcap, (fun _ h => by cases h)⟩
    · obtain ⟨q, hq⟩ := Deep.choose_lt each
      obtain ⟨b, off, spot⟩ := a'
      have hc0 := (hq 0 (by omega)).2 0 _ rfl
      have hspot : spot = none := by simpa [Addr.add] using World.cell?_spot hc0
      subst hspot
      rw [addN] at hc0
      have hblt := World.block_lt_of_cell? W _ hc0
      refine ⟨some ⟨b, off, none⟩, len, m', (List.range len).map q, rfl, ⟨by simp, .inr ⟨b, off, rfl, hblt, fun i A hA => ?_⟩⟩, (fun e => by cases e), hl, hcap, fun A hA => ?_⟩
      · have hi : i < len := by have := (List.getElem?_eq_some_iff.1 hA).1; simpa using this
        have e : q i = A := by simpa [hi] using hA
        have f := (hq i hi).2
        rw [e] at f
        have fj := fun j u h => by have := f j u h; rw [addN, ← Nat.add_assoc] at this; exact this
        exact ⟨fj 0 _ rfl, fj 1 _ rfl, fj 2 _ rfl⟩
      · obtain ⟨i, hi, rfl⟩ := List.mem_map.1 hA
        exact (hq i (List.mem_range.1 hi)).1
/-! ## the spans -/
theorem gSpans : Tryd.prog.globalNamed "tidewrack/wide.spans" = some 0 := by kernel_rfl
theorem gSpansType : (Tryd.prog.globals[0]?).map (·.type) = some 101 := by kernel_rfl
theorem cSpan : Tryd.prog.cellsOf 100 = 3 := by kernel_rfl
def spanD (x : Int × Int × Nat) : DataW Unit := .agg [.lit (.int .i32 x.1), .lit (.int .i32 x.2.1), .lit (.int .i64 (x.2.2 : Int))]
theorem spans_data : (Rows.laid_tidewrack_wide_spans : DataW Unit) = .agg (W.tab.map spanD) := rfl
theorem tab_of {rest : List (String × DataW Unit)} {w : World} (h : laidMet Tryd.prog (("tidewrack/wide.spans", Rows.laid_tidewrack_wide_spans) :: rest) w) : W.Tab w := by
  rw [spans_data] at h
  obtain ⟨cs, m, hv, hall⟩ := L.laid_head gSpans gSpansType Tryd.underlying101 h
  intro k hk
  obtain ⟨d, q, hd, ht⟩ := hall k hk
  have hkl : k < W.tab.length := hk
  have e : d = spanD (W.tab.getD k (0, 0, 0)) := by
    rw [List.getElem?_map, List.getElem?_eq_getElem hkl] at hd
    simp only [Option.map_some, Option.some.injEq] at hd
    rw [← hd]
    simp [List.getD_eq_getElem?_getD, hkl]
  subst e
  unfold spanD at ht
  rw [cSpan] at ht
  have f0 := L.trod_field Tryd.underlying100 ht 0 _ rfl Tryd.underlying21 cR rfl
  have f1 := L.trod_field Tryd.underlying100 ht 1 _ rfl Tryd.underlying21 cR rfl
  have f2 := L.trod_field Tryd.underlying100 ht 2 _ rfl Tryd.underlying3 cI rfl
  exact ⟨L.at_cell (k := k) (c := 3) (o := 0) gSpans hv (by decide) f0, L.at_cell (k := k) (c := 3) (o := 1) gSpans hv (by decide) f1, L.at_cell (k := k) (c := 3) (o := 2) gSpans hv (by decide) f2⟩
end Go.Proofs.YtmdnnpcofbhceaaDoor.K
