/- A list of acts that was handed in: what its cells hold; and what the two slots keep of each other. -/
import Derived.Test.YtghnkpfnpidncaaPIs
import Derived.Test.YtghnkpfnpidncaaPClone
import Derived.Test.YtghnkpfnpidncaaPSizes
import Derived.Deep.Slices
namespace Go.Proofs.Ytghnkpfnpidncaa.P
open Go.ChangeShapes Go.WideShapes Go.RowKit

/-- An act. -/
structure ActOf where
  forget : Bool
  key : Int
  index : Int
  count : Int
  data : ByteArray
  deriving Inhabited
/-- The acts: their cells. -/
def Acts (w : World) (b off : Nat) (al : List ActOf) : Prop := ∀ i, i < al.length → w.cell? ⟨b, off + i * 5, none⟩ = some (.bool (al.getD i default).forget) ∧ w.cell? ⟨b, off + i * 5 + 1, none⟩ = some (.int .i64 (al.getD i default).key) ∧ w.cell? ⟨b, off + i * 5 + 2, none⟩ = some (.int .i64 (al.getD i default).index) ∧ w.cell? ⟨b, off + i * 5 + 3, none⟩ = some (.int .i64 (al.getD i default).count) ∧ w.cell? ⟨b, off + i * 5 + 4, none⟩ = some (.string (al.getD i default).data)
theorem open_acts {H : Type} {enc : TypeId × Value → H} {W : World} {a : Option Addr} {len cap fuel : Nat} {x : DataW H × List MemPlace} (h : DataW.trod enc Try.prog W 0 (fun _ => true) true fuel 27 (Value.slice a len cap).cells.toList = some x) :
    len = 0 ∨ ∃ b off al, a = some ⟨b, off, none⟩ ∧ len ≤ al.length ∧ (len : Int) ≤ 9223372036854775807 ∧ b < W.heap.size ∧ Acts W b off al ∧ (∀ i, (((al.getD i default).data.size : Nat) : Int) ≤ 9223372036854775807) := by
  rcases Deep.open_slice Try.underlying27 h with ⟨hc, _⟩ | ⟨a', len', cap', m, n, D, Pl, hc, _, hl, hm, hmm, _, hx⟩
  · simp [Value.cells] at hc
    exact .inl hc.2.1
  · simp [Value.cells] at hc
    obtain ⟨rfl, rfl, rfl⟩ := hc
    simp only [if_true] at hmm
    subst hmm
    by_cases hl0 : len = 0
    · exact .inl hl0
    right
    have c35 : Try.prog.cellsOf 35 = 5 := by kernel_rfl
    have c3 : Try.prog.cellsOf 3 = 1 := by kernel_rfl
    have c4 : Try.prog.cellsOf 4 = 1 := by kernel_rfl
    have c9 : Try.prog.cellsOf 9 = 1 := by kernel_rfl
    have each : ∀ i, i < len → ∃ A : ActOf, W.cell? (a'.add (i * 5)) = some (.bool A.forget) ∧ W.cell? (a'.add (i * 5 + 1)) = some (.int .i64 A.key) ∧ W.cell? (a'.add (i * 5 + 2)) = some (.int .i64 A.index) ∧ W.cell? (a'.add (i * 5 + 3)) = some (.int .i64 A.count) ∧ W.cell? (a'.add (i * 5 + 4)) = some (.string A.data) ∧ A.data.size ≤ maxLen := by
      intro i hi
      obtain ⟨cs', h1, h2⟩ := hx i (by omega)
      rw [c35] at h1
      obtain ⟨_, hlen, hcell⟩ := World.cells?_some h1
      obtain ⟨xs, k, hk, hxy, _, hxl, hf⟩ := DataW.trod_struct Try.underlying35 h2
      match xs, hxl, cs', hlen with
      | [y0, y1, y2, y3, y4], _, [v0, v1, v2, v3, v4], _ =>
        have g0 := hf 0 _ rfl
        have g1 := hf 1 _ rfl
        have g2 := hf 2 _ rfl
        have g3 := hf 3 _ rfl
        have g4 := hf 4 _ rfl
        simp [c3, c4, c9] at g0 g1 g2 g3 g4
        obtain ⟨b0, e0, _⟩ := DataW.trod_bool Try.underlying4 g0
        obtain ⟨k1, e1, _, _⟩ := DataW.trod_int Try.underlying3 g1
        obtain ⟨k2, e2, _, _⟩ := DataW.trod_int Try.underlying3 g2
        obtain ⟨k3, e3, _, _⟩ := DataW.trod_int Try.underlying3 g3
        obtain ⟨t4, e4, _, ht⟩ := DataW.trod_string Try.underlying9 g4
        simp at e0 e1 e2 e3 e4
        subst e0 e1 e2 e3 e4
        have f0 := hcell 0 (by omega)
        have f1 := hcell 1 (by omega)
        have f2 := hcell 2 (by omega)
        have f3 := hcell 3 (by omega)
        have f4 := hcell 4 (by omega)
        rw [Deep.add_add] at f0 f1 f2 f3 f4
        exact ⟨⟨b0, k1, k2, k3, t4⟩, by simpa using f0, by simpa using f1, by simpa using f2, by simpa using f3, by simpa using f4, ht⟩
    obtain ⟨q, hq⟩ := Deep.choose_lt each
    obtain ⟨b, off, spot⟩ := a'
    have hc0 := (hq 0 (by omega)).1
    have hspot : spot = none := by simpa [Addr.add] using World.cell?_spot hc0
    subst hspot
    have hadd : ∀ j, (⟨b, off, none⟩ : Addr).add j = ⟨b, off + j, none⟩ := fun j => by unfold Addr.add; split <;> simp_all
    have hget : ∀ i, i < len → ((List.range len).map q).getD i default = q i := fun i hi => by simp [hi]
    refine ⟨b, off, (List.range len).map q, rfl, by simp, by unfold maxLen at hm; omega, World.block_lt_of_cell? W _ hc0, fun i hi => ?_, fun i => ?_⟩
    · have hi' : i < len := by simpa using hi
      obtain ⟨h1, h2, h3, h4, h5, _⟩ := hq i hi'
      rw [hget i hi']
      rw [hadd] at h1 h2 h3 h4 h5
      exact ⟨h1, h2, h3, h4, h5⟩
    · by_cases hi : i < len
      · rw [hget i hi]
        have := (hq i hi).2.2.2.2.2
        unfold maxLen at this
        omega
      · have e : ((List.range len).map q).getD i default = default := by simp [hi]
        rw [e]
        decide

/-! ### two slots in one memory -/
theorem cell_map_none {w : World} {b : Nat} {es : Array MapEntry} {c : Nat} (h : w.heap[b]? = some (.map es c)) (j : Nat) : w.cell? ⟨b, j, none⟩ = none := by simp [World.cell?, h]
theorem SlotAt.mmap {p : Nat} {mo : Option Nat} {k : Int} {L : PL} {w : World} (h : SlotAt p mo k L w) : ∀ b, mo = some b → ∃ es c, w.heap[b]? = some (.map es c) := by
  rintro b rfl
  obtain ⟨D, ⟨es, clock, hb, _⟩, _⟩ := h.2.2.2
  exact ⟨es, clock, hb⟩
theorem SliceAt.turned {p : Nat} {mo : Option Nat} {k : Int} {L : PL} {w w' : World} {v : Value} {xs : List Value} (h : SliceAt w v xs) (hS : SlotAt p mo k L w) (hT : Turned p mo w w') (hno : ∀ n, xs.getD 0 undef ≠ .int .i64 n) : SliceAt w' v xs := by
  obtain ⟨a, c, hv, h⟩ := h
  refine ⟨a, c, hv, fun hx => ?_⟩
  obtain ⟨g, ha, hg, hc⟩ := h hx
  have hpos : 0 < xs.length := by
    cases xs with
    | nil => exact absurd rfl hx
    | cons _ _ => simp
  have h0 := hc 0 hpos
  have hgp : g ≠ p := by
    intro e
    rw [e, hS.cells.1] at h0
    injection h0 with h0
    exact hno _ h0.symm
  have hgm : some g ≠ mo := by
    intro e
    obtain ⟨es, cl, hb⟩ := hS.mmap g e.symm
    rw [cell_map_none hb] at h0
    cases h0
  have hb := hT.block g hg hgp hgm
  exact ⟨g, ha, Nat.lt_of_lt_of_le hg hT.size, fun i hi => (World.cell?_of_block (a := ⟨g, i, none⟩) hb).trans (hc i hi)⟩
theorem hsV_noint (L : PL) (n : Int) : (hsV L).getD 0 undef ≠ .int .i64 n := by
  cases L with
  | nil => intro h; cases h
  | cons x L => intro h; cases h
theorem psV_noint (L : PL) (n : Int) : (psV L).getD 0 undef ≠ .int .i64 n := by
  cases L with
  | nil => intro h; cases h
  | cons x L => intro h; cases h
theorem RSlot.turned {p : Nat} {mo : Option Nat} {k k' : Int} {L L' : PL} {v : Value} {w w' : World} (h : RSlot k L v w) (hS : SlotAt p mo k' L' w) (hT : Turned p mo w w') : RSlot k L v w' := by
  obtain ⟨hv, pv, e, h1, h2⟩ := h
  exact ⟨hv, pv, e, h1.turned hS hT (hsV_noint L), h2.turned hS hT (psV_noint L)⟩
theorem SlotAt.other {p q : Nat} {mo mq : Option Nat} {k : Int} {L : PL} {w w' : World} (h : SlotAt q mq k L w) (hT : Turned p mo w w') (h1 : q ≠ p) (h2 : some q ≠ mo) (h3 : ∀ b, mq = some b → b ≠ p ∧ some b ≠ mo) : SlotAt q mq k L w' :=
  h.kept (hT.block q h.lt h1 h2) (fun b e => hT.block b (h.mlt b e) (h3 b e).1 (h3 b e).2)
theorem cat_len_set : ∀ (L : PL) (i : Nat) (l : List UInt8), L.getD i none = none → (catS L).length ≤ (catS (L.set i (some l))).length
  | [], _, _, _ => by simp [catS]
  | x :: L, 0, l, h => by
    simp at h
    subst h
    simp [catS]
  | x :: L, i + 1, l, h => by
    have ih := cat_len_set L i l (by simpa using h)
    unfold catS at ih ⊢
    rw [List.set_cons_succ, List.map_cons, List.map_cons, List.flatten_cons, List.flatten_cons, List.length_append, List.length_append]
    omega
/-- behind Put a slot has another message, or no fewer bytes -/
theorem put_bytes (k : Int) (L : PL) (key index count : Int) (l : List UInt8) : (putS k L key index count l).1.1 ≠ k ∨ bytesS L ≤ bytesS (putS k L key index count l).1.2 := by
  unfold putS
  split
  · exact .inr (Nat.le_refl _)
  · split
    · exact .inr (Nat.le_refl _)
    · split
      · left; simp only; omega
      · split
        · exact .inr (Nat.le_refl _)
        · split
          · exact .inr (Nat.le_refl _)
          · right
            rw [bytes_cat, bytes_cat]
            exact cat_len_set L _ l (by assumption)
/-- the document's slot in block px, laid anew -/
def setX (px : Nat) (a b c : Value) (W : World) : World := ((W.setCell ⟨px, 0, none⟩ a).setCell ⟨px, 1, none⟩ b).setCell ⟨px, 2, none⟩ c
theorem setX_size (px : Nat) (a b c : Value) (W : World) : (setX px a b c W).heap.size = W.heap.size := by unfold setX; rw [size_setCell, size_setCell, size_setCell]
theorem setX_other (px : Nat) (a b c : Value) (W : World) (j : Nat) (h : j ≠ px) : (setX px a b c W).heap[j]? = W.heap[j]? := by unfold setX; rw [Below.heap_setCell _ _ _ _ h, Below.heap_setCell _ _ _ _ h, Below.heap_setCell _ _ _ _ h]
theorem setX_at {px : Nat} {a b c x y z : Value} {W : World} {T : TypeId} (h : W.heap[px]? = some (.cells #[x, y, z] T (0, 0))) : (setX px a b c W).heap[px]? = some (.cells #[a, b, c] T (0, 0)) := by
  unfold setX
  simp [World.setCell, Array.getElem?_modify, h]
theorem setX_below {B px : Nat} {a b c : Value} {w W : World} (h : Below B w W) (hp : B ≤ px) : Below B w (setX px a b c W) := ((h.setCell (p := ⟨px, 0, none⟩) hp _).setCell (p := ⟨px, 1, none⟩) hp _).setCell (p := ⟨px, 2, none⟩) hp _
theorem SliceAt.but {px : Nat} {n : Int} {w w' : World} {v : Value} {xs : List Value} (h : SliceAt w v xs) (hp : w.cell? ⟨px, 0, none⟩ = some (.int .i64 n)) (hk : ∀ j, j ≠ px → w'.heap[j]? = w.heap[j]?) (hs : w'.heap.size = w.heap.size) (hno : ∀ n, xs.getD 0 undef ≠ .int .i64 n) : SliceAt w' v xs := by
  obtain ⟨a, c, hv, h⟩ := h
  refine ⟨a, c, hv, fun hx => ?_⟩
  obtain ⟨g, ha, hg, hc⟩ := h hx
  have hpos : 0 < xs.length := by
    cases xs with
    | nil => exact absurd rfl hx
    | cons _ _ => simp
  have h0 := hc 0 hpos
  have hgp : g ≠ px := by
    intro e
    rw [e, hp] at h0
    injection h0 with h0
    exact hno _ h0.symm
  exact ⟨g, ha, by rw [hs]; exact hg, fun i hi => (World.cell?_of_block (a := ⟨g, i, none⟩) (hk g hgp)).trans (hc i hi)⟩
theorem RSlot.setX {px : Nat} {n : Int} {a b c : Value} {k : Int} {L : PL} {v : Value} {w : World} (h : RSlot k L v w) (hp : w.cell? ⟨px, 0, none⟩ = some (.int .i64 n)) : RSlot k L v (setX px a b c w) := by
  obtain ⟨hv, pv, e, h1, h2⟩ := h
  exact ⟨hv, pv, e, h1.but hp (setX_other px a b c w) (setX_size px a b c w) (hsV_noint L), h2.but hp (setX_other px a b c w) (setX_size px a b c w) (psV_noint L)⟩
theorem SlotAt.setX {q px : Nat} {mq : Option Nat} {a b c x y z : Value} {k : Int} {L : PL} {w : World} (h : SlotAt q mq k L w) (hx : w.heap[px]? = some (.cells #[x, y, z] 33 (0, 0))) : SlotAt q mq k L (setX px a b c w) := by
  refine h.kept (setX_other _ _ _ _ _ _ ?_) (fun bq e => setX_other _ _ _ _ _ _ ?_)
  · intro e
    have h1 := h.1
    rw [e, hx] at h1
    simp at h1
  · intro e'
    obtain ⟨es, cl, hb⟩ := h.mmap bq e
    rw [e', hx] at hb
    cases hb
theorem px_ne {px p : Nat} {mo : Option Nat} {x y z : Value} {k : Int} {L : PL} {w : World} (h : SlotAt p mo k L w) (hx : w.heap[px]? = some (.cells #[x, y, z] 33 (0, 0))) : px ≠ p ∧ some px ≠ mo := by
  refine ⟨fun e => ?_, fun e => ?_⟩
  · have h1 := h.1
    rw [← e, hx] at h1
    simp at h1
  · obtain ⟨es, cl, hb⟩ := h.mmap px e.symm
    rw [hx] at hb
    cases hb
end Go.Proofs.Ytghnkpfnpidncaa.P
