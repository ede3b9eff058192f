/- A decoder in a block, beside runes of our own. -/
import Derived.Test.YtfapmgecebcfaaaDoorYStep
namespace Go.Proofs.YtfapmgecebcfaaaDoor.Y
open Go.RowKit
open Go.Proofs.YtfapmgecebcfaaaDoor.W (OwnR RunesIn wpList_append_runes runes_one grownBy_of_below)

def DBlk (p : Nat) (a b c : Value) (w : World) : Prop := w.heap[p]? = some (.cells #[a, b, c] 26 (0, 0))
theorem DBlk.new (w : World) (a b c : Value) : DBlk w.heap.size a b c (w.alloc (.cells #[a, b, c] 26)) := World.alloc_heap_new w _
theorem DBlk.lt {p : Nat} {a b c : Value} {w : World} (h : DBlk p a b c w) : p < w.heap.size := (Array.getElem?_eq_some_iff.1 h).1
theorem DBlk.c0 {p : Nat} {a b c : Value} {w : World} (h : DBlk p a b c w) : w.cell? ⟨p, 0, none⟩ = some a := by simp [World.cell?, show w.heap[p]? = _ from h]
theorem DBlk.c1 {p : Nat} {a b c : Value} {w : World} (h : DBlk p a b c w) : w.cell? ⟨p, 1, none⟩ = some b := by simp [World.cell?, show w.heap[p]? = _ from h]
theorem DBlk.c2 {p : Nat} {a b c : Value} {w : World} (h : DBlk p a b c w) : w.cell? ⟨p, 2, none⟩ = some c := by simp [World.cell?, show w.heap[p]? = _ from h]
theorem DBlk.fr {p : Nat} {a b c : Value} {w : World} (h : DBlk p a b c w) (o : Nat) : w.frozen? ⟨p, o, none⟩ = false := by simp [World.frozen?, show w.heap[p]? = _ from h]
theorem DBlk.below {p : Nat} {a b c : Value} {w w' : World} {B : Nat} (h : DBlk p a b c w) (hb : Below B w w') (hp : p < B) : DBlk p a b c w' := (hb.block p hp).trans h
theorem DBlk.alloc {p : Nat} {a b c : Value} {w : World} (h : DBlk p a b c w) (o : Obj) : DBlk p a b c (w.alloc o) := (World.grownBy_alloc w o none).block p h.lt (by simp) |>.trans h
theorem DBlk.grown {p : Nat} {a b c : Value} {w w' : World} {row : Option Nat} (h : DBlk p a b c w) (hg : w.grownBy w' row) (hne : some p ≠ row) : DBlk p a b c w' := (hg.block p h.lt hne).trans h
theorem DBlk.set0 {p : Nat} {a b c : Value} {w : World} (h : DBlk p a b c w) (v : Value) : DBlk p v b c (w.setCell ⟨p, 0, none⟩ v) := by
  unfold DBlk at *; simp [World.setCell, Array.getElem?_modify, h]
theorem DBlk.set1 {p : Nat} {a b c : Value} {w : World} (h : DBlk p a b c w) (v : Value) : DBlk p a v c (w.setCell ⟨p, 1, none⟩ v) := by
  unfold DBlk at *; simp [World.setCell, Array.getElem?_modify, h]
theorem DBlk.set2 {p : Nat} {a b c : Value} {w : World} (h : DBlk p a b c w) (v : Value) : DBlk p a b v (w.setCell ⟨p, 2, none⟩ v) := by
  unfold DBlk at *; simp [World.setCell, Array.getElem?_modify, h]
theorem DBlk.other {p k o : Nat} {a b c : Value} {w : World} (h : DBlk p a b c w) (hne : p ≠ k) (v : Value) : DBlk p a b c (w.setCell ⟨k, o, none⟩ v) :=
  (Below.heap_setCell w ⟨k, o, none⟩ v p hne).trans h
theorem own_ne {base p : Nat} {v : Value} {zs : List Int} {w : World} {a b c : Value} (h : OwnR base v zs w) (hd : DBlk p a b c w) : v.ownBlock ≠ some p := by
  rcases h.2 with ⟨rfl, _⟩ | ⟨g, cap, cur, rfl, _, hgb, _⟩
  · simp [Value.ownBlock]
  · intro e'
    obtain rfl : g = p := by simpa [Value.ownBlock] using e'
    have h2 := (show w.heap[g]? = _ from hd).symm.trans hgb
    injection h2 with h2
    injection h2 with _ h2 _
    exact absurd h2 (by decide)
theorem grownBy_set (w : World) (p o : Nat) (v : Value) : w.grownBy (w.setCell ⟨p, o, none⟩ v) (some p) :=
  ⟨rfl, rfl, rfl, (KeepsWalks.setCell w _ v).size, fun k _ hk => Below.heap_setCell _ _ _ k (fun e => hk (by rw [e]))⟩
theorem own_set {base p o : Nat} {v u : Value} {zs : List Int} {w : World} (h : OwnR base v zs w) (hne : v.ownBlock ≠ some p) : OwnR base v zs (w.setCell ⟨p, o, none⟩ u) :=
  World.ownsRow.kept h (grownBy_set w p o u) (.inr hne)
/-- a decoder's three cells are laid -/
def set3 (w : World) (p : Nat) (a b c : Value) : World := ((w.setCell ⟨p, 0, none⟩ a).setCell ⟨p, 1, none⟩ b).setCell ⟨p, 2, none⟩ c
theorem own_set3 {base p : Nat} {v : Value} {zs : List Int} {w : World} {a b c a' b' c' : Value} (h : OwnR base v zs w) (hd : DBlk p a b c w) : OwnR base v zs (set3 w p a' b' c') :=
  own_set (own_set (own_set h (own_ne h hd)) (own_ne h hd)) (own_ne h hd)
theorem below_set3 {base p : Nat} {w0 w : World} {a b c : Value} (h : Below base w0 w) (hp : base ≤ p) : Below base w0 (set3 w p a b c) :=
  ((h.setCell (p := ⟨p, 0, none⟩) hp _).setCell (p := ⟨p, 1, none⟩) hp _).setCell (p := ⟨p, 2, none⟩) hp _
theorem DBlk.set3 {p : Nat} {a b c a' b' c' : Value} {w : World} (h : DBlk p a b c w) : DBlk p a' b' c' (set3 w p a' b' c') := ((h.set0 a').set1 b').set2 c'
/-- decoders in blocks are kept -/
def KeepD (w w' : World) : Prop := ∀ p a b c, DBlk p a b c w → DBlk p a b c w'
theorem KeepD.trans {w0 w1 w2 : World} (h : KeepD w0 w1) (k : KeepD w1 w2) : KeepD w0 w2 := fun p a b c hd => k p a b c (h p a b c hd)
theorem KeepD.of_below {w w' : World} (h : Below w.heap.size w w') : KeepD w w' := fun _ _ _ _ hd => hd.below h hd.lt
theorem KeepD.grown {base : Nat} {v : Value} {zs : List Int} {w w' : World} (h : OwnR base v zs w) (hg : w.grownBy w' v.ownBlock) : KeepD w w' := fun _ _ _ _ hd => hd.grown hg (own_ne h hd).symm
theorem KeepD.set3 {w w' : World} (h : KeepD w w') {q : Nat} (hq : w.heap.size ≤ q) (x y z : Value) : KeepD w (set3 w' q x y z) := fun p a b c hd => by
  have hne : p ≠ q := by have := hd.lt; omega
  exact (((h p a b c hd).other hne x).other hne y).other hne z
theorem KeepD.alloc {w w' : World} (h : KeepD w w') (o : Obj) : KeepD w (w'.alloc o) := fun p a b c hd => (h p a b c hd).alloc o
/-- what begin and step leave -/
structure Left (base : Nat) (v' : Value) (zs : List Int) (w w' : World) : Prop where
  own : OwnR base v' zs w'
  below : Below base w w'
  keep : KeepD w w'
def BeginPost (base b : Nat) (zs : List Int) (w : World) (e : Ending) (w' : World) : Prop := ∃ v', e = .returned (.tuple #[decV (beginS b).1, v']) ∧ Left base v' (zs ++ toI (beginS b).2) w w'
def StepPost (base : Nat) (d : St) (b : Nat) (zs : List Int) (w : World) (e : Ending) (w' : World) : Prop := ∃ v', e = .returned (.tuple #[decV (stepS d b).1, v']) ∧ Left base v' (zs ++ toI (stepS d b).2) w w'
end Go.Proofs.YtfapmgecebcfaaaDoor.Y
