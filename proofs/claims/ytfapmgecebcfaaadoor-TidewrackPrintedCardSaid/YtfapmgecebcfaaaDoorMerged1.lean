/- The contracts of glyph.Decoder's open and may, and of begin. -/
import Derived.Test.YtfapmgecebcfaaaDoorMerged0
import Derived.Test.YtfapmgecebcfaaaDoorWBase
import Derived.Laws.BitsAllLaws
namespace Go.Proofs.YtfapmgecebcfaaaDoor.Y
open Go.RowKit
open Go.Proofs.YtfapmgecebcfaaaDoor.W (OwnR RunesIn wpList_append_runes runes_one grownBy_of_below)

def decV (d : St) : Value := .agg #[.int .u8 (d.lead : Int), .int .i32 (d.rune : Int), .int .i64 (d.need : Int)]
def opB (d : St) : Bool := decide (0 < d.need)
def toI (l : List Nat) : List Int := l.map fun n : Nat => (n : Int)
theorem toI_append (a b : List Nat) : toI (a ++ b) = toI a ++ toI b := List.map_append ..
theorem toI_len (a : List Nat) : (toI a).length = a.length := List.length_map ..

set_option maxRecDepth 100000 in
theorem open_any (d : St) (w : World) : Calls Tryd.prog 36 #[decV d] w fun e w' => e = .returned (.bool (opB d)) ∧ Below w.heap.size w w' := by
  obtain ⟨ld, r, n⟩ := d
  unfold decV opB
  simp only
  have hb : Below w.heap.size w (w.alloc (.cells #[.int .u8 (ld : Int), .int .i32 (r : Int), .int .i64 (n : Int)] 26)) := (Below.refl _ _).alloc (Nat.le_refl _) _
  have HB := Lib.hid hb
  clear hb
  by_cases h : 0 < n
  · have hd : decide (0 < n) = true := by simpa using h
    have hd2 : decide ((0 : Int) < (n : Int)) = true := by simpa using h
    rw [hd]
    go_enter Tryd.func36, Tryd.ntmps36
    go_wp2
    go_ret
    exact ⟨rfl, HB.out⟩
  · obtain rfl : n = 0 := by omega
    rw [show decide (0 < 0) = false from rfl]
    go_enter Tryd.func36, Tryd.ntmps36
    go_wp2
    go_ret
    exact ⟨rfl, HB.out⟩

set_option maxRecDepth 100000 in
set_option maxHeartbeats 2000000 in
theorem may_any (d : St) (hd : d.lead < 256) (c : Nat) (hc : (c : Int) < 256) (w : World) (hT : Tab w) : Calls Tryd.prog 44 #[decV d, .int .u8 (c : Int)] w fun e w' => e = .returned (.bool (mayS d c)) ∧ Below w.heap.size w w' := by
  obtain ⟨ld, r, n⟩ := d
  obtain ⟨R, hR⟩ : ∃ R, mayS ⟨ld, r, n⟩ c = R := ⟨_, rfl⟩
  rw [hR]
  unfold decV
  simp only at hd ⊢
  obtain ⟨w1, hw1⟩ : ∃ w1, w.alloc (.cells #[.int .u8 (ld : Int), .int .i32 (r : Int), .int .i64 (n : Int)] 26) = w1 := ⟨_, rfl⟩
  have hb1 : Below w.heap.size w w1 := by rw [← hw1]; exact (Below.refl _ _).alloc (Nat.le_refl _) _
  have HL := Lib.hid (leadOf_any ld (by omega) w1 (hT.belowAll hb1))
  have HB1 := Lib.hid hb1
  unfold mayS at hR
  simp only at hR
  have HR := Lib.hid hR
  have HW1 := Lib.hid hw1
  clear hR hb1 hw1 hT
  go_enter Tryd.func44, Tryd.ntmps44
  go_wp2_with fail
  rw [HW1.out]
  refine HL.out.mono ?_
  rintro e w2 ⟨rfl, hb2⟩
  have HB2 := Lib.hid (HB1.out.trans (hb2.mono HB1.out.size))
  have hsz : w.heap.size < w1.heap.size := by rw [← HW1.out]; simp
  have hn2 : w2.cell? ⟨w.heap.size, 2, none⟩ = some (.int .i64 (n : Int)) := (hb2.cell (p := ⟨w.heap.size, 2, none⟩) hsz).trans (by rw [← HW1.out, World.cell?_alloc_new]; rfl)
  have hsz2 : w.heap.size < w2.heap.size := Nat.lt_of_lt_of_le hsz hb2.size
  have hle2 : w.heap.size ≤ w2.heap.size := by omega
  clear hb2 HL
  have hRR := HR.out
  cases hl : leadS ld with
  | none =>
    rw [hl] at hRR
    simp only at hRR
    simp only [Option.getD_none, Option.isSome_none, zeroRow, rowV]
    by_cases h1 : 128 ≤ c
    · by_cases h2 : c ≤ 191
      · have d1 : decide ((128 : Int) ≤ (c : Int)) = true := by rw [decide_eq_true_eq]; omega
        have d2 : decide ((c : Int) ≤ 191) = true := by rw [decide_eq_true_eq]; omega
        have HV : Hid (R = true) := Lib.hid (by rw [← hRR]; simp [h1, h2])
        clear hRR hl h1 h2
        go_wp2
        go_ret
        exact ⟨by rw [HV.out]; rfl, HB2.out.alloc hle2 _⟩
      · have d1 : decide ((128 : Int) ≤ (c : Int)) = true := by rw [decide_eq_true_eq]; omega
        have d2 : decide ((c : Int) ≤ 191) = false := by rw [decide_eq_false_iff_not]; omega
        have HV : Hid (R = false) := Lib.hid (by rw [← hRR]; simp [h2])
        clear hRR hl h1 h2
        go_wp2
        go_ret
        exact ⟨by rw [HV.out]; rfl, HB2.out.alloc hle2 _⟩
    · have d1 : decide ((128 : Int) ≤ (c : Int)) = false := by rw [decide_eq_false_iff_not]; omega
      have HV : Hid (R = false) := Lib.hid (by rw [← hRR]; simp [h1])
      clear hRR hl h1
      go_wp2
      go_ret
      exact ⟨by rw [HV.out]; rfl, HB2.out.alloc hle2 _⟩
  | some x =>
    obtain ⟨x0, x1, x2, x3, x4, x5⟩ := x
    rw [hl] at hRR
    simp only at hRR
    simp only [Option.getD_some, Option.isSome_some, rowV]
    by_cases h0 : n = x3
    · rw [if_pos h0] at hRR
      subst h0
      by_cases h1 : x4 ≤ c
      · by_cases h2 : c ≤ x5
        · have d1 : decide (x4 ≤ c) = true := by simpa using h1
          have d2 : decide (c ≤ x5) = true := by simpa using h2
          have HV : Hid (R = true) := Lib.hid (by rw [← hRR]; simp [h1, h2])
          clear hRR hl h1 h2
          go_wp2
          go_ret
          exact ⟨by rw [HV.out]; rfl, HB2.out.alloc hle2 _⟩
        · have d1 : decide (x4 ≤ c) = true := by simpa using h1
          have d2 : decide (c ≤ x5) = false := by simpa using h2
          have HV : Hid (R = false) := Lib.hid (by rw [← hRR]; simp [h2])
          clear hRR hl h1 h2
          go_wp2
          go_ret
          exact ⟨by rw [HV.out]; rfl, HB2.out.alloc hle2 _⟩
      · have d1 : decide (x4 ≤ c) = false := by simpa using h1
        have HV : Hid (R = false) := Lib.hid (by rw [← hRR]; simp [h1])
        clear hRR hl h1
        go_wp2
        go_ret
        exact ⟨by rw [HV.out]; rfl, HB2.out.alloc hle2 _⟩
    · rw [if_neg h0] at hRR
      have d0 : ((n : Int) == (x3 : Int)) = false := by rw [beq_eq_false_iff_ne]; omega
      by_cases h1 : 128 ≤ c
      · by_cases h2 : c ≤ 191
        · have d1 : decide ((128 : Int) ≤ (c : Int)) = true := by rw [decide_eq_true_eq]; omega
          have d2 : decide ((c : Int) ≤ 191) = true := by rw [decide_eq_true_eq]; omega
          have HV : Hid (R = true) := Lib.hid (by rw [← hRR]; simp [h1, h2])
          clear hRR hl h0 h1 h2
          go_wp2
          go_ret
          exact ⟨by rw [HV.out]; rfl, HB2.out.alloc hle2 _⟩
        · have d1 : decide ((128 : Int) ≤ (c : Int)) = true := by rw [decide_eq_true_eq]; omega
          have d2 : decide ((c : Int) ≤ 191) = false := by rw [decide_eq_false_iff_not]; omega
          have HV : Hid (R = false) := Lib.hid (by rw [← hRR]; simp [h2])
          clear hRR hl h0 h1 h2
          go_wp2
          go_ret
          exact ⟨by rw [HV.out]; rfl, HB2.out.alloc hle2 _⟩
      · have d1 : decide ((128 : Int) ≤ (c : Int)) = false := by rw [decide_eq_false_iff_not]; omega
        have HV : Hid (R = false) := Lib.hid (by rw [← hRR]; simp [h1])
        clear hRR hl h0 h1
        go_wp2
        go_ret
        exact ⟨by rw [HV.out]; rfl, HB2.out.alloc hle2 _⟩

theorem mask_u8 (b m : Nat) (hb : b < 256) (hm : m = 127 ∨ m = 31 ∨ m = 15 ∨ m = 7) : bits .and .u8 (b : Int) (m : Int) = ((b % (m + 1) : Nat) : Int) := by
  rcases hm with rfl | rfl | rfl | rfl
  · have := bits_mask .u8 8 (by decide) wraps_u8 7 (by decide) (b : Int) (by omega) (by omega)
    simpa using this
  · have := bits_mask .u8 8 (by decide) wraps_u8 5 (by decide) (b : Int) (by omega) (by omega)
    simpa using this
  · have := bits_mask .u8 8 (by decide) wraps_u8 4 (by decide) (b : Int) (by omega) (by omega)
    simpa using this
  · have := bits_mask .u8 8 (by decide) wraps_u8 3 (by decide) (b : Int) (by omega) (by omega)
    simpa using this

end Go.Proofs.YtfapmgecebcfaaaDoor.Y

/- A decoder in a block, beside runes of our own. -/
namespace Go.Proofs.YtfapmgecebcfaaaDoor.Y
open Go.RowKit
open Go.Proofs.YtfapmgecebcfaaaDoor.W (OwnR RunesIn wpList_append_runes runes_one grownBy_of_below)

def DBlk (p : Nat) (a b c : Value) (w : World) : Prop := w.heap[p]? = some (.cells #[a, b, c] 26 (0, 0))
theorem DBlk.new (w : World) (a b c : Value) : DBlk w.heap.size a b c (w.alloc (.cells #[a, b, c] 26)) := World.alloc_heap_new w _
theorem DBlk.lt {p : Nat} {a b c : Value} {w : World} (h : DBlk p a b c w) : p < w.heap.size := (Array.getElem?_eq_some_iff.1 h).1
theorem DBlk.c0 {p : Nat} {a b c : Value} {w : World} (h : DBlk p a b c w) : w.cell? ⟨p, 0, none⟩ = some a := by simp [World.cell?, show w.heap[p]? = _ from h]
theorem DBlk.c1 {p : Nat} {a b c : Value} {w : World} (h : DBlk p a b c w) : w.cell? ⟨p, 1, none⟩ = some b := by simp [World.cell?, show w.heap[p]? = _ from h]
theorem DBlk.c2 {p : Nat} {a b c : Value} {w : World} (h : DBlk p a b c w) : w.cell? ⟨p, 2, none⟩ = some c := by simp [World.cell?, show w.heap[p]? = _ from h]
theorem DBlk.fr {p : Nat} {a b c : Value} {w : World} (h : DBlk p a b c w) (o : Nat) : w.frozen? ⟨p, o, none⟩ = false := by simp [World.frozen?, show w.heap[p]? = _ from h]
theorem DBlk.below {p : Nat} {a b c : Value} {w w' : World} {B : Nat} (h : DBlk p a b c w) (hb : Below B w w') (hp : p < B) : DBlk p a b c w' := (hb.block p hp).trans h
theorem DBlk.alloc {p : Nat} {a b c : Value} {w : World} (h : DBlk p a b c w) (o : Obj) : DBlk p a b c (w.alloc o) := (World.grownBy_alloc w o none).block p h.lt (by simp) |>.trans h
theorem DBlk.grown {p : Nat} {a b c : Value} {w w' : World} {row : Option Nat} (h : DBlk p a b c w) (hg : w.grownBy w' row) (hne : some p ≠ row) : DBlk p a b c w' := (hg.block p h.lt hne).trans h
theorem DBlk.set0 {p : Nat} {a b c : Value} {w : World} (h : DBlk p a b c w) (v : Value) : DBlk p v b c (w.setCell ⟨p, 0, none⟩ v) := by
  unfold DBlk at *; simp [World.setCell, Array.getElem?_modify, h]
theorem DBlk.set1 {p : Nat} {a b c : Value} {w : World} (h : DBlk p a b c w) (v : Value) : DBlk p a v c (w.setCell ⟨p, 1, none⟩ v) := by
  unfold DBlk at *; simp [World.setCell, Array.getElem?_modify, h]
theorem DBlk.set2 {p : Nat} {a b c : Value} {w : World} (h : DBlk p a b c w) (v : Value) : DBlk p a b v (w.setCell ⟨p, 2, none⟩ v) := by
  unfold DBlk at *; simp [World.setCell, Array.getElem?_modify, h]
theorem DBlk.other {p k o : Nat} {a b c : Value} {w : World} (h : DBlk p a b c w) (hne : p ≠ k) (v : Value) : DBlk p a b c (w.setCell ⟨k, o, none⟩ v) :=
  (Below.heap_setCell w ⟨k, o, none⟩ v p hne).trans h
theorem own_ne {base p : Nat} {v : Value} {zs : List Int} {w : World} {a b c : Value} (h : OwnR base v zs w) (hd : DBlk p a b c w) : v.ownBlock ≠ some p := by
  rcases h.2 with ⟨rfl, _⟩ | ⟨g, cap, cur, rfl, _, hgb, _⟩
  · simp [Value.ownBlock]
  · intro e'
    obtain rfl : g = p := by simpa [Value.ownBlock] using e'
    have h2 := (show w.heap[g]? = _ from hd).symm.trans hgb
    injection h2 with h2
    injection h2 with _ h2 _
    exact absurd h2 (by decide)
theorem grownBy_set (w : World) (p o : Nat) (v : Value) : w.grownBy (w.setCell ⟨p, o, none⟩ v) (some p) :=
  ⟨rfl, rfl, rfl, (KeepsWalks.setCell w _ v).size, fun k _ hk => Below.heap_setCell _ _ _ k (fun e => hk (by rw [e]))⟩
theorem own_set {base p o : Nat} {v u : Value} {zs : List Int} {w : World} (h : OwnR base v zs w) (hne : v.ownBlock ≠ some p) : OwnR base v zs (w.setCell ⟨p, o, none⟩ u) :=
  World.ownsRow.kept h (grownBy_set w p o u) (.inr hne)
/-- a decoder's three cells are laid -/
def set3 (w : World) (p : Nat) (a b c : Value) : World := ((w.setCell ⟨p, 0, none⟩ a).setCell ⟨p, 1, none⟩ b).setCell ⟨p, 2, none⟩ c
theorem own_set3 {base p : Nat} {v : Value} {zs : List Int} {w : World} {a b c a' b' c' : Value} (h : OwnR base v zs w) (hd : DBlk p a b c w) : OwnR base v zs (set3 w p a' b' c') :=
  own_set (own_set (own_set h (own_ne h hd)) (own_ne h hd)) (own_ne h hd)
theorem below_set3 {base p : Nat} {w0 w : World} {a b c : Value} (h : Below base w0 w) (hp : base ≤ p) : Below base w0 (set3 w p a b c) :=
  ((h.setCell (p := ⟨p, 0, none⟩) hp _).setCell (p := ⟨p, 1, none⟩) hp _).setCell (p := ⟨p, 2, none⟩) hp _
theorem DBlk.set3 {p : Nat} {a b c a' b' c' : Value} {w : World} (h : DBlk p a b c w) : DBlk p a' b' c' (set3 w p a' b' c') := ((h.set0 a').set1 b').set2 c'
/-- decoders in blocks are kept -/
def KeepD (w w' : World) : Prop := ∀ p a b c, DBlk p a b c w → DBlk p a b c w'
theorem KeepD.trans {w0 w1 w2 : World} (h : KeepD w0 w1) (k : KeepD w1 w2) : KeepD w0 w2 := fun p a b c hd => k p a b c (h p a b c hd)
theorem KeepD.of_below {w w' : World} (h : Below w.heap.size w w') : KeepD w w' := fun _ _ _ _ hd => hd.below h hd.lt
theorem KeepD.grown {base : Nat} {v : Value} {zs : List Int} {w w' : World} (h : OwnR base v zs w) (hg : w.grownBy w' v.ownBlock) : KeepD w w' := fun _ _ _ _ hd => hd.grown hg (own_ne h hd).symm
theorem KeepD.set3 {w w' : World} (h : KeepD w w') {q : Nat} (hq : w.heap.size ≤ q) (x y z : Value) : KeepD w (set3 w' q x y z) := fun p a b c hd => by
  have hne : p ≠ q := by have := hd.lt; omega
  exact (((h p a b c hd).other hne x).other hne y).other hne z
theorem KeepD.alloc {w w' : World} (h : KeepD w w') (o : Obj) : KeepD w (w'.alloc o) := fun p a b c hd => (h p a b c hd).alloc o
/-- what begin and step leave -/
structure Left (base : Nat) (v' : Value) (zs : List Int) (w w' : World) : Prop where
  own : OwnR base v' zs w'
  below : Below base w w'
  keep : KeepD w w'
def BeginPost (base b : Nat) (zs : List Int) (w : World) (e : Ending) (w' : World) : Prop := ∃ v', e = .returned (.tuple #[decV (beginS b).1, v']) ∧ Left base v' (zs ++ toI (beginS b).2) w w'
def StepPost (base : Nat) (d : St) (b : Nat) (zs : List Int) (w : World) (e : Ending) (w' : World) : Prop := ∃ v', e = .returned (.tuple #[decV (stepS d b).1, v']) ∧ Left base v' (zs ++ toI (stepS d b).2) w w'
end Go.Proofs.YtfapmgecebcfaaaDoor.Y
