/- The contracts of Gram's sound, size, Check, Num: of any numbers, in a world that holds them. -/
import Derived.Test.YtghnkpfnpidncaaDoorITake
import Derived.Deep.RegionHeld3
import Derived.Deep.DeepCutAuto
import Derived.IntWalk
namespace Go.Proofs.YtghnkpfnpidncaaDoor.G
open Go.RowKit Go.Proofs.YtghnkpfnpidncaaDoor.I

/-- A datagram, as a value. -/
def gramV (e k : Int) (a : Option Addr) (len cap : Nat) (d : ByteArray) : Value := .agg #[.int .i64 e, .int .i64 k, .slice a len cap, .string d]
/-- The slice holds these numbers. -/
def NumsIn (a : Option Addr) (len : Nat) (zs : List Int) (w : World) : Prop := len = zs.length ∧ (zs = [] ∨ ∃ b off, a = some ⟨b, off, none⟩ ∧ b < w.heap.size ∧ Ints w b off zs)
theorem NumsIn.below {a : Option Addr} {len : Nat} {zs : List Int} {w w' : World} (h : NumsIn a len zs w) (hb : Below w.heap.size w w') : NumsIn a len zs w' := by
  refine ⟨h.1, h.2.imp id ?_⟩
  rintro ⟨b, off, ha, hl, hi⟩
  exact ⟨b, off, ha, Nat.lt_of_lt_of_le hl hb.size, fun i hi' => (hb.cell (p := ⟨b, off + i, none⟩) hl).trans (hi i hi')⟩
/-- May the Epoch, the Kind and the count be? -/
def headOk (e k : Int) (n : Nat) : Prop := 1 ≤ e ∧ e ≤ 4294967296 ∧ 1 ≤ k ∧ k ≤ 4 ∧ n ≤ 64
def numOk (z : Int) : Bool := decide (0 ≤ z ∧ z ≤ 4611686018427387904)
instance (e k : Int) (n : Nat) : Decidable (headOk e k n) := by unfold headOk; infer_instance
def soundS (e k : Int) (zs : List Int) : Bool := decide (headOk e k zs.length) && zs.all numOk

theorem all_upto {p : Int → Bool} {zs : List Int} {k : Nat} (hk : k < zs.length) (h : (zs.take k).all p = true) : (zs.take (k + 1)).all p = p (zs.getD k 0) := by
  rw [List.take_succ_eq_append_getElem hk, List.all_append, h]
  simp [hk]
theorem all_cut {p : Int → Bool} {zs : List Int} {k : Nat} (hk : k < zs.length) (h : p (zs.getD k 0) = false) : zs.all p = false := by
  rw [List.all_eq_false]
  refine ⟨zs[k], List.getElem_mem hk, ?_⟩
  have e : zs.getD k 0 = zs[k] := by simp [hk]
  rw [e] at h
  simp [h]

set_option maxRecDepth 100000 in
set_option maxHeartbeats 1000000 in
theorem sound_any (e k : Int) (a : Option Addr) (len cap : Nat) (d : ByteArray) (zs : List Int) (w : World) (h : NumsIn a len zs w) :
    Calls Tryd.prog 30 #[gramV e k a len cap d] w fun en w' => en = .returned (.bool (soundS e k zs)) ∧ Below w.heap.size w w' := by
  have hb1 : Below w.heap.size w (w.alloc (.cells #[.int .i64 e, .int .i64 k, .slice a len cap, .string d] 26)) := (Below.refl _ _).alloc (Nat.le_refl _) _
  have HB1 := Lib.hid hb1
  have HN := Lib.hid (h.below hb1)
  have hlen := h.1
  have HLen := Lib.hid hlen
  unfold gramV
  obtain ⟨R, hR⟩ : ∃ R, soundS e k zs = R := ⟨_, rfl⟩
  rw [hR]
  by_cases hok : headOk e k zs.length
  · have HR : Hid (R = zs.all numOk) := Lib.hid (by rw [← hR]; unfold soundS; rw [decide_eq_true hok, Bool.true_and])
    have hl64 : (len : Int) ≤ 64 := by rw [hlen]; have := hok.2.2.2.2; omega
    obtain ⟨h1, h2, h3, h4, _⟩ := hok
    clear hR hb1 h hlen
    go_enter Tryd.func30, Tryd.ntmps30
    go_wp2
    go_loop [4, 32] (fun _ i => ∃ j : Nat, j ≤ len ∧ i = .int .i64 j ∧ Hid ((zs.take j).all numOk = true)) (fun _ i => len - (intOf i).toNat)
    case atStart => exact ⟨0, by omega, rfl, Lib.hid rfl⟩
    case round =>
      obtain ⟨j, hj, rfl, hF⟩ := hrel
      by_cases hlt : j < len
      · have hjz : j < zs.length := by rw [← HLen.out]; exact hlt
        obtain ⟨b, off, rfl, _, hI⟩ := HN.out.2.resolve_left (by intro e; rw [e] at hjz; simp at hjz)
        have hc := hI j hjz
        obtain ⟨z, hz⟩ : ∃ z, zs.getD j 0 = z := ⟨_, rfl⟩
        rw [hz] at hc
        have HUp := Lib.hid (all_upto hjz hF.out)
        have HCut := Lib.hid (fun h => all_cut (p := numOk) hjz h)
        rw [hz] at HUp HCut
        have HJ := Lib.hid hjz
        clear hz hI hjz
        by_cases h0 : z < 0
        · have HR' : Hid (R = false) := Lib.hid (by rw [HR.out]; exact HCut.out (by unfold numOk; rw [decide_eq_false (by omega)]))
          go_wp2
          go_ret
          exact ⟨by rw [HR'.out]; rfl, HB1.out⟩
        · by_cases hg : 4611686018427387904 < z
          · have HR' : Hid (R = false) := Lib.hid (by rw [HR.out]; exact HCut.out (by unfold numOk; rw [decide_eq_false (by omega)]))
            go_wp2
            go_ret
            exact ⟨by rw [HR'.out]; rfl, HB1.out⟩
          · have HF' : Hid ((zs.take (j + 1)).all numOk = true) := Lib.hid (by rw [HUp.out]; unfold numOk; rw [decide_eq_true (by omega)])
            go_wp2
            go_round
            case rel => exact ⟨j + 1, by omega, by go_num, HF'⟩
            case measure => simp [intOf]; omega
      · obtain rfl : j = len := by omega
        have HR' : Hid (R = true) := Lib.hid (by rw [HR.out]; have h := hF.out; rwa [HLen.out, List.take_length] at h)
        go_wp2
        go_ret
        exact ⟨by rw [HR'.out]; rfl, HB1.out⟩
  · have HR : Hid (R = false) := Lib.hid (by rw [← hR]; unfold soundS; rw [decide_eq_false hok, Bool.false_and])
    have hcase : e < 1 ∨ (¬ e < 1 ∧ 4294967296 < e) ∨ (¬ e < 1 ∧ ¬ 4294967296 < e ∧ k < 1) ∨ (¬ e < 1 ∧ ¬ 4294967296 < e ∧ ¬ k < 1 ∧ 4 < k) ∨ (¬ e < 1 ∧ ¬ 4294967296 < e ∧ ¬ k < 1 ∧ ¬ 4 < k ∧ (64 : Int) < len) := by
      unfold headOk at hok
      omega
    clear hR hb1 h hlen hok
    rcases hcase with h1 | ⟨h1, h2⟩ | ⟨h1, h2, h3⟩ | ⟨h1, h2, h3, h4⟩ | ⟨h1, h2, h3, h4, h5⟩
    all_goals
      go_enter Tryd.func30, Tryd.ntmps30
      go_wp2
      go_ret
      exact ⟨by rw [HR.out]; rfl, HB1.out⟩
end Go.Proofs.YtghnkpfnpidncaaDoor.G
