/- The contracts of sum.Turn and of the document's Turn: the text whose bits from a place on are turned where the mask has ones. -/
import Derived.Test.YtghnkpfnpidncaaDoorSSeal
import Derived.RegionTactic
import Derived.ChangeAlike
import Derived.Deep.DeepCutAuto
namespace Go.Proofs.YtghnkpfnpidncaaDoor.S
open Go.RowKit

/-- The cells hold these bytes, and may be written. -/
def BytesAt (w : World) (g : Nat) (l : List UInt8) : Prop := ∀ j, j < l.length → w.cell? ⟨g, j, none⟩ = some (.int .u8 ((l.getD j 0).toNat : Int)) ∧ w.frozen? ⟨g, j, none⟩ = false
/-- one bit turned, if b is 1 -/
def flip (l : List UInt8) (p b : Nat) : List UInt8 := l.set (p / 8) (l.getD (p / 8) 0 ^^^ UInt8.ofNat (b * 2 ^ (p % 8)))
def turnL (l : List UInt8) (p m : Nat) : Nat → List UInt8
  | 0 => l
  | k + 1 => flip (turnL l p m k) (p + k) (m / 2 ^ k % 2)
theorem turnL_length (l : List UInt8) (p m k : Nat) : (turnL l p m k).length = l.length := by
  induction k with
  | zero => rfl
  | succ k ih => simp [turnL, flip, ih]

theorem bit_of (mask k : Nat) : bits .and .u8 ((mask : Int) / 2 ^ k % 256) 1 = ((mask / 2 ^ k % 2 : Nat) : Int) := by
  have e : ((mask : Int) / 2 ^ k % 256) = ((mask / 2 ^ k % 256 : Nat) : Int) := by
    rw [Int.natCast_emod, Int.natCast_ediv, Int.natCast_pow]; rfl
  rw [e, show (1 : Int) = ((1 : Nat) : Int) from rfl, u8_and_nat _ 1 (by omega) (by decide), Nat.and_one_is_mod]
  omega
theorem flip_val (x : UInt8) (B e : Nat) : bits .xor .u8 (x.toNat : Int) ((B : Int) * 2 ^ e % 256) = ((x ^^^ UInt8.ofNat (B * 2 ^ e)).toNat : Int) := by
  have h : ((B : Int) * 2 ^ e % 256) = ((B * 2 ^ e % 256 : Nat) : Int) := by
    rw [Int.natCast_emod, Int.natCast_mul, Int.natCast_pow]; rfl
  rw [h, u8_xor_nat _ _ x.toNat_lt (by omega), UInt8.toNat_xor]
  simp
theorem bytes_flip {w : World} {g : Nat} {l : List UInt8} {B : Nat} (h : BytesAt w g l) (p : Nat) (hp : p / 8 < l.length) :
    BytesAt ((w.setCell ⟨g, p / 8, none⟩ (.int .u8 (bits .xor .u8 ((l.getD (p / 8) 0).toNat : Int) ((B : Int) * 2 ^ (p % 8) % 256)))).drew) g (flip l p B) := by
  intro j hj
  unfold flip at hj ⊢
  simp at hj
  have hc := h j hj
  have h0 := h (p / 8) hp
  refine ⟨?_, ?_⟩
  · rw [World.cell?_drew]
    by_cases e : p / 8 = j
    · subst e
      rw [World.cell?_setCell_same _ _ _ h0.1, flip_val]
      simp [hp]
    · rw [World.cell?_setCell_other _ _ _ _ (by simp [e]), hc.1]
      simp [List.getElem?_set, e]
  · simpa using hc.2
theorem bytes_new (w : World) (s : ByteArray) (cap : Nat) : BytesAt (w.drew.alloc (.cells (bytesRow s cap) 5 ((bytesRow s cap).size, (bytesRow s cap).size + 1))) w.heap.size s.data.toList := by
  intro j hj
  have hj' : j < s.size := hj
  refine ⟨?_, ?_⟩
  · have h := World.cell?_alloc_mark w.drew (bytesRow s cap) 5 ((bytesRow s cap).size, (bytesRow s cap).size + 1) j
    refine Eq.trans h ?_
    unfold bytesRow
    rw [Array.getElem?_append_left (by simpa using hj')]
    simp [hj']
  · have h := World.frozen?_alloc_mark w.drew (bytesRow s cap) 5 (bytesRow s cap).size ((bytesRow s cap).size + 1) j
    refine Eq.trans h ?_
    have : s.size ≤ (bytesRow s cap).size := by unfold bytesRow; simp
    simp
    omega
theorem bytes_back {w : World} {g : Nat} {l : List UInt8} (h : BytesAt w g l) (cap : Nat) : (convert 47 9 (.slice (some ⟨g, 0, none⟩) l.length cap)).run Tryd.prog w = .ok (.string ⟨l.toArray⟩) w :=
  run_convert_bytes_back w 47 9 5 ⟨g, 0, none⟩ cap l Tryd.underlying47 Tryd.underlying5 Tryd.underlying9 (fun j hj => by
    have hadd : (⟨g, 0, none⟩ : Addr).add j = ⟨g, j, none⟩ := by unfold Addr.add; split <;> simp_all
    rw [hadd, (h j hj).1]
    simp [hj])

set_option maxRecDepth 100000 in
set_option maxHeartbeats 1000000 in
theorem turn_any (s : ByteArray) (at_ : Int) (mask A K : Nat) (hs : (s.size : Int) ≤ 110000) (hm : mask < 4294967296) 
    (hA : (A : Int) = min (max at_ 0) (8 * s.size)) (hK : (K : Int) = min 32 (8 * s.size - A)) (w : World) :
    Calls Tryd.prog 21 #[.string s, .int .i64 at_, .int .u32 mask] w fun e w' => (∃ u : ByteArray, e = .returned (.string u) ∧ u.data.toList = turnL s.data.toList A mask K) ∧ Below w.heap.size w w' := by
  have hconv := run_bytes_of_string (P := Tryd.prog) w 9 47 5 s Tryd.underlying9 Tryd.underlying47 Tryd.underlying5
  obtain ⟨cap, hcap⟩ : ∃ cap, grownCap w s.size 0 5 = cap := ⟨_, rfl⟩
  rw [hcap] at hconv
  obtain ⟨w1, hw1⟩ : ∃ w1, (w.drew.alloc (.cells (bytesRow s cap) 5 ((bytesRow s cap).size, (bytesRow s cap).size + 1))) = w1 := ⟨_, rfl⟩
  rw [hw1] at hconv
  have HW := Lib.hid hw1
  have HA := Lib.hid hA
  have HK := Lib.hid hK
  have hA8 : (A : Int) ≤ 8 * s.size := by omega
  have hK32 : (K : Int) ≤ 32 := by omega
  have hAK : (A : Int) + K ≤ 8 * s.size := by omega
  clear hcap hw1 hA hK
  go_enter Tryd.func21, Tryd.ntmps21
  go_upto_region 2 with fail
  go_cut [1] from 14 to 17 (fun t w' => t = .int .i64 A ∧ w = w')
  case first =>
    go_wp2
    all_goals go_meet
    all_goals (have h := HA.out; exact ⟨congrArg _ (by omega), rfl⟩)
  case rest =>
    obtain ⟨rfl, rfl⟩ := hcut
    go_upto_region 4 with fail
    go_cut [23, 24] from 20 to 24 (fun t z w' => t = .int .i64 K ∧ z = .int .i64 0 ∧ w1 = w')
    case first =>
      go_wp2
      all_goals go_meet
      all_goals (have h := HK.out; exact ⟨congrArg _ (by omega), rfl, rfl⟩)
    case rest =>
      obtain ⟨rfl, rfl, rfl⟩ := hcut
      go_wp2
      go_loopw [9, 10, 24] (fun _ _ i wr => ∃ k : Nat, k ≤ K ∧ i = .int .i64 k ∧ Hid (BytesAt wr w.heap.size (turnL s.data.toList A mask k) ∧ Below w.heap.size w wr)) (fun _ _ i _ => K - (intOf i).toNat)
      case atStart => exact ⟨0, by omega, rfl, Lib.hid ⟨by rw [← HW.out]; exact bytes_new w s cap, by rw [← HW.out]; exact ((Below.refl _ _).drew).alloc (Nat.le_refl _) _⟩⟩
      case round =>
        obtain ⟨k, hk, rfl, hF⟩ := hrel
        by_cases hlt : k < K
        · obtain ⟨B, e1, hB, HBk⟩ : ∃ B : Nat, bits .and .u8 ((mask : Int) / 2 ^ k % 256) 1 = (B : Int) ∧ (B : Int) ≤ 1 ∧ Hid (B = mask / 2 ^ k % 2) := ⟨mask / 2 ^ k % 2, bit_of mask k, by omega, Lib.hid rfl⟩
          have hp : (A + k) / 8 < s.size := by omega
          obtain ⟨x, hx⟩ : ∃ x : UInt8, (turnL s.data.toList A mask k).getD ((A + k) / 8) 0 = x := ⟨_, rfl⟩
          have hcf := hF.out.1 ((A + k) / 8) (by rw [turnL_length]; exact hp)
          rw [hx] at hcf
          obtain ⟨hc, hf⟩ := hcf
          have HX := Lib.hid hx
          clear hx
          go_wp2
          go_region
          go_wp2
          refine ⟨⟨k + 1, by omega, by go_num, Lib.hid ⟨?_, ?_⟩⟩, by simp [intOf]; omega⟩
          · have h := bytes_flip (B := B) hF.out.1 (A + k) (by rw [turnL_length]; show (A + k) / 8 < s.size; exact hp)
            rw [HX.out] at h
            rw [HBk.out] at h ⊢
            exact h
          · exact (hF.out.2.setCell (Nat.le_refl _) _).drew
        · obtain rfl : k = K := by omega
          have hb := bytes_back hF.out.1 cap
          obtain ⟨u, hu⟩ : ∃ u : ByteArray, (⟨(turnL s.data.toList A mask k).toArray⟩ : ByteArray) = u := ⟨_, rfl⟩
          rw [hu, turnL_length, show s.data.toList.length = s.size from rfl] at hb
          have HU := Lib.hid hu
          clear hu
          go_wp2
          go_ret
          exact ⟨⟨u, rfl, by rw [← HU.out]⟩, hF.out.2⟩

end Go.Proofs.YtghnkpfnpidncaaDoor.S
