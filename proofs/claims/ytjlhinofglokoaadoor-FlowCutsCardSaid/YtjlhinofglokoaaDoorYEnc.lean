/- What runes are as bytes; the contract of the document's own Encode, where glyph is wanting. -/
import Derived.Test.YtjlhinofglokoaaDoorRows
import Derived.Test.YtjlhinofglokoaaDoorYMath
import Derived.WalkKit
import Derived.WalkLawsBesides
import Derived.WalkSpells
import Derived.Outline
import Derived.Lib.Hide
import Derived.Below
import Derived.IntWalk
import Derived.OwnWalk
import Derived.Laws.Cover4
import Derived.Laws.BytesArg
namespace Go.Proofs.YtjlhinofglokoaaDoor.Y
open Go.RowKit

theorem utf8_encode (z : Int) : (Utf8.encode z).data.toList = encS z := by
  have hv : Utf8.valid z = decide (¬ (z < 0 ∨ 1114111 < z ∨ (55296 ≤ z ∧ z ≤ 57343))) := by
    unfold Utf8.valid
    rw [Bool.eq_iff_iff]
    simp
    omega
  unfold Utf8.encode encS fixI Utf8.runeError
  rw [hv]
  by_cases h : z < 0 ∨ 1114111 < z ∨ (55296 ≤ z ∧ z ≤ 57343)
  · rw [if_pos h]
    simp only [h, not_true, decide_false]
    rfl
  · rw [if_neg h]
    simp only [h, not_false_eq_true, decide_true, if_true]
    unfold encN
    by_cases h1 : z.toNat < 128
    · rw [if_pos h1, if_pos h1]; rfl
    · rw [if_neg h1, if_neg h1]
      by_cases h2 : z.toNat < 2048
      · rw [if_pos h2, if_pos h2]; rfl
      · rw [if_neg h2, if_neg h2]
        by_cases h3 : z.toNat < 65536
        · rw [if_pos h3, if_pos h3]; rfl
        · rw [if_neg h3, if_neg h3]; rfl
theorem runesBytes_enc (zs : List Int) : (runesBytes zs).data.toList = zs.flatMap encS := by
  unfold runesBytes
  have key : ∀ (l : List Int) (s : ByteArray), (l.foldl (fun r n => r ++ Utf8.encode n) s).data.toList = s.data.toList ++ l.flatMap encS := by
    intro l
    induction l with
    | nil => intro s; simp
    | cons z l ih =>
      intro s
      rw [List.foldl_cons, ih, List.flatMap_cons, ← utf8_encode]
      simp
  rw [key]
  rfl
theorem conv_bytes (w : World) (bs : List Nat) :
    (convert 98 9 (.slice (some ⟨w.heap.size, 0, none⟩) bs.length bs.length)).run Tryd.prog (w.alloc (.cells (bs.map fun b : Nat => Value.int .u8 (b : Int)).toArray 5)) = .ok (.string ⟨(bs.map UInt8.ofNat).toArray⟩) (w.alloc (.cells (bs.map fun b : Nat => Value.int .u8 (b : Int)).toArray 5)) := by
  have h := run_convert_bytes_arg (P := Tryd.prog) (w.alloc (.cells (bs.map fun b : Nat => Value.int .u8 (b : Int)).toArray 5)) 98 5 Tryd.underlying98 Tryd.underlying5 w.heap.size 0 bs.length bs.length (bs.map fun b : Nat => (b : Int)) (by simp)
    (fun i hi => by
      rw [Nat.zero_add, World.cell?_alloc_new]
      simp [hi]) 9 Tryd.underlying9
  have e : strOfNums (bs.map fun b : Nat => (b : Int)) = ⟨(bs.map UInt8.ofNat).toArray⟩ := by
    unfold strOfNums
    rw [List.map_map]
    rfl
  rw [e] at h
  exact h
def EncPost (r : Int) (w : World) (e : Ending) (w' : World) : Prop := (∃ s : ByteArray, e = .returned (.string s) ∧ s.data.toList = encS r) ∧ Below w.heap.size w w'

set_option maxRecDepth 100000 in
set_option maxHeartbeats 4000000 in
theorem refEnc_good (c : Nat) (hc : validN c) (w : World) : Calls Tryd.prog 33 #[.int .i64 (c : Int)] w (EncPost (c : Int) w) := by
  unfold validN at hc
  have hf : fixI (c : Int) = c := by unfold fixI; rw [if_neg (by omega)]; rfl
  have d0 : decide ((1114111 : Int) < (c : Int)) = false := by rw [decide_eq_false_iff_not]; omega
  have d1 : decide ((c : Int) < 0) = false := by rw [decide_eq_false_iff_not]; omega
  have hlt : (c : Int) < 1114112 := by omega
  by_cases h1 : (c : Int) < 128
  · have d2 : decide ((55296 : Int) ≤ (c : Int)) = false := by rw [decide_eq_false_iff_not]; omega
    clear hc
    have HE : Hid (encS (c : Int) = [UInt8.ofNat c]) := Lib.hid (by unfold encS encN; rw [hf, if_pos (by omega)]; rfl)
    have hcv := conv_bytes w [c]
    simp only [List.map_cons, List.map_nil, List.length_cons, List.length_nil, Nat.reduceAdd] at hcv
    clear hf
    go_enter Tryd.func33, Tryd.ntmps33
    go_wp2
    all_goals
      go_ret
      exact ⟨⟨_, rfl, HE.out.symm⟩, (Below.refl _ _).alloc (Nat.le_refl _) _⟩
  by_cases h2 : (c : Int) < 2048
  · have d2 : decide ((55296 : Int) ≤ (c : Int)) = false := by rw [decide_eq_false_iff_not]; omega
    clear hc
    obtain ⟨b1, e1⟩ : ∃ b : Nat, 192 + c / 64 = b := ⟨_, rfl⟩
    obtain ⟨b2, e2⟩ : ∃ b : Nat, 128 + c % 64 = b := ⟨_, rfl⟩
    have HE : Hid (encS (c : Int) = [UInt8.ofNat b1, UInt8.ofNat b2]) := Lib.hid (by unfold encS encN; rw [hf, if_neg (by omega), if_pos (by omega), e1, e2]; rfl)
    have g1 : 192 + (c : Int) / 64 = (b1 : Int) := by omega
    have u1 : (b1 : Int) < 256 := by omega
    have g2 : 128 + (c : Int) % 64 = (b2 : Int) := by omega
    have u2 : (b2 : Int) < 256 := by omega
    have hcv := conv_bytes w [b1, b2]
    clear e1 e2
    simp only [List.map_cons, List.map_nil, List.length_cons, List.length_nil, Nat.reduceAdd] at hcv
    clear hf
    go_enter Tryd.func33, Tryd.ntmps33
    go_wp2
    all_goals
      go_ret
      exact ⟨⟨_, rfl, HE.out.symm⟩, (Below.refl _ _).alloc (Nat.le_refl _) _⟩
  by_cases h3 : (c : Int) < 65536
  · by_cases h4 : (55296 : Int) ≤ (c : Int)
    · have d2 : decide ((c : Int) ≤ 57343) = false := by rw [decide_eq_false_iff_not]; omega
      clear hc
      obtain ⟨b1, e1⟩ : ∃ b : Nat, 224 + c / 4096 = b := ⟨_, rfl⟩
      obtain ⟨b2, e2⟩ : ∃ b : Nat, 128 + c / 64 % 64 = b := ⟨_, rfl⟩
      obtain ⟨b3, e3⟩ : ∃ b : Nat, 128 + c % 64 = b := ⟨_, rfl⟩
      have HE : Hid (encS (c : Int) = [UInt8.ofNat b1, UInt8.ofNat b2, UInt8.ofNat b3]) := Lib.hid (by unfold encS encN; rw [hf, if_neg (by omega), if_neg (by omega), if_pos (by omega), e1, e2, e3]; rfl)
      have g1 : 224 + (c : Int) / 4096 = (b1 : Int) := by omega
      have u1 : (b1 : Int) < 256 := by omega
      have g2 : 128 + (c : Int) / 64 % 64 = (b2 : Int) := by omega
      have u2 : (b2 : Int) < 256 := by omega
      have g3 : 128 + (c : Int) % 64 = (b3 : Int) := by omega
      have u3 : (b3 : Int) < 256 := by omega
      have hcv := conv_bytes w [b1, b2, b3]
      clear e1 e2 e3
      simp only [List.map_cons, List.map_nil, List.length_cons, List.length_nil, Nat.reduceAdd] at hcv
      clear hf
      go_enter Tryd.func33, Tryd.ntmps33
      go_wp2
      all_goals
        go_ret
        exact ⟨⟨_, rfl, HE.out.symm⟩, (Below.refl _ _).alloc (Nat.le_refl _) _⟩
    · clear hc
      obtain ⟨b1, e1⟩ : ∃ b : Nat, 224 + c / 4096 = b := ⟨_, rfl⟩
      obtain ⟨b2, e2⟩ : ∃ b : Nat, 128 + c / 64 % 64 = b := ⟨_, rfl⟩
      obtain ⟨b3, e3⟩ : ∃ b : Nat, 128 + c % 64 = b := ⟨_, rfl⟩
      have HE : Hid (encS (c : Int) = [UInt8.ofNat b1, UInt8.ofNat b2, UInt8.ofNat b3]) := Lib.hid (by unfold encS encN; rw [hf, if_neg (by omega), if_neg (by omega), if_pos (by omega), e1, e2, e3]; rfl)
      have g1 : 224 + (c : Int) / 4096 = (b1 : Int) := by omega
      have u1 : (b1 : Int) < 256 := by omega
      have g2 : 128 + (c : Int) / 64 % 64 = (b2 : Int) := by omega
      have u2 : (b2 : Int) < 256 := by omega
      have g3 : 128 + (c : Int) % 64 = (b3 : Int) := by omega
      have u3 : (b3 : Int) < 256 := by omega
      have hcv := conv_bytes w [b1, b2, b3]
      clear e1 e2 e3
      simp only [List.map_cons, List.map_nil, List.length_cons, List.length_nil, Nat.reduceAdd] at hcv
      clear hf
      go_enter Tryd.func33, Tryd.ntmps33
      go_wp2
      all_goals
        go_ret
        exact ⟨⟨_, rfl, HE.out.symm⟩, (Below.refl _ _).alloc (Nat.le_refl _) _⟩
  · have h4 : (55296 : Int) ≤ (c : Int) := by omega
    have d2 : decide ((c : Int) ≤ 57343) = false := by rw [decide_eq_false_iff_not]; omega
    clear hc
    obtain ⟨b1, e1⟩ : ∃ b : Nat, 240 + c / 262144 = b := ⟨_, rfl⟩
    obtain ⟨b2, e2⟩ : ∃ b : Nat, 128 + c / 4096 % 64 = b := ⟨_, rfl⟩
    obtain ⟨b3, e3⟩ : ∃ b : Nat, 128 + c / 64 % 64 = b := ⟨_, rfl⟩
    obtain ⟨b4, e4⟩ : ∃ b : Nat, 128 + c % 64 = b := ⟨_, rfl⟩
    have HE : Hid (encS (c : Int) = [UInt8.ofNat b1, UInt8.ofNat b2, UInt8.ofNat b3, UInt8.ofNat b4]) := Lib.hid (by unfold encS encN; rw [hf, if_neg (by omega), if_neg (by omega), if_neg (by omega), e1, e2, e3, e4]; rfl)
    have g1 : 240 + (c : Int) / 262144 = (b1 : Int) := by omega
    have u1 : (b1 : Int) < 256 := by omega
    have g2 : 128 + (c : Int) / 4096 % 64 = (b2 : Int) := by omega
    have u2 : (b2 : Int) < 256 := by omega
    have g3 : 128 + (c : Int) / 64 % 64 = (b3 : Int) := by omega
    have u3 : (b3 : Int) < 256 := by omega
    have g4 : 128 + (c : Int) % 64 = (b4 : Int) := by omega
    have u4 : (b4 : Int) < 256 := by omega
    have hcv := conv_bytes w [b1, b2, b3, b4]
    clear e1 e2 e3 e4
    simp only [List.map_cons, List.map_nil, List.length_cons, List.length_nil, Nat.reduceAdd] at hcv
    clear hf
    go_enter Tryd.func33, Tryd.ntmps33
    go_wp2
    all_goals
      go_ret
      exact ⟨⟨_, rfl, HE.out.symm⟩, (Below.refl _ _).alloc (Nat.le_refl _) _⟩
theorem conv_bad (w : World) : (convert 98 9 (.slice (some ⟨w.heap.size, 0, none⟩) 3 3)).run Tryd.prog (w.alloc (.cells #[.int .u8 239, .int .u8 191, .int .u8 189] 5)) = .ok (.string ⟨#[239, 191, 189]⟩) (w.alloc (.cells #[.int .u8 239, .int .u8 191, .int .u8 189] 5)) := conv_bytes w [239, 191, 189]
set_option maxRecDepth 100000 in
set_option maxHeartbeats 4000000 in
theorem refEnc_bad (r : Int) (hr : r < 0 ∨ (0 ≤ r ∧ 1114111 < r) ∨ (55296 ≤ r ∧ r ≤ 57343)) (w : World) : Calls Tryd.prog 33 #[.int .i64 r] w (EncPost r w) := by
  have HE : Hid (encS r = [239, 191, 189]) := Lib.hid (by unfold encS fixI; rw [if_pos (by omega)]; decide)
  have hcv := conv_bad w
  rcases hr with h | ⟨h, h2⟩ | ⟨h, h2⟩
  all_goals
    go_enter Tryd.func33, Tryd.ntmps33
    go_wp2
    go_ret
    exact ⟨⟨_, rfl, HE.out.symm⟩, (Below.refl _ _).alloc (Nat.le_refl _) _⟩
theorem refEnc_any (r : Int) (w : World) : Calls Tryd.prog 33 #[.int .i64 r] w (EncPost r w) := by
  by_cases hr : r < 0 ∨ (0 ≤ r ∧ 1114111 < r) ∨ (55296 ≤ r ∧ r ≤ 57343)
  · exact refEnc_bad r hr w
  · obtain ⟨c, rfl⟩ : ∃ c : Nat, r = (c : Int) := ⟨r.toNat, by omega⟩
    exact refEnc_good c (by unfold validN; omega) w
end Go.Proofs.YtjlhinofglokoaaDoor.Y
