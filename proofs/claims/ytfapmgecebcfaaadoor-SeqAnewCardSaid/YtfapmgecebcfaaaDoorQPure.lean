/- In ground, bytes that are no controls print their runes. -/
import Derived.Test.YtfapmgecebcfaaaDoorQBig
namespace Go.Proofs.YtfapmgecebcfaaaDoor.Q
open Go.Proofs.YtfapmgecebcfaaaDoor.Y

theorem take_ground (p : PS) (h : p.state = 0) (b : UInt8) (hc : ¬ ctlB b.toNat) : takeS p b = groundS p b.toNat := by
  unfold takeS coreS
  rw [if_neg (by omega), if_neg (by omega), if_neg hc, if_neg (by omega), if_neg (by omega), if_neg (by omega)]
theorem prints_append (a b : List Nat) : prints (a ++ b) = prints a ++ prints b := List.map_append ..
theorem feed_ground : ∀ (l : List UInt8) (p : PS), p.state = 0 → (∀ b ∈ l, ¬ ctlB b.toNat) → feedS p l = ({ p with dec := (runS p.dec l).1 }, prints (runS p.dec l).2)
  | [], p, _, _ => rfl
  | b :: l, p, h, hc => by
    have e := take_ground p h b (hc b (by simp))
    simp only [feedS, e, runS]
    rw [show groundS p b.toNat = ({ p with dec := (stepS p.dec b.toNat).1 }, prints (stepS p.dec b.toNat).2) from rfl]
    have ih := feed_ground l { p with dec := (stepS p.dec b.toNat).1 } h (fun x hx => hc x (by simp [hx]))
    simp only [ih, prints_append]
theorem ctl_high {n : Nat} (h : 128 ≤ n) : ¬ ctlB n := by unfold ctlB; omega
theorem enc_ctl {c : Nat} (hv : validN c) (h32 : 32 ≤ c) (h127 : c ≠ 127) : ∀ b ∈ encN c, ¬ ctlB b := by
  intro b hb
  unfold encN at hb
  split at hb
  · obtain rfl : b = c := by simpa using hb
    unfold ctlB; omega
  · split at hb
    · simp only [List.mem_cons, List.not_mem_nil, or_false] at hb
      rcases hb with rfl | rfl <;> exact ctl_high (by omega)
    · split at hb
      · simp only [List.mem_cons, List.not_mem_nil, or_false] at hb
        rcases hb with rfl | rfl | rfl <;> exact ctl_high (by omega)
      · simp only [List.mem_cons, List.not_mem_nil, or_false] at hb
        rcases hb with rfl | rfl | rfl | rfl <;> exact ctl_high (by omega)
theorem fix_plain {z : Int} (h32 : 32 ≤ z) (h127 : z ≠ 127) : 32 ≤ fixI z ∧ fixI z ≠ 127 := by
  unfold fixI
  split
  · exact ⟨by decide, by decide⟩
  · omega
theorem encS_ctl {z : Int} (h32 : 32 ≤ z) (h127 : z ≠ 127) : ∀ b ∈ encS z, ¬ ctlB b.toNat := by
  intro b hb
  unfold encS at hb
  obtain ⟨n, hn, rfl⟩ := List.mem_map.1 hb
  have hlt := encN_lt (fixI_valid z) n hn
  have := enc_ctl (fixI_valid z) (fix_plain h32 h127).1 (fix_plain h32 h127).2 n hn
  rwa [show (UInt8.ofNat n).toNat = n by simp; omega]
theorem feed_encs (l : List Int) (h : ∀ z ∈ l, 32 ≤ z ∧ z ≠ 127) : (feedS (fresh 0) (l.flatMap encS)).2 = prints (l.map fixI) := by
  rw [feed_ground _ (fresh 0) rfl (by
    intro b hb
    obtain ⟨z, hz, hb⟩ := List.mem_flatMap.1 hb
    exact encS_ctl (h z hz).1 (h z hz).2 b hb)]
  show prints (runS .zero (l.flatMap encS)).2 = _
  rw [encs_run]
end Go.Proofs.YtfapmgecebcfaaaDoor.Q
