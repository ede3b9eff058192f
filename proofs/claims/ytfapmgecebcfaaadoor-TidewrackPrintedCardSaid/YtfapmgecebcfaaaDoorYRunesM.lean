/- Plain facts on all bytes at once: what a first byte and the next ones do to a run. No Go here. -/
import Derived.Test.YtfapmgecebcfaaaDoorYMath
namespace Go.Proofs.YtfapmgecebcfaaaDoor.Y

theorem run_zero (c : UInt8) (l : List UInt8) : runS .zero (c :: l) = ((runS (beginS c.toNat).1 l).1, (beginS c.toNat).2 ++ (runS (beginS c.toNat).1 l).2) := rfl
theorem run_small {c : UInt8} (l : List UInt8) (h : c.toNat < 128) : runS .zero (c :: l) = ((runS .zero l).1, c.toNat :: (runS .zero l).2) := by
  rw [run_zero, begin_small h]; rfl
theorem run_none {c : UInt8} (l : List UInt8) (h : 128 ≤ c.toNat) (h0 : (needS c.toNat).1 = 0) : runS .zero (c :: l) = ((runS .zero l).1, bad :: (runS .zero l).2) := by
  rw [run_zero, begin_none h c.toNat_lt h0]; rfl
theorem run_first {c : UInt8} (l : List UInt8) (h : 128 ≤ c.toNat) (h0 : (needS c.toNat).1 ≠ 0) : runS .zero (c :: l) = runS ⟨c.toNat, c.toNat % modS (needS c.toNat).1, (needS c.toNat).1⟩ l := by
  rw [run_zero, begin_some h c.toNat_lt h0]; rfl
theorem run_next {b r m : Nat} {c : UInt8} (l : List UInt8) (hm : m ≠ 0) (hmay : mayS ⟨b, r, m⟩ c.toNat = true) :
    runS ⟨b, r, m⟩ (c :: l) = if m = 1 then ((runS .zero l).1, (r * 64 + c.toNat % 64) :: (runS .zero l).2) else runS ⟨b, r * 64 + c.toNat % 64, m - 1⟩ l := by
  show ((runS (stepS ⟨b, r, m⟩ c.toNat).1 l).1, (stepS ⟨b, r, m⟩ c.toNat).2 ++ (runS (stepS ⟨b, r, m⟩ c.toNat).1 l).2) = _
  rw [stepS_go hm hmay]
  unfold goS
  simp only
  split <;> rfl
/-- What stands where k bytes of a sequence have been looked at, the first of which is at j: r is their bits. -/
def Mid (L : List UInt8) (j b n k r : Nat) : Prop :=
  (k ≤ n → runS .zero (L.drop j) = runS ⟨b, r, n + 1 - k⟩ (L.drop (j + k))) ∧
  (k = n + 1 → runS .zero (L.drop j) = ((runS .zero (L.drop (j + k))).1, r :: (runS .zero (L.drop (j + k))).2)) ∧
  (k = 1 → r < 32) ∧ (k = 2 → r < 2048) ∧ (k = 3 → r < 131072) ∧ (k = 4 → r < 8388608)
theorem Mid.bound {L : List UInt8} {j b n k r : Nat} (h : Mid L j b n k r) (h1 : 1 ≤ k) (h4 : k ≤ 4) : r < 8388608 := by
  obtain ⟨_, _, a, b, c, d⟩ := h
  omega
theorem mid_first {L : List UInt8} {j : Nat} {c : UInt8} (hL : L.drop j = c :: L.drop (j + 1)) (h : 128 ≤ c.toNat) (h0 : (needS c.toNat).1 ≠ 0) : Mid L j c.toNat (needS c.toNat).1 1 (c.toNat % modS (needS c.toNat).1) := by
  refine ⟨fun _ => ?_, fun e => absurd (by omega) h0, fun _ => ?_, fun e => by omega, fun e => by omega, fun e => by omega⟩
  · rw [hL, run_first _ h h0]; rfl
  · have hm : modS (needS c.toNat).1 ≤ 32 ∧ 0 < modS (needS c.toNat).1 := by
      obtain ⟨x, _, _, _, _, _, h1, h3, _⟩ := lead_some h c.toNat_lt h0
      unfold modS
      obtain h | h | h : (needS c.toNat).1 = 1 ∨ (needS c.toNat).1 = 2 ∨ (needS c.toNat).1 = 3 := by omega
      all_goals rw [h]; decide
    exact Nat.lt_of_lt_of_le (Nat.mod_lt _ hm.2) hm.1
theorem mid_next {L : List UInt8} {j b n k r : Nat} {c : UInt8} (hm : Mid L j b n k r) (hb : 128 ≤ b) (hb2 : b < 256) (hn : n = (needS b).1) (h1 : 1 ≤ k) (hk : k ≤ n) (hL : L.drop (j + k) = c :: L.drop (j + (k + 1))) (hlo : loS b (n + 1 - k) ≤ c.toNat) (hhi : c.toNat ≤ hiS b (n + 1 - k)) :
    Mid L j b n (k + 1) (r * 64 + c.toNat % 64) := by
  have h0 : (needS b).1 ≠ 0 := by omega
  have hmay : mayS ⟨b, r, n + 1 - k⟩ c.toNat = true := by rw [may_open hb hb2 h0, decide_eq_true_eq]; exact ⟨hlo, hhi⟩
  have hr := run_next (L.drop (j + (k + 1))) (by omega) hmay
  rw [← hL, ← hm.1 hk] at hr
  have hmod : c.toNat % 64 < 64 := Nat.mod_lt _ (by decide)
  obtain ⟨_, _, a1, a2, a3, a4⟩ := hm
  refine ⟨fun h => ?_, fun h => ?_, fun e => by omega, fun e => by have := a1 (by omega); omega, fun e => by have := a2 (by omega); omega, fun e => by have := a3 (by omega); omega⟩
  · rw [hr, if_neg (by omega), show n + 1 - k - 1 = n + 1 - (k + 1) by omega]
  · rw [hr, if_pos (by omega)]
theorem mid_not {L : List UInt8} {j b n k r : Nat} {c : UInt8} (hm : Mid L j b n k r) (hb : 128 ≤ b) (hb2 : b < 256) (hn : n = (needS b).1) (h1 : 1 ≤ k) (hk : k ≤ n) (hL : L.drop (j + k) = c :: L.drop (j + (k + 1))) (hno : ¬ (loS b (n + 1 - k) ≤ c.toNat ∧ c.toNat ≤ hiS b (n + 1 - k))) :
    runS .zero (L.drop j) = ((runS .zero (L.drop (j + k))).1, bad :: (runS .zero (L.drop (j + k))).2) := by
  have h0 : (needS b).1 ≠ 0 := by omega
  rw [hm.1 hk, hL]
  exact run_not (by show n + 1 - k ≠ 0; omega) (by rw [may_open hb hb2 h0, decide_eq_false_iff_not]; exact hno)
theorem mid_end {L : List UInt8} {j b n k r : Nat} (hm : Mid L j b n k r) (hk : k ≤ n) (hL : L.drop (j + k) = []) : runS .zero (L.drop j) = (⟨b, r, n + 1 - k⟩, []) := by
  rw [hm.1 hk, hL]; rfl
theorem lo_first {b n : Nat} (hn : n = (needS b).1) : loS b n = (needS b).2.1 ∧ hiS b n = (needS b).2.2 := by
  unfold loS hiS; rw [if_pos hn, if_pos hn]; exact ⟨rfl, rfl⟩
theorem lo_next {b n k : Nat} (hn : n = (needS b).1) (h1 : 1 ≤ k) (hk : k ≤ n) : loS b (n + 1 - (k + 1)) = 128 ∧ hiS b (n + 1 - (k + 1)) = 191 := by
  unfold loS hiS; rw [if_neg (by omega), if_neg (by omega)]; exact ⟨rfl, rfl⟩
/-- What stands where the bytes up to j have been looked at, which told these. -/
def Upto (L : List UInt8) (j : Nat) (told : List Nat) : Prop := runS .zero L = ((runS .zero (L.drop j)).1, told ++ (runS .zero (L.drop j)).2) ∧ told.length ≤ j
theorem upto_start (L : List UInt8) : Upto L 0 [] := ⟨rfl, Nat.le_refl _⟩
theorem Upto.more {L : List UInt8} {j k x : Nat} {told : List Nat} (h : Upto L j told) (hk : 1 ≤ k) (hr : runS .zero (L.drop j) = ((runS .zero (L.drop (j + k))).1, x :: (runS .zero (L.drop (j + k))).2)) : Upto L (j + k) (told ++ [x]) := by
  refine ⟨?_, by have := h.2; rw [List.length_append, List.length_singleton]; omega⟩
  rw [h.1, hr, List.append_assoc]
  rfl
end Go.Proofs.YtfapmgecebcfaaaDoor.Y
