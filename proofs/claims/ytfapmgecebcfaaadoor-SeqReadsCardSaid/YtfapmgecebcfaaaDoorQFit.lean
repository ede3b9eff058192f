/- Runes, bytes and numbers of what is said fit. -/
import Derived.Test.YtfapmgecebcfaaaDoorQIs
import Derived.Test.YtfapmgecebcfaaaDoorQBig
namespace Go.Proofs.YtfapmgecebcfaaaDoor.Q
open Go.Proofs.YtfapmgecebcfaaaDoor.Y (St stepS endS runS bad Sound validN)

def FitS (s : Say) : Prop := s.rune < 2147483648 ∧ s.byte < 256 ∧ s.nums.length ≤ 1000000 ∧ s.kind < 256
theorem fit_prt {r : Nat} (h : r < 2147483648) : FitS (prt r) := ⟨h, by simp [prt], by simp [prt], by simp [prt]⟩
theorem fit_end (d : St) : ∀ a ∈ prints (endS d), FitS a := by
  unfold prints endS
  split
  · intro a ha; cases ha
  · intro a ha
    obtain rfl : a = prt bad := by simpa using ha
    exact fit_prt (by decide)
theorem fit_over (t : List UInt8) : ∀ a ∈ overS t, FitS a := by
  unfold overS
  split
  · split
    · intro a ha
      obtain rfl := List.mem_singleton.1 ha
      exact ⟨by simp [ttl], by simp [ttl], by simp [ttl], by simp [ttl]⟩
    · intro a ha; cases ha
  · intro a ha; cases ha
theorem fit_any (p : PS) {b : Nat} (hb : b < 256) : ∀ a ∈ (anyS p b).2, FitS a := by
  unfold anyS
  split
  · exact fit_end _
  · split
    · exact fit_end _
    · split
      · exact fit_end _
      · intro a ha
        rcases List.mem_append.1 ha with ha | ha
        · exact fit_end _ a ha
        · obtain rfl := List.mem_singleton.1 ha
          exact ⟨by simp [ctl], by simpa [ctl] using hb, by simp [ctl], by simp [ctl]⟩
theorem fit_esc {b : Nat} (hb : b < 256) : ∀ a ∈ (escS b).2, FitS a := by
  unfold escS
  split
  · intro a ha; cases ha
  · split
    · intro a ha; cases ha
    · split
      · intro a ha; cases ha
      · split
        · intro a ha
          obtain rfl := List.mem_singleton.1 ha
          exact ⟨by simp [esc], by simpa [esc] using hb, by simp [esc], by simp [esc]⟩
        · intro a ha; cases ha
theorem fit_cmd {p : PS} (h : Ok p) {b : Nat} (hb : b < 256) : ∀ a ∈ (cmdS p b).2, FitS a := by
  have hg := good_cmd h b
  have : ∀ a ∈ (cmdS p b).2, a.rune = 0 ∧ a.byte = b ∧ a.kind = 4 := by
    unfold cmdS
    split
    · intro a ha; cases ha
    · split
      · intro a ha; cases ha
      · split
        · intro a ha; cases ha
        · split
          · intro a ha; cases ha
          · unfold finS
            simp only
            split
            · intro a ha; cases ha
            · intro a ha
              obtain rfl := List.mem_singleton.1 ha
              exact ⟨rfl, rfl, rfl⟩
  intro a ha
  obtain ⟨h1, h2, h3⟩ := this a ha
  have h4 := (hg a ha).nums
  exact ⟨by omega, by omega, by omega, by omega⟩
theorem fit_title (p : PS) (b : UInt8) : ∀ a ∈ (titleS p b).2, FitS a := by
  unfold titleS
  split
  · exact fit_over _
  · split
    · intro a ha; cases ha
    · split <;> (intro a ha; cases ha)
theorem fit_core {p : PS} (h : Ok p) (b : UInt8) : ∀ a ∈ (coreS p b).2, FitS a := by
  have hb : b.toNat < 256 := b.toNat_lt
  unfold coreS
  split
  · exact fit_title p b
  · split
    · exact fit_any p hb
    · split
      · exact fit_esc hb
      · split
        · intro a ha; cases ha
        · split
          · exact fit_cmd h hb
          · intro a ha
            have hs := Y.step_sound h.dec hb
            unfold groundS prints at ha
            obtain ⟨r, hr, rfl⟩ := List.mem_map.1 ha
            have := hs.2 r hr
            unfold validN at this
            exact fit_prt (by omega)
theorem fit_take {p : PS} (h : Ok p) (b : UInt8) : ∀ a ∈ (takeS p b).2, FitS a := by
  unfold takeS
  split
  · split
    · exact fit_over _
    · exact fit_core (fresh_ok 1 (by decide)) b
  · exact fit_core h b
theorem fit_feed : ∀ (l : List UInt8) (p : PS), Ok p → Fit (feedS p l).2
  | [], _, _, a, ha => by cases ha
  | b :: l, p, h, a, ha => by
    rcases List.mem_append.1 ha with ha | ha
    · exact fit_take h b a ha
    · exact fit_feed l _ (take_ok h b) a ha
end Go.Proofs.YtfapmgecebcfaaaDoor.Q
