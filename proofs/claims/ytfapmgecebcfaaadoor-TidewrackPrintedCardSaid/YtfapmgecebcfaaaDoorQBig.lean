/- Of what is said: kinds, runes, bytes, numbers and texts are within bounds. -/
import Derived.Test.YtfapmgecebcfaaaDoorQMath
namespace Go.Proofs.YtfapmgecebcfaaaDoor.Q
open Go.Proofs.YtfapmgecebcfaaaDoor.Y

def Big (d : St) : Prop := d.need = 0 ∨ d.need = (needS d.lead).1 ∨ 2 ≤ d.rune
theorem go_big {d : St} {c : Nat} (hd : Open d) (hB : Big d) (hm : mayS d c = true) : Big (goS d c).1 ∧ ∀ x ∈ (goS d c).2, 128 ≤ x := by
  obtain ⟨b, r, n⟩ := d
  obtain ⟨hb, hb2, h1, h2, h3, hcase⟩ := hd
  simp only at hb hb2 h1 h2 h3 hcase
  have h0 : (needS b).1 ≠ 0 := by omega
  rw [may_open hb hb2 h0, decide_eq_true_eq] at hm
  have key : 2 ≤ r * 64 + c % 64 ∧ (n = 1 → 2 ≤ r) := by
    by_cases hn : n = (needS b).1
    · have hr : r = b % modS (needS b).1 := by
        rcases hcase with ⟨_, h⟩ | ⟨h, _⟩
        · exact h
        · omega
      obtain ⟨hm1, hm2⟩ := hm
      unfold loS at hm1
      unfold hiS at hm2
      rw [if_pos hn] at hm1 hm2
      rcases need_cases h0 with ⟨q1, q2, e⟩ | ⟨q1, e⟩ | ⟨q1, e⟩ | ⟨q1, q2, q3, e⟩ | ⟨q1, e⟩ | ⟨q1, e⟩ | ⟨q1, q2, e⟩
      · rw [e] at hr hn
        have : r = b % 32 := hr
        exact ⟨by omega, fun _ => by omega⟩
      · rw [e] at hr hn hm1 hm2
        simp only at hn hm1 hm2
        exact ⟨by omega, fun h => by omega⟩
      · rw [e] at hr hn
        have : r = b % 16 := hr
        simp only at hn
        exact ⟨by omega, fun h => by omega⟩
      · rw [e] at hr hn
        have : r = b % 16 := hr
        simp only at hn
        exact ⟨by omega, fun h => by omega⟩
      · rw [e] at hr hn hm1 hm2
        simp only at hn hm1 hm2
        exact ⟨by omega, fun h => by omega⟩
      · rw [e] at hr hn
        have : r = b % 8 := hr
        simp only at hn
        exact ⟨by omega, fun h => by omega⟩
      · rw [e] at hr hn
        have : r = b % 8 := hr
        simp only at hn
        exact ⟨by omega, fun h => by omega⟩
    · have : 2 ≤ r := by
        rcases hB with h | h | h
        · simp only at h; omega
        · exact absurd h hn
        · exact h
      exact ⟨by omega, fun _ => this⟩
  unfold goS
  simp only
  by_cases hn1 : n = 1
  · rw [if_pos hn1]
    refine ⟨.inl rfl, fun x hx => ?_⟩
    obtain rfl : x = r * 64 + c % 64 := by simpa using hx
    have := key.2 hn1
    omega
  · rw [if_neg hn1]
    exact ⟨.inr (.inr key.1), fun x hx => by cases hx⟩
theorem begin_big {b : Nat} (h : b < 256) (h32 : 32 ≤ b) (h127 : b ≠ 127) : Big (beginS b).1 ∧ ∀ x ∈ (beginS b).2, 32 ≤ x ∧ x ≠ 127 := by
  by_cases h1 : b < 128
  · rw [begin_small h1]
    exact ⟨.inl rfl, fun x hx => by
      obtain rfl : x = b := (by simpa using hx)
      exact ⟨h32, h127⟩⟩
  · by_cases h0 : (needS b).1 = 0
    · rw [begin_none (by omega) h h0]
      exact ⟨.inl rfl, fun x hx => by
        obtain rfl : x = bad := (by simpa using hx)
        decide⟩
    · rw [begin_some (by omega) h h0]
      exact ⟨.inr (.inl rfl), fun x hx => by cases hx⟩
theorem step_big {d : St} {b : Nat} (hd : Sound d) (hB : Big d) (hb : b < 256) (h32 : 32 ≤ b) (h127 : b ≠ 127) : Big (stepS d b).1 ∧ ∀ x ∈ (stepS d b).2, 32 ≤ x ∧ x ≠ 127 := by
  unfold stepS
  by_cases h0 : d.need = 0
  · rw [if_pos h0]; exact begin_big hb h32 h127
  · rw [if_neg h0]
    have ho : Open d := by
      rcases hd with h | h
      · rw [h] at h0; exact absurd rfl h0
      · exact h
    by_cases hm : mayS d b = true
    · rw [if_pos hm]
      have := go_big ho hB hm
      exact ⟨this.1, fun x hx => by have := this.2 x hx; omega⟩
    · rw [if_neg hm]
      have := begin_big hb h32 h127
      refine ⟨this.1, fun x hx => ?_⟩
      rcases List.mem_cons.1 hx with rfl | hx
      · decide
      · exact this.2 x hx
/-- what may be said -/
structure Good (a : Say) : Prop where
  kind : 1 ≤ a.kind ∧ a.kind ≤ 5
  nums : a.nums.length ≤ 16
  num : ∀ z ∈ a.nums, 0 ≤ z ∧ z ≤ 9999
  text : a.text.length ≤ 198
  rune : a.kind = 1 → 32 ≤ a.rune ∧ a.rune ≠ 127
  byte : a.kind = 2 → a.byte < 32
theorem good_prt {r : Nat} (h : 32 ≤ r) (h2 : r ≠ 127) : Good (prt r) := ⟨⟨by simp [prt], by simp [prt]⟩, by simp [prt], (fun _ h => by cases h), by simp [prt], fun _ => ⟨h, h2⟩, (fun h => by cases h)⟩
theorem good_end (d : St) : ∀ a ∈ prints (endS d), Good a := by
  unfold prints endS
  split
  · intro a ha; cases ha
  · intro a ha
    obtain rfl : a = prt bad := by simpa using ha
    exact good_prt (by decide) (by decide)
theorem good_over {t : List UInt8} (h : t.length ≤ 200) : ∀ a ∈ overS t, Good a := by
  unfold overS
  split
  · rename_i x y u
    split
    · intro a ha
      obtain rfl : a = ttl u := by simpa using ha
      simp only [List.length_cons] at h
      exact ⟨⟨by simp [ttl], by simp [ttl]⟩, by simp [ttl], (fun _ h => by cases h), by simp only [ttl]; omega, (fun h => by cases h), (fun h => by cases h)⟩
    · intro a ha; cases ha
  · intro a ha; cases ha
theorem good_any (p : PS) {b : Nat} (hc : ctlB b) : ∀ a ∈ (anyS p b).2, Good a := by
  unfold anyS
  split
  · exact good_end _
  · split
    · exact good_end _
    · split
      · exact good_end _
      · rename_i h127
        intro a ha
        rcases List.mem_append.1 ha with ha | ha
        · exact good_end _ a ha
        · obtain rfl : a = ctl b := by simpa using ha
          exact ⟨⟨by simp [ctl], by simp [ctl]⟩, by simp [ctl], (fun _ h => by cases h), by simp [ctl], (fun h => by cases h), fun _ => by
            rcases hc with h | h
            · exact h
            · exact absurd h h127⟩
theorem good_esc (b : Nat) : ∀ a ∈ (escS b).2, Good a := by
  unfold escS
  split
  · intro a ha; cases ha
  · split
    · intro a ha; cases ha
    · split
      · intro a ha; cases ha
      · split
        · intro a ha
          obtain rfl : a = esc b := by simpa using ha
          exact ⟨⟨by simp [esc], by simp [esc]⟩, by simp [esc], (fun _ h => by cases h), by simp [esc], (fun h => by cases h), (fun h => by cases h)⟩
        · intro a ha; cases ha
theorem good_cmd {p : PS} (h : Ok p) (b : Nat) : ∀ a ∈ (cmdS p b).2, Good a := by
  unfold cmdS
  split
  · intro a ha; cases ha
  · split
    · intro a ha; cases ha
    · split
      · intro a ha; cases ha
      · split
        · intro a ha; cases ha
        · unfold finS
          simp only
          split
          · intro a ha; cases ha
          · intro a ha
            have h' : Ok { p with begun := true } := ⟨h.st, h.dec, h.nums, h.num, h.number, h.text, h.other⟩
            have hq : Ok (if p.numbered = true then keepS { p with begun := true } else { p with begun := true }) := by
              split
              · exact keep_ok h'
              · exact h'
            obtain rfl := List.mem_singleton.1 ha
            exact ⟨⟨by simp [cmd], by simp [cmd]⟩, hq.nums, hq.num, by simp [cmd], (fun h => by cases h), (fun h => by cases h)⟩
theorem good_title {p : PS} (h : Ok p) (b : UInt8) : ∀ a ∈ (titleS p b).2, Good a := by
  unfold titleS
  split
  · exact good_over h.text
  · split
    · intro a ha; cases ha
    · split <;> (intro a ha; cases ha)
theorem good_core {p : PS} (h : Ok p) (hB : Big p.dec) (b : UInt8) : (∀ a ∈ (coreS p b).2, Good a) ∧ Big (coreS p b).1.dec := by
  unfold coreS
  split
  · refine ⟨good_title h b, ?_⟩
    unfold titleS
    split
    · exact .inl rfl
    · split
      · exact .inl rfl
      · split
        · exact hB
        · simp only; split
          · exact hB
          · exact hB
  · split
    · rename_i hc
      refine ⟨good_any p hc, ?_⟩
      unfold anyS
      split
      · exact .inl rfl
      · split
        · exact .inl rfl
        · split <;> exact .inl rfl
    · rename_i hc
      split
      · refine ⟨good_esc _, ?_⟩
        unfold escS
        split
        · exact .inl rfl
        · split
          · exact .inl rfl
          · split
            · exact .inl rfl
            · split <;> exact .inl rfl
      · split
        · refine ⟨(fun a ha => by cases ha), ?_⟩
          unfold skipS; simp only; split
          · exact .inl rfl
          · exact hB
        · split
          · refine ⟨good_cmd h _, ?_⟩
            unfold cmdS
            split
            · exact hB
            · split
              · exact hB
              · split
                · exact hB
                · split
                  · exact hB
                  · exact .inl rfl
          · have hn1 : 32 ≤ b.toNat := Nat.le_of_not_lt (fun h => hc (.inl h))
            have hn2 : b.toNat ≠ 127 := fun h => hc (.inr h)
            have hs := step_big h.dec hB b.toNat_lt hn1 hn2
            refine ⟨fun a ha => ?_, hs.1⟩
            unfold groundS prints at ha
            obtain ⟨r, hr, rfl⟩ := List.mem_map.1 ha
            exact good_prt (hs.2 r hr).1 (hs.2 r hr).2
theorem good_take {p : PS} (h : Ok p) (hB : Big p.dec) (b : UInt8) : (∀ a ∈ (takeS p b).2, Good a) ∧ Big (takeS p b).1.dec := by
  unfold takeS
  split
  · split
    · exact ⟨good_over h.text, .inl rfl⟩
    · exact good_core (fresh_ok 1 (by decide)) (.inl rfl) b
  · exact good_core h hB b
theorem good_feed : ∀ (l : List UInt8) (p : PS), Ok p → Big p.dec → ∀ a ∈ (feedS p l).2, Good a
  | [], _, _, _, a, ha => by cases ha
  | b :: l, p, h, hB, a, ha => by
    rcases List.mem_append.1 ha with ha | ha
    · exact (good_take h hB b).1 a ha
    · exact good_feed l _ (take_ok h b) (good_take h hB b).2 a ha
end Go.Proofs.YtfapmgecebcfaaaDoor.Q
