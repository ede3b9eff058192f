/- Plain facts on runes out of bytes: one byte's step, runs of bytes, what is encoded is decoded, what is told is valid. No Go here. -/
namespace Go.Proofs.YtmdnnpcofbhceaaDoor.Y

/-- first bytes: from, to, mask, need, low, high -/
abbrev Row := Nat × Nat × Nat × Nat × Nat × Nat
def tab : List Row := [(0, 127, 127, 0, 0, 0), (194, 223, 31, 1, 128, 191), (224, 224, 15, 2, 160, 191), (225, 236, 15, 2, 128, 191), (237, 237, 15, 2, 128, 159), (238, 239, 15, 2, 128, 191), (240, 240, 7, 3, 144, 191), (241, 243, 7, 3, 128, 191), (244, 244, 7, 3, 128, 143)]
def look : List Row → Nat → Option Row
  | [], _ => none
  | x :: t, b => if x.1 ≤ b ∧ b ≤ x.2.1 then some x else look t b
def leadS (b : Nat) : Option Row := look tab b
def zeroRow : Row := (0, 0, 0, 0, 0, 0)
/-- what the rest of the table says -/
def rest (k : Nat) (b : Nat) : Option Row := look (tab.drop k) b
theorem rest_end (b : Nat) : rest 9 b = none := rfl
theorem rest_step (k : Nat) (hk : k < 9) (b : Nat) : rest k b = if (tab.getD k zeroRow).1 ≤ b ∧ b ≤ (tab.getD k zeroRow).2.1 then some (tab.getD k zeroRow) else rest (k + 1) b := by
  have hk' : k < tab.length := hk
  have h : tab.drop k = tab.getD k zeroRow :: tab.drop (k + 1) := by
    rw [List.drop_eq_getElem_cons hk']
    simp [List.getD_eq_getElem?_getD, hk']
  unfold rest
  rw [h]
  rfl
theorem look_mem {b : Nat} {x : Row} : ∀ {t : List Row}, look t b = some x → x ∈ t
  | [], h => by cases h
  | y :: t, h => by
    simp only [look] at h
    split at h
    · injection h with h; rw [h]; simp
    · exact List.mem_cons_of_mem _ (look_mem h)
theorem lead_masks {b : Nat} {x : Row} (h : leadS b = some x) : (x.2.2.1 = 127 ∨ x.2.2.1 = 31 ∨ x.2.2.1 = 15 ∨ x.2.2.1 = 7) ∧ x.2.2.2.1 ≤ 3 ∧ x.2.2.2.2.1 < 256 ∧ x.2.2.2.2.2 < 256 := by
  have hall : ∀ x ∈ tab, (x.2.2.1 = 127 ∨ x.2.2.1 = 31 ∨ x.2.2.1 = 15 ∨ x.2.2.1 = 7) ∧ x.2.2.2.1 ≤ 3 ∧ x.2.2.2.2.1 < 256 ∧ x.2.2.2.2.2 < 256 := by decide
  exact hall x (look_mem h)
def bad : Nat := 65533

/-- a sequence that isn't whole: its first byte, its bits so far, how many bytes it needs -/
structure St where
  lead : Nat
  rune : Nat
  need : Nat
deriving DecidableEq
def St.zero : St := ⟨0, 0, 0⟩
def mayS (d : St) (b : Nat) : Bool := match leadS d.lead with
  | some x => if d.need = x.2.2.2.1 then decide (x.2.2.2.2.1 ≤ b ∧ b ≤ x.2.2.2.2.2) else decide (128 ≤ b ∧ b ≤ 191)
  | none => decide (128 ≤ b ∧ b ≤ 191)
def beginS (b : Nat) : St × List Nat := match leadS b with
  | none => (.zero, [bad])
  | some x => if x.2.2.2.1 = 0 then (.zero, [b % (x.2.2.1 + 1)]) else (⟨b, b % (x.2.2.1 + 1), x.2.2.2.1⟩, [])
def goS (d : St) (b : Nat) : St × List Nat := if d.need = 1 then (.zero, [d.rune * 64 + b % 64]) else (⟨d.lead, d.rune * 64 + b % 64, d.need - 1⟩, [])
def stepS (d : St) (b : Nat) : St × List Nat :=
  if d.need = 0 then beginS b
  else if mayS d b then goS d b
  else ((beginS b).1, bad :: (beginS b).2)
def runS : St → List UInt8 → St × List Nat
  | d, [] => (d, [])
  | d, b :: l => ((runS (stepS d b.toNat).1 l).1, (stepS d b.toNat).2 ++ (runS (stepS d b.toNat).1 l).2)
def endS (d : St) : List Nat := if d.need = 0 then [] else [bad]
def decS (l : List UInt8) : List Nat := (runS .zero l).2 ++ endS (runS .zero l).1

theorem runS_append : ∀ (a b : List UInt8) (d : St), runS d (a ++ b) = ((runS (runS d a).1 b).1, (runS d a).2 ++ (runS (runS d a).1 b).2)
  | [], b, d => by simp [runS]
  | c :: a, b, d => by simp [runS, runS_append a b, List.append_assoc]
theorem runS_snoc (a : List UInt8) (c : UInt8) (d : St) : runS d (a ++ [c]) = ((stepS (runS d a).1 c.toNat).1, (runS d a).2 ++ (stepS (runS d a).1 c.toNat).2) := by
  rw [runS_append]; simp [runS]

/-! ### first bytes, as the document says -/
def needS (b : Nat) : Nat × Nat × Nat :=
  if 194 ≤ b ∧ b ≤ 223 then (1, 128, 191)
  else if b = 224 then (2, 160, 191)
  else if b = 237 then (2, 128, 159)
  else if 225 ≤ b ∧ b ≤ 239 then (2, 128, 191)
  else if b = 240 then (3, 144, 191)
  else if b = 244 then (3, 128, 143)
  else if 241 ≤ b ∧ b ≤ 243 then (3, 128, 191)
  else (0, 0, 0)
/-- the modulus of a first byte's bits -/
def modS (n : Nat) : Nat := [0, 32, 16, 8].getD n 0
def rowOk (b : Nat) : Bool := match leadS b with
  | none => decide (128 ≤ b ∧ (needS b).1 = 0)
  | some x => if b < 128 then decide (x.2.2.2.1 = 0 ∧ x.2.2.1 = 127) else decide (x.2.2.2.1 = (needS b).1 ∧ x.2.2.2.2.1 = (needS b).2.1 ∧ x.2.2.2.2.2 = (needS b).2.2 ∧ x.2.2.1 + 1 = modS (needS b).1 ∧ 1 ≤ (needS b).1 ∧ (needS b).1 ≤ 3 ∧ 128 ≤ (needS b).2.1 ∧ (needS b).2.2 ≤ 191)
theorem rows_ok : ∀ b, b < 256 → rowOk b = true := by decide +kernel
theorem lead_small {b : Nat} (h : b < 128) : ∃ x, leadS b = some x ∧ x.2.2.2.1 = 0 ∧ x.2.2.1 = 127 := by
  have := rows_ok b (by omega)
  unfold rowOk at this
  cases hl : leadS b with
  | none => rw [hl] at this; simp at this; omega
  | some x => rw [hl] at this; simp only [h, if_true, decide_eq_true_eq] at this; exact ⟨x, rfl, this⟩
theorem lead_none {b : Nat} (h : 128 ≤ b) (h2 : b < 256) (h0 : (needS b).1 = 0) : leadS b = none := by
  have := rows_ok b h2
  unfold rowOk at this
  cases hl : leadS b with
  | none => rfl
  | some x => rw [hl] at this; simp only [show ¬ b < 128 by omega, if_false, decide_eq_true_eq] at this; omega
theorem lead_some {b : Nat} (h : 128 ≤ b) (h2 : b < 256) (h0 : (needS b).1 ≠ 0) : ∃ x, leadS b = some x ∧ x.2.2.2.1 = (needS b).1 ∧ x.2.2.2.2.1 = (needS b).2.1 ∧ x.2.2.2.2.2 = (needS b).2.2 ∧ x.2.2.1 + 1 = modS (needS b).1 ∧ 1 ≤ (needS b).1 ∧ (needS b).1 ≤ 3 ∧ 128 ≤ (needS b).2.1 ∧ (needS b).2.2 ≤ 191 := by
  have := rows_ok b h2
  unfold rowOk at this
  cases hl : leadS b with
  | none => rw [hl] at this; simp only [decide_eq_true_eq] at this; omega
  | some x => rw [hl] at this; simp only [show ¬ b < 128 by omega, if_false, decide_eq_true_eq] at this; exact ⟨x, rfl, this⟩
theorem begin_small {b : Nat} (h : b < 128) : beginS b = (.zero, [b]) := by
  obtain ⟨x, hx, h0, hm⟩ := lead_small h
  unfold beginS
  rw [hx]
  simp only [h0, hm, if_true]
  rw [Nat.mod_eq_of_lt (by omega)]
theorem begin_none {b : Nat} (h : 128 ≤ b) (h2 : b < 256) (h0 : (needS b).1 = 0) : beginS b = (.zero, [bad]) := by
  unfold beginS
  rw [lead_none h h2 h0]
theorem begin_some {b : Nat} (h : 128 ≤ b) (h2 : b < 256) (h0 : (needS b).1 ≠ 0) : beginS b = (⟨b, b % modS (needS b).1, (needS b).1⟩, []) := by
  obtain ⟨x, hx, hn, _, _, hm, h1, _⟩ := lead_some h h2 h0
  unfold beginS
  rw [hx]
  simp only
  rw [hn, hm, if_neg (by omega)]
/-- between which the next byte must be -/
def loS (b n : Nat) : Nat := if n = (needS b).1 then (needS b).2.1 else 128
def hiS (b n : Nat) : Nat := if n = (needS b).1 then (needS b).2.2 else 191
theorem may_open {b r n c : Nat} (h : 128 ≤ b) (h2 : b < 256) (h0 : (needS b).1 ≠ 0) : mayS ⟨b, r, n⟩ c = decide (loS b n ≤ c ∧ c ≤ hiS b n) := by
  obtain ⟨x, hx, hn, hl, hh, _⟩ := lead_some h h2 h0
  unfold mayS loS hiS
  simp only [hx, hn, hl, hh]
  split <;> rfl

/-! ### what a decoder may be -/
/-- all runes that it may still become are some -/
def RuneOk (r n : Nat) : Prop := (r + 1) * 64 ^ n ≤ 55296 ∨ (57344 ≤ r * 64 ^ n ∧ (r + 1) * 64 ^ n ≤ 1114112)
theorem rune_ok0 (r : Nat) : RuneOk r (1 - 1) ↔ r + 1 ≤ 55296 ∨ (57344 ≤ r ∧ r + 1 ≤ 1114112) := by show (r + 1) * 1 ≤ 55296 ∨ (57344 ≤ r * 1 ∧ (r + 1) * 1 ≤ 1114112) ↔ _; rw [Nat.mul_one, Nat.mul_one]
theorem rune_ok1 (r : Nat) : RuneOk r 1 ↔ (r + 1) * 64 ≤ 55296 ∨ (57344 ≤ r * 64 ∧ (r + 1) * 64 ≤ 1114112) := Iff.rfl
theorem rune_ok2 (r : Nat) : RuneOk r 2 ↔ (r + 1) * 4096 ≤ 55296 ∨ (57344 ≤ r * 4096 ∧ (r + 1) * 4096 ≤ 1114112) := Iff.rfl
theorem one_two {n N : Nat} (h1 : 1 ≤ n) (h2 : n < N) (h3 : N ≤ 3) : n = 1 ∨ n = 2 := by omega
theorem rune_next1 {r c : Nat} (e : RuneOk r 1) : RuneOk (r * 64 + c % 64) (1 - 1) := by
  rw [rune_ok1] at e
  rw [rune_ok0]
  omega
theorem rune_next2 {r c : Nat} (e : RuneOk r 2) : RuneOk (r * 64 + c % 64) (2 - 1) := by
  rw [rune_ok2] at e
  show RuneOk (r * 64 + c % 64) 1
  rw [rune_ok1]
  have h : c % 64 < 64 := Nat.mod_lt _ (by decide)
  generalize c % 64 = x at h ⊢
  have h2 : r ≤ 12 ∨ (14 ≤ r ∧ r ≤ 271) := by omega
  generalize hy : r * 64 + x = y
  have h3 : y + 1 ≤ 832 ∨ (896 ≤ y ∧ y + 1 ≤ 17408) := by omega
  clear hy h2 e h
  omega
def Open (d : St) : Prop := 128 ≤ d.lead ∧ d.lead < 256 ∧ 1 ≤ d.need ∧ d.need ≤ (needS d.lead).1 ∧ (needS d.lead).1 ≤ 3 ∧ ((d.need = (needS d.lead).1 ∧ d.rune = d.lead % modS (needS d.lead).1) ∨ (d.need < (needS d.lead).1 ∧ RuneOk d.rune d.need))
def Sound (d : St) : Prop := d = .zero ∨ Open d
def validN (r : Nat) : Prop := r < 55296 ∨ (57344 ≤ r ∧ r < 1114112)
instance (r : Nat) : Decidable (validN r) := by unfold validN; infer_instance
theorem bad_valid : validN bad := by decide

theorem need_cases {b : Nat} (h0 : (needS b).1 ≠ 0) : (194 ≤ b ∧ b ≤ 223 ∧ needS b = (1, 128, 191)) ∨ (b = 224 ∧ needS b = (2, 160, 191)) ∨ (b = 237 ∧ needS b = (2, 128, 159)) ∨ (225 ≤ b ∧ b ≤ 239 ∧ b ≠ 237 ∧ needS b = (2, 128, 191)) ∨ (b = 240 ∧ needS b = (3, 144, 191)) ∨ (b = 244 ∧ needS b = (3, 128, 143)) ∨ (241 ≤ b ∧ b ≤ 243 ∧ needS b = (3, 128, 191)) := by
  unfold needS at h0 ⊢
  by_cases h1 : 194 ≤ b ∧ b ≤ 223
  · rw [if_pos h1]; exact .inl ⟨h1.1, h1.2, rfl⟩
  rw [if_neg h1] at h0 ⊢
  by_cases h2 : b = 224
  · simp [h2]
  rw [if_neg h2] at h0 ⊢
  by_cases h3 : b = 237
  · simp [h3]
  rw [if_neg h3] at h0 ⊢
  by_cases h4 : 225 ≤ b ∧ b ≤ 239
  · rw [if_pos h4]; simp; omega
  rw [if_neg h4] at h0 ⊢
  by_cases h5 : b = 240
  · simp [h5]
  rw [if_neg h5] at h0 ⊢
  by_cases h6 : b = 244
  · simp [h6]
  rw [if_neg h6] at h0 ⊢
  by_cases h7 : 241 ≤ b ∧ b ≤ 243
  · rw [if_pos h7]; simp; omega
  rw [if_neg h7] at h0
  exact absurd rfl h0
theorem begin_sound {b : Nat} (h : b < 256) : Sound (beginS b).1 ∧ ∀ r ∈ (beginS b).2, validN r := by
  by_cases h1 : b < 128
  · rw [begin_small h1]
    exact ⟨.inl rfl, by simp [validN]; omega⟩
  · by_cases h0 : (needS b).1 = 0
    · rw [begin_none (by omega) h h0]
      exact ⟨.inl rfl, by simp; exact bad_valid⟩
    · rw [begin_some (by omega) h h0]
      have h3 := lead_some (by omega) h h0
      obtain ⟨x, _, _, _, _, _, h4, h5, _⟩ := h3
      exact ⟨.inr ⟨by simp; omega, h, h4, Nat.le_refl _, h5, .inl ⟨rfl, rfl⟩⟩, by simp⟩
theorem go_sound {d : St} {c : Nat} (hd : Open d) (hm : mayS d c = true) : Sound (goS d c).1 ∧ ∀ r ∈ (goS d c).2, validN r := by
  obtain ⟨b, r, n⟩ := d
  obtain ⟨h1, h2, h3, h4, h5, h6⟩ := hd
  simp only at h1 h2 h3 h4 h5 h6
  have h0 : (needS b).1 ≠ 0 := by omega
  rw [may_open h1 h2 h0, decide_eq_true_eq] at hm
  have hc : 128 ≤ c ∧ c ≤ 191 := by
    have h := lead_some h1 h2 h0
    obtain ⟨x, _, _, _, _, _, _, _, h7, h8⟩ := h
    unfold loS hiS at hm
    split at hm <;> omega
  have key : RuneOk (r * 64 + c % 64) (n - 1) := by
    rcases h6 with ⟨e1, e2⟩ | ⟨e1, e2⟩
    · unfold loS hiS at hm
      rw [if_pos e1, if_pos e1] at hm
      rcases need_cases h0 with ⟨g1, g2, g⟩ | ⟨g1, g⟩ | ⟨g1, g⟩ | ⟨g1, g2, g3, g⟩ | ⟨g1, g⟩ | ⟨g1, g⟩ | ⟨g1, g2, g⟩ <;> rw [g] at hm e1 e2 <;> simp only [modS, List.getD_cons_succ, List.getD_cons_zero] at e1 e2 hm <;> rw [e1] <;> clear e1 h3 h4 h5 h0 g
      · rw [rune_ok0]; omega
      · rw [rune_ok1]; omega
      · rw [rune_ok1]; omega
      · rw [rune_ok1]; omega
      · rw [rune_ok2]; omega
      · rw [rune_ok2]; omega
      · rw [rune_ok2]; omega
    · obtain rfl | rfl := one_two h3 e1 h5
      · exact rune_next1 e2
      · exact rune_next2 e2
  unfold goS
  simp only
  split
  · rename_i e
    subst e
    refine ⟨.inl rfl, ?_⟩
    rw [rune_ok0] at key
    unfold validN
    intro x hx
    rw [List.mem_singleton] at hx
    subst hx
    omega
  · exact ⟨.inr ⟨h1, h2, by simp; omega, by simp; omega, h5, .inr ⟨by simp; omega, key⟩⟩, by simp⟩
theorem step_sound {d : St} {b : Nat} (hd : Sound d) (hb : b < 256) : Sound (stepS d b).1 ∧ ∀ r ∈ (stepS d b).2, validN r := by
  have hbg := begin_sound hb
  unfold stepS
  split
  · exact hbg
  · rename_i hn
    have ho : Open d := hd.resolve_left (by rintro rfl; exact hn rfl)
    split
    · rename_i hm; exact go_sound ho hm
    · refine ⟨hbg.1, ?_⟩
      intro r hr
      rcases List.mem_cons.1 hr with rfl | hr
      · exact bad_valid
      · exact hbg.2 r hr
theorem run_sound : ∀ (l : List UInt8) (d : St), Sound d → Sound (runS d l).1 ∧ ∀ r ∈ (runS d l).2, validN r
  | [], d, h => ⟨h, by simp [runS]⟩
  | b :: l, d, h => by
    have h1 := step_sound h b.toNat_lt
    have h2 := run_sound l _ h1.1
    refine ⟨h2.1, fun r hr => ?_⟩
    rcases List.mem_append.1 hr with hr | hr
    · exact h1.2 r hr
    · exact h2.2 r hr
theorem zero_sound : Sound .zero := .inl rfl
theorem dec_valid (l : List UInt8) : ∀ r ∈ decS l, validN r := by
  intro r hr
  rcases List.mem_append.1 hr with hr | hr
  · exact (run_sound l _ zero_sound).2 r hr
  · unfold endS at hr
    split at hr
    · cases hr
    · simp at hr; rw [hr]; exact bad_valid
/-- bounds, for the arithmetic -/
theorem open_bounds {d : St} (h : Open d) : d.rune < 32768 ∧ 1 ≤ d.need ∧ d.need ≤ 3 ∧ d.lead < 256 ∧ 128 ≤ d.lead := by
  obtain ⟨b, r, n⟩ := d
  obtain ⟨h1, h2, h3, h4, h5, h6⟩ := h
  simp only at h1 h2 h3 h4 h5 h6 ⊢
  refine ⟨?_, h3, by omega, h2, h1⟩
  rcases h6 with ⟨_, e⟩ | ⟨e, e2⟩
  · rw [e]
    have h0 : (needS b).1 ≠ 0 := by omega
    rcases need_cases h0 with ⟨g1, g2, g⟩ | ⟨g1, g⟩ | ⟨g1, g⟩ | ⟨g1, g2, g3, g⟩ | ⟨g1, g⟩ | ⟨g1, g⟩ | ⟨g1, g2, g⟩ <;> rw [g] <;> simp [modS] <;> omega
  · obtain rfl | rfl : n = 1 ∨ n = 2 := by omega
    · rw [rune_ok1] at e2; omega
    · rw [rune_ok2] at e2; omega
/-- is there a sequence? -/
def opn (d : St) : Nat := if d.need = 0 then 0 else 1
theorem opn_zero {d : St} (h : d.need = 0) : opn d = 0 := if_pos h
theorem opn_one {d : St} (h : d.need ≠ 0) : opn d = 1 := if_neg h
theorem opn_le (d : St) : opn d ≤ 1 := by unfold opn; split <;> omega
/-- how many are told -/
theorem begin_count (b : Nat) : (beginS b).2.length + opn (beginS b).1 = 1 := by
  unfold beginS
  split
  · rfl
  · split
    · rfl
    · rename_i h; rw [opn_one (by exact h)]; rfl
theorem go_count {d : St} (b : Nat) (h : d.need ≠ 0) : (goS d b).2.length + opn (goS d b).1 = 1 := by
  unfold goS
  split
  · rfl
  · rw [opn_one (by simp only; omega)]; rfl
theorem step_count {d : St} {b : Nat} : (stepS d b).2.length + opn (stepS d b).1 ≤ 1 + opn d ∧ 1 ≤ (stepS d b).2.length + opn (stepS d b).1 := by
  have hb := begin_count b
  unfold stepS
  split
  · omega
  · rename_i hn
    have hg := go_count b hn
    split
    · omega
    · rw [opn_one hn]
      simp only [List.length_cons]
      omega
theorem run_count : ∀ (l : List UInt8) (d : St), (runS d l).2.length + opn (runS d l).1 ≤ l.length + opn d
  | [], d => by simp [runS]
  | b :: l, d => by
    have h1 := step_count (d := d) (b := b.toNat)
    have h2 := run_count l (stepS d b.toNat).1
    simp only [runS, List.length_append, List.length_cons]
    omega
theorem dec_count (l : List UInt8) : (decS l).length ≤ l.length := by
  have h := run_count l .zero
  have h0 : opn .zero = 0 := rfl
  unfold decS endS
  rw [List.length_append]
  split
  · rw [List.length_nil]; omega
  · rename_i hn; rw [opn_one hn] at h; rw [List.length_singleton]; omega
theorem run_some : ∀ (l : List UInt8) (d : St), (l ≠ [] ∨ d.need ≠ 0) → 1 ≤ (runS d l).2.length + opn (runS d l).1
  | [], d, h => by
    have h' := h.resolve_left (by simp)
    rw [runS, opn_one h']
    omega
  | b :: l, d, _ => by
    simp only [runS, List.length_append]
    have h1 := (step_count (d := d) (b := b.toNat)).2
    by_cases h : (stepS d b.toNat).1.need = 0
    · rw [opn_zero h] at h1; omega
    · have := run_some l (stepS d b.toNat).1 (.inr h); omega
theorem dec_some (l : List UInt8) (h : l ≠ []) : 1 ≤ (decS l).length := by
  have := run_some l .zero (.inl h)
  unfold decS endS
  rw [List.length_append]
  split
  · rename_i h; rw [opn_zero h] at this; omega
  · rw [List.length_singleton]; omega

/-! ### what is encoded is decoded -/
def fixI (r : Int) : Nat := if r < 0 ∨ 1114111 < r ∨ (55296 ≤ r ∧ r ≤ 57343) then bad else r.toNat
theorem fixI_valid (r : Int) : validN (fixI r) := by
  unfold fixI
  split
  · exact bad_valid
  · unfold validN; omega
/-- the bytes of a rune that is one -/
def encN (c : Nat) : List Nat :=
  if c < 128 then [c]
  else if c < 2048 then [192 + c / 64, 128 + c % 64]
  else if c < 65536 then [224 + c / 4096, 128 + c / 64 % 64, 128 + c % 64]
  else [240 + c / 262144, 128 + c / 4096 % 64, 128 + c / 64 % 64, 128 + c % 64]
theorem encN_lt {c : Nat} (h : validN c) : ∀ b ∈ encN c, b < 256 := by
  unfold validN at h
  intro b hb
  unfold encN at hb
  split at hb
  · simp at hb; omega
  · split at hb
    · simp at hb; omega
    · split at hb
      · simp at hb; omega
      · simp at hb; omega
def encS (r : Int) : List UInt8 := (encN (fixI r)).map UInt8.ofNat
def runN : St → List Nat → St × List Nat
  | d, [] => (d, [])
  | d, b :: l => ((runN (stepS d b).1 l).1, (stepS d b).2 ++ (runN (stepS d b).1 l).2)
theorem runS_runN : ∀ (l : List Nat) (d : St), (∀ b ∈ l, b < 256) → runS d (l.map UInt8.ofNat) = runN d l
  | [], d, _ => rfl
  | b :: l, d, h => by
    have hb : b < 256 := h b (by simp)
    have e : (UInt8.ofNat b).toNat = b := by rw [UInt8.toNat_ofNat']; exact Nat.mod_eq_of_lt hb
    have ih := fun d => runS_runN l d (fun c hc => h c (by simp [hc]))
    simp only [List.map_cons, runS, runN, e, ih]
theorem need_two {b : Nat} (h1 : 194 ≤ b) (h2 : b ≤ 223) : needS b = (1, 128, 191) := by unfold needS; rw [if_pos ⟨h1, h2⟩]
theorem need_three {b : Nat} (h1 : 224 ≤ b) (h2 : b ≤ 239) : (needS b).1 = 2 ∧ (needS b).2.1 = (if b = 224 then 160 else 128) ∧ (needS b).2.2 = (if b = 237 then 159 else 191) := by
  unfold needS
  rw [if_neg (by omega)]
  by_cases e : b = 224
  · simp [e]
  · rw [if_neg e]
    by_cases e2 : b = 237
    · simp [e2]
    · rw [if_neg e2, if_pos (by omega)]
      simp [e, e2]
theorem need_four {b : Nat} (h1 : 240 ≤ b) (h2 : b ≤ 244) : (needS b).1 = 3 ∧ (needS b).2.1 = (if b = 240 then 144 else 128) ∧ (needS b).2.2 = (if b = 244 then 143 else 191) := by
  unfold needS
  rw [if_neg (by omega), if_neg (by omega), if_neg (by omega), if_neg (by omega)]
  by_cases e : b = 240
  · simp [e]
  · rw [if_neg e]
    by_cases e2 : b = 244
    · simp [e2]
    · rw [if_neg e2, if_pos (by omega)]
      simp [e, e2]
theorem may_mid {b r n c : Nat} (h : 128 ≤ b) (h2 : b < 256) (h0 : (needS b).1 ≠ 0) (hn : n < (needS b).1) (h3 : 128 ≤ c) (h4 : c ≤ 191) : mayS ⟨b, r, n⟩ c = true := by
  rw [may_open h h2 h0]
  unfold loS hiS
  rw [if_neg (by omega), if_neg (by omega)]
  simp [h3, h4]
theorem stepS_go {b r n c : Nat} (hn : n ≠ 0) (h : mayS ⟨b, r, n⟩ c = true) : stepS ⟨b, r, n⟩ c = goS ⟨b, r, n⟩ c := by
  unfold stepS
  rw [if_neg (by exact hn), if_pos h]
theorem enc_run {c : Nat} (h : validN c) : runN .zero (encN c) = (.zero, [c]) := by
  unfold validN at h
  unfold encN
  by_cases h1 : c < 128
  · rw [if_pos h1]
    have hs : stepS .zero c = beginS c := rfl
    simp only [runN, hs, begin_small h1, List.append_nil]
  rw [if_neg h1]
  by_cases h2 : c < 2048
  · rw [if_pos h2]
    have hn := need_two (b := 192 + c / 64) (by omega) (by omega)
    have hs : stepS .zero (192 + c / 64) = beginS (192 + c / 64) := rfl
    have hb := begin_some (b := 192 + c / 64) (by omega) (by omega) (by rw [hn]; decide)
    rw [hn] at hb
    have hm : mayS ⟨192 + c / 64, (192 + c / 64) % 32, 1⟩ (128 + c % 64) = true := by
      rw [may_open (by omega) (by omega) (by rw [hn]; decide)]
      unfold loS hiS
      rw [hn]
      simp
      omega
    simp only [runN, hs, hb, modS, List.getD_cons_succ, List.getD_cons_zero, stepS_go (by decide : 1 ≠ 0) hm, List.nil_append, List.append_nil]
    unfold goS
    simp
    omega
  rw [if_neg h2]
  by_cases h3 : c < 65536
  · rw [if_pos h3]
    have hn := need_three (b := 224 + c / 4096) (by omega) (by omega)
    have hn0 : (needS (224 + c / 4096)).1 ≠ 0 := by omega
    have hs : stepS .zero (224 + c / 4096) = beginS (224 + c / 4096) := rfl
    have hb := begin_some (b := 224 + c / 4096) (by omega) (by omega) hn0
    rw [hn.1] at hb
    have hm1 : mayS ⟨224 + c / 4096, (224 + c / 4096) % 16, 2⟩ (128 + c / 64 % 64) = true := by
      rw [may_open (by omega) (by omega) hn0]
      unfold loS hiS
      rw [hn.1, hn.2.1, hn.2.2, if_pos rfl, if_pos rfl, decide_eq_true_eq]
      split <;> split <;> omega
    have hm2 := may_mid (b := 224 + c / 4096) (r := (224 + c / 4096) % 16 * 64 + (128 + c / 64 % 64) % 64) (n := 1) (c := 128 + c % 64) (by omega) (by omega) hn0 (by omega) (by omega) (by omega)
    have hg1 : goS ⟨224 + c / 4096, (224 + c / 4096) % 16, 2⟩ (128 + c / 64 % 64) = (⟨224 + c / 4096, (224 + c / 4096) % 16 * 64 + (128 + c / 64 % 64) % 64, 1⟩, []) := rfl
    simp only [runN, hs, hb, modS, List.getD_cons_succ, List.getD_cons_zero, stepS_go (by decide : 2 ≠ 0) hm1, hg1, stepS_go (by decide : 1 ≠ 0) hm2, List.nil_append, List.append_nil]
    unfold goS
    simp
    omega
  rw [if_neg h3]
  have hn := need_four (b := 240 + c / 262144) (by omega) (by omega)
  have hn0 : (needS (240 + c / 262144)).1 ≠ 0 := by omega
  have hs : stepS .zero (240 + c / 262144) = beginS (240 + c / 262144) := rfl
  have hb := begin_some (b := 240 + c / 262144) (by omega) (by omega) hn0
  rw [hn.1] at hb
  have hm1 : mayS ⟨240 + c / 262144, (240 + c / 262144) % 8, 3⟩ (128 + c / 4096 % 64) = true := by
    rw [may_open (by omega) (by omega) hn0]
    unfold loS hiS
    rw [hn.1, hn.2.1, hn.2.2, if_pos rfl, if_pos rfl, decide_eq_true_eq]
    split <;> split <;> omega
  have hm2 := may_mid (b := 240 + c / 262144) (r := (240 + c / 262144) % 8 * 64 + (128 + c / 4096 % 64) % 64) (n := 2) (c := 128 + c / 64 % 64) (by omega) (by omega) hn0 (by omega) (by omega) (by omega)
  have hm3 := may_mid (b := 240 + c / 262144) (r := ((240 + c / 262144) % 8 * 64 + (128 + c / 4096 % 64) % 64) * 64 + (128 + c / 64 % 64) % 64) (n := 1) (c := 128 + c % 64) (by omega) (by omega) hn0 (by omega) (by omega) (by omega)
  have hg1 : goS ⟨240 + c / 262144, (240 + c / 262144) % 8, 3⟩ (128 + c / 4096 % 64) = (⟨240 + c / 262144, (240 + c / 262144) % 8 * 64 + (128 + c / 4096 % 64) % 64, 2⟩, []) := rfl
  have hg2 : goS ⟨240 + c / 262144, (240 + c / 262144) % 8 * 64 + (128 + c / 4096 % 64) % 64, 2⟩ (128 + c / 64 % 64) = (⟨240 + c / 262144, ((240 + c / 262144) % 8 * 64 + (128 + c / 4096 % 64) % 64) * 64 + (128 + c / 64 % 64) % 64, 1⟩, []) := rfl
  simp only [runN, hs, hb, modS, List.getD_cons_succ, List.getD_cons_zero, stepS_go (by decide : 3 ≠ 0) hm1, hg1, stepS_go (by decide : 2 ≠ 0) hm2, hg2, stepS_go (by decide : 1 ≠ 0) hm3, List.nil_append, List.append_nil]
  unfold goS
  simp
  omega
theorem encS_run (r : Int) : runS .zero (encS r) = (.zero, [fixI r]) := by
  unfold encS
  rw [runS_runN _ _ (encN_lt (fixI_valid r)), enc_run (fixI_valid r)]
theorem encs_run : ∀ (l : List Int), runS .zero (l.flatMap encS) = (.zero, l.map fixI)
  | [] => rfl
  | r :: l => by rw [List.flatMap_cons, runS_append, encS_run, encs_run l]; rfl
theorem encs_dec (l : List Int) : decS (l.flatMap encS) = l.map fixI := by
  unfold decS
  rw [encs_run]
  simp [endS, St.zero]
theorem fixI_id {n : Nat} (h : validN n) : fixI (n : Int) = n := by
  unfold validN at h
  unfold fixI
  rw [if_neg (by omega)]
  simp
/-- a first byte of a rune is no next one -/
theorem enc_head {c : Nat} (h : validN c) : ∃ b l, encN c = b :: l ∧ (b < 128 ∨ 192 ≤ b) := by
  unfold validN at h
  unfold encN
  split
  · exact ⟨_, _, rfl, .inl (by assumption)⟩
  · split
    · exact ⟨_, _, rfl, .inr (by omega)⟩
    · split
      · exact ⟨_, _, rfl, .inr (by omega)⟩
      · exact ⟨_, _, rfl, .inr (by omega)⟩
theorem may_not {d : St} (hd : Open d) {b : Nat} (hb : b < 128 ∨ 192 ≤ b) : mayS d b = false := by
  obtain ⟨ld, r, n⟩ := d
  obtain ⟨h1, h2, h3, h4, h5, _⟩ := hd
  simp only at h1 h2 h3 h4 h5
  have h0 : (needS ld).1 ≠ 0 := by omega
  rw [may_open h1 h2 h0, decide_eq_false_iff_not]
  obtain ⟨x, _, _, _, _, _, _, _, h7, h8⟩ := lead_some h1 h2 h0
  unfold loS hiS
  split <;> omega
/-- behind whatever bytes a rune is told -/
theorem heals {d : St} (hd : Sound d) (r : Int) : (runS d (encS r)).1 = .zero ∧ ∃ p, (runS d (encS r)).2 = p ++ [fixI r] := by
  have h := encS_run r
  rcases hd with rfl | hd
  · rw [h]; exact ⟨rfl, [], rfl⟩
  · unfold encS at h ⊢
    rw [runS_runN _ _ (encN_lt (fixI_valid r))] at h ⊢
    obtain ⟨b, l, he, hb⟩ := enc_head (fixI_valid r)
    rw [he] at h ⊢
    have hn : d.need ≠ 0 := by have := hd.2.2.1; omega
    have e : stepS d b = ((beginS b).1, bad :: (beginS b).2) := by
      unfold stepS
      rw [if_neg hn, may_not hd hb]
      rfl
    have e0 : stepS .zero b = beginS b := rfl
    simp only [runN, e0] at h
    simp only [runN, e]
    injection h with h1 h2
    refine ⟨h1, [bad], ?_⟩
    rw [List.cons_append, h2]
    rfl
theorem heals_dec (l : List UInt8) (r : Int) : ∃ p, decS (l ++ encS r) = p ++ [fixI r] := by
  have h := heals (run_sound l .zero zero_sound).1 r
  obtain ⟨h1, p, h2⟩ := h
  unfold decS
  rw [runS_append]
  simp only [h1, h2]
  exact ⟨(runS .zero l).2 ++ p, by simp [endS, St.zero, List.append_assoc]⟩

/-! ### all bytes at once -/
/-- an open sequence, where its next byte is none -/
theorem run_not {d : St} (hn : d.need ≠ 0) {c : UInt8} {l : List UInt8} (hm : mayS d c.toNat = false) : runS d (c :: l) = ((runS .zero (c :: l)).1, bad :: (runS .zero (c :: l)).2) := by
  have e : stepS d c.toNat = ((beginS c.toNat).1, bad :: (beginS c.toNat).2) := by
    unfold stepS
    rw [if_neg hn, hm]
    rfl
  have e0 : stepS .zero c.toNat = beginS c.toNat := rfl
  simp only [runS, e, e0, List.cons_append]
end Go.Proofs.YtmdnnpcofbhceaaDoor.Y
