/- Plain facts on runes out of bytes: one byte's step, runs of bytes, what is encoded is decoded, what is told is valid. No Go here. -/
namespace Go.Proofs.YtjlhinofglokoaaDoor.Y

/-- first bytes: from, to, mask, need, low, high -/
abbrev Row := Nat × Nat × Nat × Nat × Nat × Nat
def tab : List Row := [(0, 127, 127, 0, 0, 0), (194, 223, 31, 1, 128, 191), (224, 224, 15, 2, 160, 191), (225, 236, 15, 2, 128, 191), (237, 237, 15, 2, 128, 159), (238, 239, 15, 2, 128, 191), (240, 240, 7, 3, 144, 191), (241, 243, 7, 3, 128, 191), (244, 244, 7, 3, 128, 143)]
def look : List Row → Nat → Option Row
  | [], _ => none
  | x :: t, b => if x.1 ≤ b ∧ b ≤ x.2.1 then some x else look t b
def zeroRow : Row := (0, 0, 0, 0, 0, 0)
/-- what the rest of the table says -/
def rest (k : Nat) (b : Nat) : Option Row := look (tab.drop k) b
theorem rest_end (b : Nat) : rest 9 b = none := rfl
theorem rest_step (k : Nat) (hk : k < 9) (b : Nat) : rest k b = if (tab.getD k zeroRow).1 ≤ b ∧ b ≤ (tab.getD k zeroRow).2.1 then some (tab.getD k zeroRow) else rest (k + 1) b := by
  have hk' : k < tab.length := hk
  have h : tab.drop k = tab.getD k zeroRow :: tab.drop (k + 1) := by
    rw [List.drop_eq_getElem_cons hk']
    simp [List.getD_eq_getElem?_getD, hk']
  unfold rest
  rw [h]
  rfl
def bad : Nat := 65533

/-- a sequence that isn't whole: its first byte, its bits so far, how many bytes it needs -/
structure St where
  lead : Nat
  rune : Nat
  need : Nat
deriving DecidableEq
def St.zero : St := ⟨0, 0, 0⟩
/-! ### first bytes, as the document says -/
/-! ### what a decoder may be -/
def validN (r : Nat) : Prop := r < 55296 ∨ (57344 ≤ r ∧ r < 1114112)
instance (r : Nat) : Decidable (validN r) := by unfold validN; infer_instance
/-! ### what is encoded is decoded -/
def fixI (r : Int) : Nat := if r < 0 ∨ 1114111 < r ∨ (55296 ≤ r ∧ r ≤ 57343) then bad else r.toNat
/-- the bytes of a rune that is one -/
def encN (c : Nat) : List Nat :=
  if c < 128 then [c]
  else if c < 2048 then [192 + c / 64, 128 + c % 64]
  else if c < 65536 then [224 + c / 4096, 128 + c / 64 % 64, 128 + c % 64]
  else [240 + c / 262144, 128 + c / 4096 % 64, 128 + c / 64 % 64, 128 + c % 64]
def encS (r : Int) : List UInt8 := (encN (fixI r)).map UInt8.ofNat
/-! ### all bytes at once -/
end Go.Proofs.YtjlhinofglokoaaDoor.Y
