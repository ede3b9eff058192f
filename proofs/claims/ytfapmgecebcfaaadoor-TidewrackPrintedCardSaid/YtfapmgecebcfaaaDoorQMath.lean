/- What bytes of an application say, byte by byte. -/
import Derived.Test.YtfapmgecebcfaaaDoorYMath
namespace Go.Proofs.YtfapmgecebcfaaaDoor.Q
open Go.Proofs.YtfapmgecebcfaaaDoor.Y (St stepS endS runS bad Sound)

/-- What bytes say. -/
structure Say where
  kind : Nat
  rune : Nat
  byte : Nat
  priv : Bool
  nums : List Int
  text : List UInt8
deriving DecidableEq
def prt (r : Nat) : Say := ⟨1, r, 0, false, [], []⟩
def ctl (b : Nat) : Say := ⟨2, 0, b, false, [], []⟩
def esc (b : Nat) : Say := ⟨3, 0, b, false, [], []⟩
def cmd (b : Nat) (p : Bool) (l : List Int) : Say := ⟨4, 0, b, p, l, []⟩
def ttl (t : List UInt8) : Say := ⟨5, 0, 0, false, [], t⟩
def prints (l : List Nat) : List Say := l.map prt
/-- How far bytes are. -/
structure PS where
  state : Nat
  dec : St
  nums : List Int
  number : Int
  begun : Bool
  numbered : Bool
  priv : Bool
  wrong : Bool
  text : List UInt8
def fresh (s : Nat) : PS := ⟨s, .zero, [], 0, false, false, false, false, []⟩
def overS (t : List UInt8) : List Say := match t with
  | a :: b :: t => if (a = 48 ∨ a = 50) ∧ b = 59 then [ttl t] else []
  | _ => []
def anyS (p : PS) (b : Nat) : PS × List Say :=
  if b = 24 ∨ b = 26 then (fresh 0, prints (endS p.dec))
  else if b = 27 then (fresh 1, prints (endS p.dec))
  else if b = 127 then ({ p with dec := .zero }, prints (endS p.dec))
  else ({ p with dec := .zero }, prints (endS p.dec) ++ [ctl b])
def escS (b : Nat) : PS × List Say :=
  if b = 91 then (fresh 3, []) else if b = 93 then (fresh 4, []) else if b < 48 then (fresh 2, []) else if b < 127 then (fresh 0, [esc b]) else (fresh 0, [])
def skipS (p : PS) (b : Nat) : PS := if 48 ≤ b then fresh 0 else p
def keepS (p : PS) : PS := { p with nums := if p.nums.length < 16 then p.nums ++ [p.number] else p.nums, number := 0 }
def finS (p : PS) (b : Nat) : PS × List Say := (fresh 0, if p.wrong then [] else [cmd b p.priv (if p.numbered then keepS p else p).nums])
def cmdS (p : PS) (b : Nat) : PS × List Say :=
  if 48 ≤ b ∧ b ≤ 57 then ({ p with begun := true, number := min (10 * p.number + ((b : Int) - 48)) 9999, numbered := true }, [])
  else if b = 59 ∨ b = 58 then ({ keepS { p with begun := true } with numbered := true }, [])
  else if b = 63 ∧ p.begun = false then ({ p with begun := true, priv := true }, [])
  else if b < 64 ∨ 127 < b then ({ p with begun := true, wrong := true }, [])
  else finS { p with begun := true } b
def titleS (p : PS) (b : UInt8) : PS × List Say :=
  if b.toNat = 7 then (fresh 0, overS p.text)
  else if b.toNat = 24 ∨ b.toNat = 26 then (fresh 0, [])
  else if b.toNat = 27 then ({ p with state := 5 }, [])
  else (if p.text.length < 200 then { p with text := p.text ++ [b] } else p, [])
def groundS (p : PS) (b : Nat) : PS × List Say := ({ p with dec := (stepS p.dec b).1 }, prints (stepS p.dec b).2)
def ctlB (b : Nat) : Prop := b < 32 ∨ b = 127
instance (b : Nat) : Decidable (ctlB b) := by unfold ctlB; infer_instance
/-- a byte, but behind a title's introducer -/
def coreS (p : PS) (b : UInt8) : PS × List Say :=
  if p.state = 4 then titleS p b
  else if ctlB b.toNat then anyS p b.toNat
  else if p.state = 1 then escS b.toNat
  else if p.state = 2 then (skipS p b.toNat, [])
  else if p.state = 3 then cmdS p b.toNat
  else groundS p b.toNat
def takeS (p : PS) (b : UInt8) : PS × List Say :=
  if p.state = 5 then (if b.toNat = 92 then (fresh 0, overS p.text) else coreS (fresh 1) b)
  else coreS p b
def feedS : PS → List UInt8 → PS × List Say
  | p, [] => (p, [])
  | p, b :: l => ((feedS (takeS p b).1 l).1, (takeS p b).2 ++ (feedS (takeS p b).1 l).2)
theorem feedS_append : ∀ (a b : List UInt8) (p : PS), feedS p (a ++ b) = ((feedS (feedS p a).1 b).1, (feedS p a).2 ++ (feedS (feedS p a).1 b).2)
  | [], b, p => by simp [feedS]
  | x :: a, b, p => by simp [feedS, feedS_append a b]
theorem feedS_snoc (a : List UInt8) (c : UInt8) (p : PS) : feedS p (a ++ [c]) = ((takeS (feedS p a).1 c).1, (feedS p a).2 ++ (takeS (feedS p a).1 c).2) := by
  rw [feedS_append]; simp [feedS]
/-- what may stand in a parser -/
structure Ok (p : PS) : Prop where
  st : p.state ≤ 5
  dec : Sound p.dec
  nums : p.nums.length ≤ 16
  num : ∀ z ∈ p.nums, 0 ≤ z ∧ z ≤ 9999
  number : 0 ≤ p.number ∧ p.number ≤ 9999
  text : p.text.length ≤ 200
  other : p.state ≠ 0 → p.dec = .zero
theorem fresh_ok (s : Nat) (h : s ≤ 5) : Ok (fresh s) := ⟨h, .inl rfl, by simp [fresh], (fun _ h => by cases h), ⟨Int.le_refl 0, by simp [fresh]⟩, by simp [fresh], fun _ => rfl⟩
theorem keep_ok {p : PS} (h : Ok p) : Ok (keepS p) := by
  refine ⟨h.st, h.dec, ?_, ?_, ⟨Int.le_refl 0, by simp [keepS]⟩, h.text, h.other⟩
  · unfold keepS; simp only; split
    · rw [List.length_append]; simp; omega
    · exact h.nums
  · unfold keepS; simp only; split
    · intro z hz
      rcases List.mem_append.1 hz with hz | hz
      · exact h.num z hz
      · obtain rfl : z = p.number := by simpa using hz
        exact h.number
    · exact h.num
theorem any_ok {p : PS} (h : Ok p) (b : Nat) : Ok (anyS p b).1 := by
  unfold anyS
  split
  · exact fresh_ok 0 (by decide)
  · split
    · exact fresh_ok 1 (by decide)
    · split <;> exact ⟨h.st, .inl rfl, h.nums, h.num, h.number, h.text, fun _ => rfl⟩
theorem esc_ok (b : Nat) : Ok (escS b).1 := by
  unfold escS
  split
  · exact fresh_ok 3 (by decide)
  · split
    · exact fresh_ok 4 (by decide)
    · split
      · exact fresh_ok 2 (by decide)
      · split <;> exact fresh_ok 0 (by decide)
theorem cmd_ok {p : PS} (h : Ok p) (b : Nat) : Ok (cmdS p b).1 := by
  unfold cmdS
  split
  · rename_i hb
    have := h.number
    exact ⟨h.st, h.dec, h.nums, h.num, ⟨by simp only; omega, by simp only; omega⟩, h.text, h.other⟩
  · split
    · have h' : Ok { p with begun := true } := ⟨h.st, h.dec, h.nums, h.num, h.number, h.text, h.other⟩
      have k := keep_ok h'
      exact ⟨k.st, k.dec, k.nums, k.num, k.number, k.text, k.other⟩
    · split
      · exact ⟨h.st, h.dec, h.nums, h.num, h.number, h.text, h.other⟩
      · split
        · exact ⟨h.st, h.dec, h.nums, h.num, h.number, h.text, h.other⟩
        · exact fresh_ok 0 (by decide)
theorem title_ok {p : PS} (h : Ok p) (h4 : p.state = 4) (b : UInt8) : Ok (titleS p b).1 := by
  unfold titleS
  split
  · exact fresh_ok 0 (by decide)
  · split
    · exact fresh_ok 0 (by decide)
    · split
      · exact ⟨Nat.le_refl 5, h.dec, h.nums, h.num, h.number, h.text, fun _ => h.other (by omega)⟩
      · simp only
        split
        · exact ⟨h.st, h.dec, h.nums, h.num, h.number, by simp only [List.length_append, List.length_cons, List.length_nil]; omega, h.other⟩
        · exact h
theorem core_ok {p : PS} (h : Ok p) (b : UInt8) (h5 : p.state ≠ 5) : Ok (coreS p b).1 := by
  unfold coreS
  split
  · rename_i h4
    exact title_ok h h4 b
  · split
    · exact any_ok h _
    · split
      · exact esc_ok _
      · split
        · unfold skipS
          simp only
          split
          · exact fresh_ok 0 (by decide)
          · exact h
        · split
          · exact cmd_ok h _
          · refine ⟨h.st, (Y.step_sound h.dec b.toNat_lt).1, h.nums, h.num, h.number, h.text, fun h0 => ?_⟩
            have := h.st
            simp only [groundS] at h0
            omega
theorem take_ok {p : PS} (h : Ok p) (b : UInt8) : Ok (takeS p b).1 := by
  unfold takeS
  split
  · split
    · exact fresh_ok 0 (by decide)
    · exact core_ok (fresh_ok 1 (by decide)) b (by decide)
  · rename_i h5
    exact core_ok h b h5
theorem feed_ok : ∀ (l : List UInt8) (p : PS), Ok p → Ok (feedS p l).1
  | [], _, h => h
  | b :: l, _, h => feed_ok l _ (take_ok h b)
/-- how much is said at most: a byte says two things at most -/
theorem end_count (d : St) : (prints (endS d)).length ≤ 1 := by unfold prints endS; split <;> simp
theorem over_count (t : List UInt8) : (overS t).length ≤ 1 := by
  unfold overS; split
  · split <;> simp
  · simp
theorem title_count (p : PS) (b : UInt8) : (titleS p b).2.length ≤ 2 := by
  have := over_count p.text
  unfold titleS
  split
  · simp only; omega
  · split
    · simp
    · split <;> simp
theorem any_count (p : PS) (b : Nat) : (anyS p b).2.length ≤ 2 := by
  have := end_count p.dec
  unfold anyS
  split
  · simp only; omega
  · split
    · simp only; omega
    · split
      · simp only; omega
      · simp only [List.length_append, List.length_cons, List.length_nil]; omega
theorem esc_count (b : Nat) : (escS b).2.length ≤ 2 := by
  unfold escS
  split
  · simp
  · split
    · simp
    · split
      · simp
      · split <;> simp
theorem cmd_count (p : PS) (b : Nat) : (cmdS p b).2.length ≤ 2 := by
  unfold cmdS
  split
  · simp
  · split
    · simp
    · split
      · simp
      · split
        · simp
        · unfold finS; simp only; split <;> simp
theorem ground_count (p : PS) (b : Nat) : (groundS p b).2.length ≤ 2 := by
  have := @Y.step_count p.dec b
  have := Y.opn_le p.dec
  unfold groundS prints
  simp only [List.length_map]; omega
theorem core_count (p : PS) (b : UInt8) : (coreS p b).2.length ≤ 2 := by
  unfold coreS
  split
  · exact title_count _ _
  · split
    · exact any_count _ _
    · split
      · exact esc_count _
      · split
        · simp
        · split
          · exact cmd_count _ _
          · exact ground_count _ _
theorem take_count (p : PS) (b : UInt8) : (takeS p b).2.length ≤ 2 := by
  unfold takeS
  split
  · split
    · have := over_count p.text; simp only; omega
    · exact core_count _ _
  · exact core_count _ _
theorem feed_count : ∀ (l : List UInt8) (p : PS), (feedS p l).2.length ≤ 2 * l.length
  | [], _ => by simp [feedS]
  | b :: l, p => by
    have h1 := take_count p b
    have h2 := feed_count l (takeS p b).1
    simp only [feedS, List.length_append, List.length_cons]
    omega
end Go.Proofs.YtfapmgecebcfaaaDoor.Q
