/- The contract of the document's Titles. -/
import Derived.Test.YtfapmgecebcfaaaDoorQXs
import Derived.Deep.DeepCutAuto
import Derived.Test.YtfapmgecebcfaaaDoorQMath
namespace Go.Proofs.YtfapmgecebcfaaaDoor.Q
open Go.RowKit
open Go.Proofs.YtfapmgecebcfaaaDoor.W (OwnI OwnR IntsIn RunesIn)

theorem OwnX.lit (w : World) (base : Nat) (hb : base ≤ w.heap.size) (s : Say) (hs : s.nums = []) : OwnX base (.slice (some ⟨w.heap.size, 0, none⟩) 1 1) [s] (w.alloc (.cells (xArr s (.slice none 0 0)) 47)) :=
  ⟨⟨[(s, .slice none 0 0)], rfl, World.ownsRow_lit w (xArr s (.slice none 0 0)) 1 hb (by decide) rfl, fun r hr => by
    obtain rfl : r = (s, .slice none 0 0) := by simpa using hr
    simp only [hs]
    exact OwnI.nil _ _⟩⟩

set_option maxRecDepth 100000 in
set_option maxHeartbeats 8000000 in
theorem titles_any (S : ByteArray) (hsz : (S.size : Int) ≤ 1000000) (w : World) : Calls Tryd.prog 23 #[.string S] w (XPost w.heap.size (overS (S.data.toList.take 200)) w) := by
  obtain ⟨base, hbase⟩ : ∃ base, w.heap.size = base := ⟨_, rfl⟩
  rw [hbase]
  obtain ⟨T, hT⟩ : ∃ T, S.data.toList = T := ⟨_, rfl⟩
  rw [hT]
  obtain ⟨P, hP⟩ : ∃ P, XPost base (overS (T.take 200)) w = P := ⟨_, rfl⟩
  rw [hP]
  have HP := Lib.hid hP
  have HT := Lib.hid hT
  have hst : S.size = T.length := by rw [← hT]; rfl
  have HSt := Lib.hid hst
  have HBs := Lib.hid hbase
  clear hP hT hst hbase
  go_enter Tryd.func23, Tryd.ntmps23
  go_upto_if 5 with fail
  go_cut [0] (fun t0 wx => ∃ S' : ByteArray, t0 = .string S' ∧ Hid (S'.data.toList = T.take 200) ∧ wx = w)
  case first =>
    by_cases h : 200 < S.size
    · have hd : decide ((200 : Int) < S.size) = true := by simp; omega
      have h2 : (200 : Int) ≤ S.size := by omega
      go_wp2_with fail
      go_meet
      refine ⟨_, rfl, Lib.hid ?_, rfl⟩
      simp [ByteArray.data_extract, List.extract, HT.out]
    · have hd : decide ((200 : Int) < S.size) = false := by simp; omega
      go_wp2_with fail
      go_meet
      exact ⟨S, rfl, Lib.hid (by rw [HT.out, List.take_of_length_le (by rw [← HSt.out]; omega)]), rfl⟩
  case rest =>
  obtain ⟨S', rfl, HS', rfl⟩ := hcut
  obtain ⟨U, hU⟩ : ∃ U, T.take 200 = U := ⟨_, rfl⟩
  have hUl : U.length ≤ 200 := by rw [← hU]; exact List.length_take_le _ _
  rw [hU] at HS' HP
  have hsz' : S'.size = U.length := by rw [← HS'.out]; rfl
  have fin : overS U = [] → P (.returned (.slice none 0 0)) wc := fun e => by
    rw [← HP.out, e]
    exact ⟨_, rfl, OwnX.nil _ _, Below.refl _ _⟩
  have HFin := Lib.hid fin
  have HSz := Lib.hid hsz'
  clear fin hU hsz'
  match U, hUl with
  | [], _ =>
    have hs0 : S'.size = 0 := HSz.out
    go_wp2
    exact HFin.out rfl
  | [a], _ =>
    have hs0 : S'.size = 1 := HSz.out
    go_wp2
    exact HFin.out rfl
  | a :: b :: V, hUl =>
    obtain ⟨N, hN⟩ : ∃ N, V.length + 2 = N := ⟨_, rfl⟩
    have hs2 : S'.size = N := HSz.out.trans hN
    have hN2 : (2 : Int) ≤ N := by omega
    have hd2 : decide ((1 : Int) < N) = true := by simp; omega
    have HN := Lib.hid hN
    have h0 : 0 < S'.size := by omega
    have h1 : 1 < S'.size := by omega
    have hS2 : S' = ⟨⟨a :: b :: V⟩⟩ := bytes_ext HS'.out
    have e0 : S'[0] = a := by subst hS2; rfl
    have e1 : S'[1] = b := by subst hS2; rfl
    have HS2 := Lib.hid hS2
    obtain ⟨A, hA⟩ : ∃ A, a.toNat = A := ⟨_, rfl⟩
    obtain ⟨B, hB⟩ : ∃ B, b.toNat = B := ⟨_, rfl⟩
    have f0 : S'[0].toNat = A := by rw [e0, hA]
    have f1 : S'[1].toNat = B := by rw [e1, hB]
    clear hN hS2
    by_cases hq : (a = 48 ∨ a = 50) ∧ b = 59
    · have ho : overS (a :: b :: V) = [ttl V] := by show (if (a = 48 ∨ a = 50) ∧ b = 59 then [ttl V] else []) = _; rw [if_pos hq]
      have hx : S'.extract 2 N = ⟨⟨V⟩⟩ := by
        apply bytes_ext
        rw [HS2.out, ← HN.out]
        simp [ByteArray.data_extract, List.extract]
      obtain ⟨ha, rfl⟩ := hq
      have hB59 : B = 59 := by rw [← hB]; rfl
      subst hB59
      rw [ho] at HP
      have HX := Lib.hid hx
      clear hx ho hB
      rcases ha with rfl | rfl
      all_goals
        have hA' := hA.symm
        subst hA'
        go_wp2
        rw [← HP.out, HX.out]
        exact ⟨_, rfl, OwnX.lit wc base (Nat.le_of_eq HBs.out.symm) (ttl V) rfl, (Below.refl _ _).alloc (Nat.le_of_eq HBs.out.symm) _⟩
    · have ho : overS (a :: b :: V) = [] := by show (if (a = 48 ∨ a = 50) ∧ b = 59 then [ttl V] else []) = _; rw [if_neg hq]
      by_cases ha : a = 48 ∨ a = 50
      · have hb : b ≠ 59 := fun e => hq ⟨ha, e⟩
        have hB59 : ¬ B = 59 := fun e => hb (by rw [← UInt8.toNat_inj, hB, e]; rfl)
        have qb : ((B : Int) == 59) = false := by rw [beq_eq_false_iff_ne]; omega
        rcases ha with rfl | rfl
        all_goals
          have hA' := hA.symm
          subst hA'
          go_wp2
          exact HFin.out ho
      · have qa : ((A : Int) == 48) = false := by
          rw [beq_eq_false_iff_ne]
          intro e
          exact ha (.inl (by rw [← UInt8.toNat_inj, hA]; show A = 48; omega))
        have qc : ((A : Int) == 50) = false := by
          rw [beq_eq_false_iff_ne]
          intro e
          exact ha (.inr (by rw [← UInt8.toNat_inj, hA]; show A = 50; omega))
        go_wp2
        exact HFin.out ho
end Go.Proofs.YtfapmgecebcfaaaDoor.Q

/- What stands ahead of a command's last byte: byte by byte, and all at once. -/
namespace Go.Proofs.YtfapmgecebcfaaaDoor.Q

def push (l : List Int) (n : Int) : List Int := if l.length < 16 then l ++ [n] else l
def ordGo : Int → List Int → List UInt8 → Option (List Int)
  | n, l, [] => some (push l n)
  | n, l, c :: t => if 48 ≤ c.toNat ∧ c.toNat ≤ 57 then ordGo (min 9999 (10 * n + (c.toNat : Int) - 48)) l t else if c.toNat = 59 ∨ c.toNat = 58 then ordGo 0 (push l n) t else none
def ordTail (pr : Bool) (s : List UInt8) (b : Nat) : List Say := if s = [] then [cmd b pr []] else match ordGo 0 [] s with
  | none => []
  | some l => [cmd b pr l]
def ordS (s : List UInt8) (b : Nat) : List Say := match s with
  | c :: t => if c.toNat = 63 then ordTail true t b else ordTail false s b
  | [] => ordTail false [] b
/-- a byte that does not end a command -/
def midB (c : UInt8) : Prop := c.toNat < 64 ∨ 127 < c.toNat
def foldC : PS → List UInt8 → PS
  | p, [] => p
  | p, c :: t => foldC (cmdS p c.toNat).1 t
theorem foldC_snoc : ∀ (s : List UInt8) (p : PS) (c : UInt8), foldC p (s ++ [c]) = (cmdS (foldC p s) c.toNat).1
  | [], _, _ => rfl
  | _ :: s, _, c => foldC_snoc s _ c
def answer (pr : Bool) (b : Nat) : Option (List Int) → List Say
  | none => []
  | some l => [cmd b pr l]
theorem fin_wrong {p : PS} (h : p.wrong = true) (b : Nat) : (finS p b).2 = [] := by unfold finS; simp [h]
theorem fin_numbered {p : PS} (h : p.wrong = false) (hn : p.numbered = true) (b : Nat) : (finS p b).2 = [cmd b p.priv (push p.nums p.number)] := by
  unfold finS keepS push; simp [h, hn]
theorem fin_plain {p : PS} (h : p.wrong = false) (hn : p.numbered = false) (b : Nat) : (finS p b).2 = [cmd b p.priv p.nums] := by
  unfold finS; simp [h, hn]
theorem cmd_digit (p : PS) {c : Nat} (h : 48 ≤ c ∧ c ≤ 57) : cmdS p c = ({ p with begun := true, number := min (10 * p.number + ((c : Int) - 48)) 9999, numbered := true }, []) := by
  unfold cmdS; rw [if_pos h]
theorem cmd_sep (p : PS) {c : Nat} (h : c = 59 ∨ c = 58) : cmdS p c = ({ keepS { p with begun := true } with numbered := true }, []) := by
  unfold cmdS; rw [if_neg (by omega), if_pos h]
theorem cmd_wrong (p : PS) {c : Nat} (h1 : ¬ (48 ≤ c ∧ c ≤ 57)) (h2 : ¬ (c = 59 ∨ c = 58)) (h3 : ¬ (c = 63 ∧ p.begun = false)) (h4 : c < 64 ∨ 127 < c) : cmdS p c = ({ p with begun := true, wrong := true }, []) := by
  unfold cmdS; rw [if_neg h1, if_neg h2, if_neg h3, if_pos h4]
theorem cmd_priv (p : PS) {c : Nat} (h1 : c = 63) (h2 : p.begun = false) : cmdS p c = ({ p with begun := true, priv := true }, []) := by
  unfold cmdS; rw [if_neg (by omega), if_neg (by omega), if_pos ⟨h1, h2⟩]
theorem cmd_mid_none (p : PS) {c : UInt8} (h : midB c) : (cmdS p c.toNat).2 = [] := by
  unfold cmdS
  unfold midB at h
  split
  · rfl
  · split
    · rfl
    · split
      · rfl
      · rfl
theorem cmd_keeps_wrong (p : PS) {c : UInt8} (h : midB c) (hw : p.wrong = true) : (cmdS p c.toNat).1.wrong = true := by
  unfold cmdS
  unfold midB at h
  split
  · exact hw
  · split
    · exact hw
    · split
      · exact hw
      · rfl
theorem fold_wrong : ∀ (t : List UInt8) (p : PS), (∀ c ∈ t, midB c) → p.wrong = true → (foldC p t).wrong = true
  | [], _, _, h => h
  | c :: t, p, hm, h => fold_wrong t _ (fun x hx => hm x (by simp [hx])) (cmd_keeps_wrong p (hm c (by simp)) h)
theorem min_swap (a b : Int) : min (10 * a + (b - 48)) 9999 = min 9999 (10 * a + b - 48) := by omega
theorem fold_numbered (b : Nat) : ∀ (t : List UInt8) (p : PS), (∀ c ∈ t, midB c) → p.begun = true → p.numbered = true → p.wrong = false → (finS (foldC p t) b).2 = answer p.priv b (ordGo p.number p.nums t)
  | [], p, _, _, hn, hw => by rw [foldC, fin_numbered hw hn]; rfl
  | c :: t, p, hm, hb, hn, hw => by
    have hm' : ∀ x ∈ t, midB x := fun x hx => hm x (by simp [hx])
    rw [foldC, ordGo]
    by_cases h1 : 48 ≤ c.toNat ∧ c.toNat ≤ 57
    · rw [if_pos h1, cmd_digit p h1]
      refine (fold_numbered b t { p with begun := true, number := min (10 * p.number + ((c.toNat : Int) - 48)) 9999, numbered := true } hm' rfl rfl hw).trans ?_
      simp only
      rw [min_swap]
    · rw [if_neg h1]
      by_cases h2 : c.toNat = 59 ∨ c.toNat = 58
      · rw [if_pos h2, cmd_sep p h2]
        exact (fold_numbered b t { keepS { p with begun := true } with numbered := true } hm' rfl rfl hw).trans rfl
      · rw [if_neg h2, cmd_wrong p h1 h2 (fun e => by rw [hb] at e; exact absurd e.2 (by decide)) (hm c (by simp))]
        exact (fin_wrong (fold_wrong t { p with begun := true, wrong := true } hm' rfl) b).trans rfl
theorem tail_eq (b : Nat) (p : PS) (t : List UInt8) (hm : ∀ c ∈ t, midB c) (hb : p.begun = true ∨ (∀ c, t.head? = some c → c.toNat ≠ 63)) (hn : p.numbered = false) (hw : p.wrong = false) (hnum : p.number = 0) (hnums : p.nums = []) : (finS (foldC p t) b).2 = ordTail p.priv t b := by
  cases t with
  | nil => rw [foldC, fin_plain hw hn, hnums]; rfl
  | cons c t =>
    have hm' : ∀ x ∈ t, midB x := fun x hx => hm x (by simp [hx])
    unfold ordTail
    rw [if_neg (by simp), foldC, ordGo]
    by_cases h1 : 48 ≤ c.toNat ∧ c.toNat ≤ 57
    · rw [if_pos h1, cmd_digit p h1]
      refine (fold_numbered b t { p with begun := true, number := min (10 * p.number + ((c.toNat : Int) - 48)) 9999, numbered := true } hm' rfl rfl hw).trans ?_
      simp only
      rw [min_swap, hnum, hnums]
      cases ordGo (min 9999 (10 * 0 + (c.toNat : Int) - 48)) [] t <;> rfl
    · rw [if_neg h1]
      by_cases h2 : c.toNat = 59 ∨ c.toNat = 58
      · rw [if_pos h2, cmd_sep p h2]
        refine (fold_numbered b t { keepS { p with begun := true } with numbered := true } hm' rfl rfl hw).trans ?_
        have e : (keepS { p with begun := true }).nums = push [] 0 := by unfold keepS push; simp [hnums, hnum]
        simp only [e]
        show answer p.priv b (ordGo 0 (push [] 0) t) = _
        cases ordGo 0 (push [] 0) t <;> rfl
      · rw [if_neg h2, cmd_wrong p h1 h2 (fun e => by
          rcases hb with h | h
          · rw [h] at e; exact absurd e.2 (by decide)
          · exact h c rfl e.1) (hm c (by simp))]
        exact fin_wrong (fold_wrong t { p with begun := true, wrong := true } hm' rfl) b
theorem order_eq (b : Nat) (s : List UInt8) (hm : ∀ c ∈ s, midB c) : (finS (foldC (fresh 3) s) b).2 = ordS s b := by
  unfold ordS
  cases s with
  | nil => exact tail_eq b (fresh 3) [] hm (.inr (fun c h => by cases h)) rfl rfl rfl rfl
  | cons c t =>
    simp only
    by_cases h : c.toNat = 63
    · rw [if_pos h, foldC, cmd_priv (fresh 3) h rfl]
      exact tail_eq b _ t (fun x hx => hm x (by simp [hx])) (.inl rfl) rfl rfl rfl rfl
    · rw [if_neg h]
      exact tail_eq b (fresh 3) (c :: t) hm (.inr (fun x hx => by cases hx; exact h)) rfl rfl rfl rfl
theorem fin_begun (p : PS) (b : Nat) : (finS { p with begun := true } b).2 = (finS p b).2 := by
  unfold finS keepS
  simp only
  split
  · rfl
  · split <;> rfl
end Go.Proofs.YtfapmgecebcfaaaDoor.Q
