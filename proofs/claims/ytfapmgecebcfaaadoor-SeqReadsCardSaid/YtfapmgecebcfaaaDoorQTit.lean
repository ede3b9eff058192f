/- The contract of the document's Titles. -/
import Derived.Test.YtfapmgecebcfaaaDoorQXs
import Derived.Deep.DeepCutAuto
namespace Go.Proofs.YtfapmgecebcfaaaDoor.Q
open Go.RowKit
open Go.Proofs.YtfapmgecebcfaaaDoor.W (OwnI OwnR IntsIn RunesIn)

theorem OwnX.lit (w : World) (base : Nat) (hb : base ≤ w.heap.size) (s : Say) (hs : s.nums = []) : OwnX base (.slice (some ⟨w.heap.size, 0, none⟩) 1 1) [s] (w.alloc (.cells (xArr s (.slice none 0 0)) 47)) :=
  ⟨⟨[(s, .slice none 0 0)], rfl, World.ownsRow_lit w (xArr s (.slice none 0 0)) 1 hb (by decide) rfl, fun r hr => by
    obtain rfl : r = (s, .slice none 0 0) := by simpa using hr
    simp only [hs]
    exact OwnI.nil _ _⟩⟩

set_option maxRecDepth 100000 in
set_option maxHeartbeats 8000000 in
theorem titles_any (S : ByteArray) (hsz : (S.size : Int) ≤ 1000000) (w : World) : Calls Tryd.prog 23 #[.string S] w (XPost w.heap.size (overS (S.data.toList.take 200)) w) := by
  obtain ⟨base, hbase⟩ : ∃ base, w.heap.size = base := ⟨_, rfl⟩
  rw [hbase]
  obtain ⟨T, hT⟩ : ∃ T, S.data.toList = T := ⟨_, rfl⟩
  rw [hT]
  obtain ⟨P, hP⟩ : ∃ P, XPost base (overS (T.take 200)) w = P := ⟨_, rfl⟩
  rw [hP]
  have HP := Lib.hid hP
  have HT := Lib.hid hT
  have hst : S.size = T.length := by rw [← hT]; rfl
  have HSt := Lib.hid hst
  have HBs := Lib.hid hbase
  clear hP hT hst hbase
  go_enter Tryd.func23, Tryd.ntmps23
  go_upto_if 5 with fail
  go_cut [0] (fun t0 wx => ∃ S' : ByteArray, t0 = .string S' ∧ Hid (S'.data.toList = T.take 200) ∧ wx = w)
  case first =>
    by_cases h : 200 < S.size
    · have hd : decide ((200 : Int) < S.size) = true := by simp; omega
      have h2 : (200 : Int) ≤ S.size := by omega
      go_wp2_with fail
      go_meet
      refine ⟨_, rfl, Lib.hid ?_, rfl⟩
      simp [ByteArray.data_extract, Array.toList_extract, List.extract, HT.out]
    · have hd : decide ((200 : Int) < S.size) = false := by simp; omega
      go_wp2_with fail
      go_meet
      exact ⟨S, rfl, Lib.hid (by rw [HT.out, List.take_of_length_le (by rw [← HSt.out]; omega)]), rfl⟩
  case rest =>
  obtain ⟨S', rfl, HS', rfl⟩ := hcut
  obtain ⟨U, hU⟩ : ∃ U, T.take 200 = U := ⟨_, rfl⟩
  have hUl : U.length ≤ 200 := by rw [← hU]; exact List.length_take_le _ _
  rw [hU] at HS' HP
  have hsz' : S'.size = U.length := by rw [← HS'.out]; rfl
  have fin : overS U = [] → P (.returned (.slice none 0 0)) wc := fun e => by
    rw [← HP.out, e]
    exact ⟨_, rfl, OwnX.nil _ _, Below.refl _ _⟩
  have HFin := Lib.hid fin
  have HSz := Lib.hid hsz'
  clear fin hU hsz'
  match U, hUl with
  | [], _ =>
    have hs0 : S'.size = 0 := HSz.out
    go_wp2
    exact HFin.out rfl
  | [a], _ =>
    have hs0 : S'.size = 1 := HSz.out
    go_wp2
    exact HFin.out rfl
  | a :: b :: V, hUl =>
    obtain ⟨N, hN⟩ : ∃ N, V.length + 2 = N := ⟨_, rfl⟩
    have hs2 : S'.size = N := HSz.out.trans hN
    have hN2 : (2 : Int) ≤ N := by omega
    have hd2 : decide ((1 : Int) < N) = true := by simp; omega
    have HN := Lib.hid hN
    have h0 : 0 < S'.size := by omega
    have h1 : 1 < S'.size := by omega
    have hS2 : S' = ⟨⟨a :: b :: V⟩⟩ := bytes_ext HS'.out
    have e0 : S'[0] = a := by subst hS2; rfl
    have e1 : S'[1] = b := by subst hS2; rfl
    have HS2 := Lib.hid hS2
    obtain ⟨A, hA⟩ : ∃ A, a.toNat = A := ⟨_, rfl⟩
    obtain ⟨B, hB⟩ : ∃ B, b.toNat = B := ⟨_, rfl⟩
    have f0 : S'[0].toNat = A := by rw [e0, hA]
    have f1 : S'[1].toNat = B := by rw [e1, hB]
    clear hN hS2
    by_cases hq : (a = 48 ∨ a = 50) ∧ b = 59
    · have ho : overS (a :: b :: V) = [ttl V] := by show (if (a = 48 ∨ a = 50) ∧ b = 59 then [ttl V] else []) = _; rw [if_pos hq]
      have hx : S'.extract 2 N = ⟨⟨V⟩⟩ := by
        apply bytes_ext
        rw [HS2.out, ← HN.out]
        simp [ByteArray.data_extract, Array.toList_extract, List.extract]
      obtain ⟨ha, rfl⟩ := hq
      have hB59 : B = 59 := by rw [← hB]; rfl
      subst hB59
      rw [ho] at HP
      have HX := Lib.hid hx
      clear hx ho hB
      rcases ha with rfl | rfl
      all_goals
        have hA' := hA.symm
        subst hA'
        go_wp2
        rw [← HP.out, HX.out]
        exact ⟨_, rfl, OwnX.lit wc base (Nat.le_of_eq HBs.out.symm) (ttl V) rfl, (Below.refl _ _).alloc (Nat.le_of_eq HBs.out.symm) _⟩
    · have ho : overS (a :: b :: V) = [] := by show (if (a = 48 ∨ a = 50) ∧ b = 59 then [ttl V] else []) = _; rw [if_neg hq]
      by_cases ha : a = 48 ∨ a = 50
      · have hb : b ≠ 59 := fun e => hq ⟨ha, e⟩
        have hB59 : ¬ B = 59 := fun e => hb (by rw [← UInt8.toNat_inj, hB, e]; rfl)
        have qb : ((B : Int) == 59) = false := by rw [beq_eq_false_iff_ne]; omega
        rcases ha with rfl | rfl
        all_goals
          have hA' := hA.symm
          subst hA'
          go_wp2
          exact HFin.out ho
      · have qa : ((A : Int) == 48) = false := by
          rw [beq_eq_false_iff_ne]
          intro e
          exact ha (.inl (by rw [← UInt8.toNat_inj, hA]; show A = 48; omega))
        have qc : ((A : Int) == 50) = false := by
          rw [beq_eq_false_iff_ne]
          intro e
          exact ha (.inr (by rw [← UInt8.toNat_inj, hA]; show A = 50; omega))
        go_wp2
        exact HFin.out ho
end Go.Proofs.YtfapmgecebcfaaaDoor.Q
