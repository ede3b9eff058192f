/- The contract of the document's Glyphs. -/
import Derived.Test.YtkggmcnocpgnbaaDoorMerged1
import Derived.Test.YtkggmcnocpgnbaaDoorMerged9
import Derived.Test.YtkggmcnocpgnbaaDoorKFill
namespace Go.Proofs.YtkggmcnocpgnbaaDoor.K
open Go.RowKit

/-- what the document's Glyphs answers -/
def GlyRPost (base : Nat) (gs : List (Int × Int)) (w : World) (e : Ending) (w' : World) : Prop := ∃ a n c, e = .returned (.slice a n c) ∧ PairsIn .i64 a n c gs w' ∧ Below base w w'
set_option maxRecDepth 100000 in
set_option maxHeartbeats 8000000 in
theorem refGlyphs_any (a : Option Addr) (n c : Nat) (wr0 : Bool) (l : List Cel) (w : World) (hI : CelsIn .i64 a n l w) (hn : (n : Int) ≤ 1000000) (hfit : n ≤ c) (hmx : (c : Int) ≤ 9223372036854775807) :
    Calls Tryd.prog 51 #[.agg #[.slice a n c, .bool wr0]] w (GlyRPost w.heap.size (glyphs ⟨l, wr0⟩) w) := by
  obtain ⟨rb, hrb⟩ : ∃ rb, w.heap.size = rb := ⟨_, rfl⟩
  rw [hrb]
  obtain ⟨P, hP⟩ : ∃ P, GlyRPost rb (glyphs ⟨l, wr0⟩) w = P := ⟨_, rfl⟩
  rw [hP]
  have HP := Lib.hid hP
  have HLn := Lib.hid hI.len
  have HI0 := Lib.hid hI
  obtain ⟨w1, hw1⟩ : ∃ w1, w.alloc (.cells #[.slice a n c, .bool wr0] 38) = w1 := ⟨_, rfl⟩
  have hb1 : Below rb w w1 := by rw [← hw1, ← hrb]; exact (Below.refl _ _).alloc (Nat.le_refl _) _
  have hr1 : RoB 38 rb (.slice a n c) wr0 w1 := by rw [← hw1, ← hrb]; exact RoB.new _ _ _ _
  have hs1 : w1.heap.size = rb + 1 := by rw [← hw1, World.size_alloc, hrb]
  have c0 := hr1.c0
  have c1 := hr1.c1
  have HB1 := Lib.hid hb1
  have HR1 := Lib.hid hr1
  have HS1 := Lib.hid hs1
  have HW1 := Lib.hid hw1
  have HRb := Lib.hid hrb
  clear hP hI hw1 hb1 hr1 hs1 hrb
  go_enter Tryd.func51, Tryd.ntmps51
  go_upto_region 1 with fail
  rw [HW1.out, HRb.out]
  go_wp2_with fail
  go_loopw [3] (fun i wr => ∃ j : Nat, i = .int .i64 (j : Int) ∧ j ≤ n ∧ wr = w1 ∧ Hid (trimS ⟨l.take j, wr0⟩ = trimS ⟨l, wr0⟩)) (fun i _ => (intOf i).toNat)
  case atStart => exact ⟨n, rfl, Nat.le_refl _, rfl, Lib.hid (by rw [HLn.out, List.take_length])⟩
  case round =>
    obtain ⟨j, rfl, hj, rfl, HF⟩ := hrel
    by_cases hgo : 0 < j ∧ wr0 = false ∧ l[j - 1]? = some (blk 0)
    · obtain ⟨hj0, rfl, hb⟩ := hgo
      obtain ⟨k, rfl⟩ : ∃ k, j = k + 1 := ⟨j - 1, by omega⟩
      have hkl : k < l.length := by rw [← HLn.out]; omega
      obtain ⟨b, off, rfl, hbl, hAt⟩ := HI0.out.at_.resolve_left (by intro e; rw [e] at hkl; simp at hkl)
      rw [HRb.out] at hbl
      have hat := (hAt k _ (by simpa using hb)).block (HB1.out.block b hbl)
      have k0 := hat.c0
      have k1 := hat.c1
      have k2 := hat.c2
      have hs := take_last l k hkl
      have hlk : l[k] = blk 0 := by
        have := hb
        rw [Nat.add_sub_cancel, List.getElem?_eq_getElem hkl] at this
        exact Option.some.inj this
      rw [hlk] at hs
      have HF2 : Hid (trimS ⟨l.take k, false⟩ = trimS ⟨l, false⟩) := Lib.hid (by rw [← HF.out, hs, trimS_blank])
      simp only [blk] at k0 k1 k2
      have hsub : ((k + 1 : Nat) : Int) - 1 = (k : Int) := by omega
      have hd : decide (0 < k + 1) = true := by simp
      clear hAt hat hs hlk hb
      go_wp2
      go_roundw
      case rel => exact ⟨k, by go_num, by omega, True.intro, HF2⟩
      case measure => simp [intOf]
    · have hstop : trimS ⟨l, wr0⟩ = l.take j := by
        rw [← HF.out]
        cases hw : wr0
        · by_cases hj0 : j = 0
          · subst hj0; exact trimS_nil _
          · obtain ⟨k, rfl⟩ : ∃ k, j = k + 1 := ⟨j - 1, by omega⟩
            have hkl : k < l.length := by rw [← HLn.out]; omega
            rw [take_last l k hkl]
            exact trimS_stop _ _ (fun e => hgo ⟨by omega, hw, by rw [Nat.add_sub_cancel, List.getElem?_eq_getElem hkl, e]⟩)
        · exact trimS_wrapped _
      have HG : Hid (glyphs ⟨l, wr0⟩ = glF (l.take j)) := Lib.hid (by rw [glyphs_glF, hstop])
      have hwhy : (j = 0) ∨ (0 < j ∧ wr0 = true) ∨ ∃ k b off x s t, j = k + 1 ∧ wr0 = false ∧ a = some ⟨b, off, none⟩ ∧ CelAt .i64 wr b (off + k * 3) ⟨x, s, t⟩ ∧ (x ≠ 32 ∨ (x = 32 ∧ s ≠ 0) ∨ (x = 32 ∧ s = 0 ∧ t ≠ 0)) := by
        by_cases hj0 : j = 0
        · exact .inl hj0
        · refine .inr ?_
          cases hw : wr0
          · refine .inr ?_
            obtain ⟨k, rfl⟩ : ∃ k, j = k + 1 := ⟨j - 1, by omega⟩
            have hkl : k < l.length := by rw [← HLn.out]; omega
            obtain ⟨b, off, rfl, hbl, hAt⟩ := HI0.out.at_.resolve_left (by intro e; rw [e] at hkl; simp at hkl)
            rw [HRb.out] at hbl
            have hat := (hAt k _ (List.getElem?_eq_getElem hkl)).block (HB1.out.block b hbl)
            have hne : l[k] ≠ blk 0 := fun e => hgo ⟨by omega, hw, by rw [Nat.add_sub_cancel, List.getElem?_eq_getElem hkl, e]⟩
            obtain ⟨cl, hcl⟩ : ∃ cl, l[k] = cl := ⟨_, rfl⟩
            rw [hcl] at hat hne
            obtain ⟨x, s, t⟩ := cl
            refine ⟨k, b, off, x, s, t, rfl, rfl, rfl, hat, ?_⟩
            by_cases hx : x = 32
            · by_cases hs : s = 0
              · exact .inr (.inr ⟨hx, hs, fun ht => hne (by rw [hx, hs, ht]; rfl)⟩)
              · exact .inr (.inl ⟨hx, hs⟩)
            · exact .inl hx
          · exact .inl ⟨by omega, rfl⟩
      have HStop := Lib.hid hstop
      clear hgo hstop
      refine Or.elim hwhy (fun h => ?_) (fun h => Or.elim h (fun h => ?_) (fun h => ?_))
      case' refine_1 =>
        have d0 : decide (0 < j) = false := decide_eq_false (by omega)
        clear hwhy h
        go_upto_region 4 with fail
      case' refine_2 =>
        obtain ⟨hj0, rfl⟩ := h
        have d0 : decide (0 < j) = true := decide_eq_true hj0
        clear hwhy
        go_upto_region 4 with fail
      case' refine_3 =>
        obtain ⟨k, b, off, x, s, t, rfl, rfl, rfl, hat, h⟩ := h
        have k0 := hat.c0
        have k1 := hat.c1
        have k2 := hat.c2
        simp only at k0 k1 k2
        have hsub : ((k + 1 : Nat) : Int) - 1 = (k : Int) := by omega
        have hd : decide (0 < k + 1) = true := by simp
        clear hat hwhy
        rcases h with hx | ⟨rfl, hs⟩ | ⟨rfl, rfl, ht⟩
        all_goals go_upto_region 4 with fail
        all_goals
          clear k0 k1 k2 hsub hd
          obtain ⟨j, hjk⟩ : ∃ j, k + 1 = j := ⟨_, rfl⟩
          rw [hjk] at hj HG HF HStop ⊢
          clear hjk
      all_goals
        obtain ⟨w2, hw2⟩ : ∃ w2, wr.alloc (.cells #[] 63) = w2 := ⟨_, rfl⟩
        have hO2 : OwnP .i64 63 (rb + 1) (.slice (some ⟨rb + 1, 0, none⟩) 0 0) (glF (l.take 0)) w2 := by
          have h := OwnP.lit .i64 63 wr (rb + 1) (by rw [HS1.out]; exact Nat.le_refl _)
          rw [HS1.out, hw2] at h
          exact h
        have hb2 : Below (rb + 1) wr w2 := by rw [← hw2]; exact (Below.refl _ _).alloc (by rw [HS1.out]; exact Nat.le_refl _) _
        have HO2 := Lib.hid hO2
        have HB2 := Lib.hid hb2
        have HW2 := Lib.hid hw2
        have hjc : (j : Int) ≤ c := by omega
        have hlw2 : rb + 1 ≤ w2.heap.size := by have := HB2.out.size; have := HS1.out; omega
        have x0 := HB2.out.cell (p := ⟨rb, 0, none⟩) (Nat.lt_succ_self rb)
        rw [HR1.out.c0] at x0
        have hjc' : j ≤ c := by omega
        clear hO2 hb2 hw2
        go_upto_region 5 with fail
        rw [HS1.out, HW2.out]
        obtain ⟨wv, hwv⟩ : ∃ wv, wv = wr := ⟨_, rfl⟩
        subst hwv
        go_wp2_with fail
        go_loopw [4, 35] (fun o i wq => ∃ k : Nat, i = .int .i64 (k : Int) ∧ k ≤ j ∧ rb + 1 ≤ wq.heap.size ∧ Hid (OwnP .i64 63 (rb + 1) o (glF (l.take k)) wq ∧ Below (rb + 1) wv wq)) (fun _ i _ => j - (intOf i).toNat)
        case atStart => exact ⟨0, rfl, by omega, hlw2, Lib.hid ⟨HO2.out, HB2.out⟩⟩
        case round =>
          obtain ⟨k, rfl, hk, hlw, HQ⟩ := hrel
          by_cases hlt : k < j
          · have hd9 : decide (k < j) = true := decide_eq_true hlt
            have hkl : k < l.length := by rw [← HLn.out]; omega
            obtain ⟨b9, o9, ha9, hbl9, hAt9⟩ := HI0.out.at_.resolve_left (by intro e; rw [e] at hkl; simp at hkl)
            first
              | subst ha9
              | (have hE := Option.some.inj ha9
                 injection hE with h1 h2
                 have h1' := h1.symm
                 have h2' := h2.symm
                 subst h1' h2')
            rw [HRb.out] at hbl9
            have hat9 := ((hAt9 k _ (List.getElem?_eq_getElem hkl)).block (HB1.out.block b9 hbl9)).block (HQ.out.2.block b9 (by omega))
            have hsn := take_last l k hkl
            obtain ⟨cl, hcl⟩ : ∃ cl, l[k] = cl := ⟨_, rfl⟩
            rw [hcl] at hat9 hsn
            have HSn : Hid (glF (l.take (k + 1)) = glF (l.take k) ++ glF [cl]) := Lib.hid (by rw [hsn, glF_append])
            have HLe : Hid (((glF (l.take k)).length : Int) ≤ 1000000) := Lib.hid (by have := glF_length (l.take k); rw [List.length_take] at this; omega)
            obtain ⟨x9, s9, t9⟩ := cl
            have m0 := hat9.c0
            have m1 := hat9.c1
            have m2 := hat9.c2
            simp only at m0 m1 m2
            obtain ⟨nb, hnb⟩ : ∃ nb, wr.heap.size = nb := ⟨_, rfl⟩
            obtain ⟨w5, hw5⟩ : ∃ w5, wr.alloc (.cells #[.int .i64 x9, .int .i64 s9, .int .i64 t9] 107) = w5 := ⟨_, rfl⟩
            have hblk5 : w5.heap[nb]? = some (.cells #[.int .i64 x9, .int .i64 s9, .int .i64 t9] 107 (0, 0)) := by rw [← hw5, ← hnb]; exact World.alloc_heap_new _ _
            have hb5 : Below (rb + 1) wv w5 := by rw [← hw5]; exact HQ.out.2.alloc hlw _
            have hO5 := HQ.out.1.alloc (.cells #[.int .i64 x9, .int .i64 s9, .int .i64 t9] 107)
            rw [hw5] at hO5
            have hz5 : w5.heap.size = nb + 1 := by rw [← hw5, World.size_alloc, hnb]
            have e0'' : w5.cell? ⟨nb, 0, none⟩ = some (.int .i64 x9) := by simp [World.cell?, hblk5]
            have e1'' : w5.cell? ⟨nb, 1, none⟩ = some (.int .i64 s9) := by simp [World.cell?, hblk5]
            have e2'' : w5.cell? ⟨nb, 2, none⟩ = some (.int .i64 t9) := by simp [World.cell?, hblk5]
            have HW5 := Lib.hid hw5
            have HNb := Lib.hid hnb
            have HO5 := Lib.hid hO5
            have HB5 := Lib.hid hb5
            have hlw5 : rb + 1 ≤ w5.heap.size := by omega
            clear hAt9 hat9 hsn hcl hblk5 hb5 hO5 hz5 hw5 hnb
            by_cases hp : t9 = 0 ∨ t9 = 1
            · have HSy : Hid (glF (l.take (k + 1)) = glF (l.take k) ++ [(x9, s9)]) := Lib.hid (by rw [HSn.out, glF_yes _ hp])
              rcases hp with rfl | rfl
              all_goals
                go_upto_region 8 with fail
                rw [HW5.out, HNb.out]
                clear m0 m1 m2
                go_wp2_with (at_builtin; refine wpList_append_pair refGluT rfl _ _ rfl rfl (rb + 1) _ (glF (l.take k)) (x9, s9) w5.heap.size rfl rfl (HO5.out.alloc _) (by rw [World.cell?_alloc_new]; rfl) (by rw [World.cell?_alloc_new]; rfl) HLe.out (by rw [World.size_alloc]; omega) ?_)
                intro v' w' hown hgr
                have hbel := (HB5.out.alloc hlw5 _).grown hgr (by rw [World.size_alloc]; omega) (fun q hq => (HO5.out.ownBlock q hq).1)
                have hlw' : rb + 1 ≤ w'.heap.size := by have := hgr.size; rw [World.size_alloc] at this; omega
                rw [← HSy.out] at hown
                have HI' : Hid (OwnP .i64 63 (rb + 1) v' (glF (l.take (k + 1))) w' ∧ Below (rb + 1) wv w') := Lib.hid ⟨hown, hbel⟩
                clear hown hbel hgr
                go_wp2
                go_roundw
                case rel => exact ⟨k + 1, by go_num, by omega, hlw', HI'⟩
                case measure => simp [intOf]; omega
            · have HI' : Hid (OwnP .i64 63 (rb + 1) u4 (glF (l.take (k + 1))) w5 ∧ Below (rb + 1) wv w5) := Lib.hid ⟨by rw [HSn.out, glF_no _ hp, List.append_nil]; exact HO5.out, HB5.out⟩
              have p0 : (t9 == 0) = false := by simp; exact fun e => hp (.inl e)
              have p1 : (t9 == 1) = false := by simp; exact fun e => hp (.inr e)
              clear hp
              go_upto_region 8 with fail
              rw [HW5.out, HNb.out]
              clear m0 m1 m2 HW5 HNb
              go_wp2_with fail
              go_roundw
              case rel => exact ⟨k + 1, by go_num, by omega, hlw5, HI'⟩
              case measure => simp [intOf]; omega
          · obtain rfl : k = j := by omega
            have hd9 : decide ((k : Int) < (k : Int)) = false := by simp
            have hd8 : decide (k < k) = false := by simp
            obtain ⟨a5, c5, he5, hP5, -⟩ := HQ.out.1.shape
            obtain ⟨n5, hn5⟩ : ∃ n5, (glF (l.take k)).length = n5 := ⟨_, rfl⟩
            rw [hn5] at he5 hP5
            subst he5
            have HFin : Hid (PairsIn .i64 a5 n5 c5 (glF (l.take k)) wr ∧ Below rb w wr) := Lib.hid ⟨hP5, HB1.out.trans (HQ.out.2.mono (by omega))⟩
            clear hP5 hn5 HQ
            go_wp2_with fail
            rw [← HP.out, HG.out]
            exact ⟨a5, n5, c5, rfl, HFin.out.1, HFin.out.2⟩

end Go.Proofs.YtkggmcnocpgnbaaDoor.K
