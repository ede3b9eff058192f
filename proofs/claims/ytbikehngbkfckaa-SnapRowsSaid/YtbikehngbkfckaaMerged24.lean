/- The contracts of the document's own reader: Read, Raw, ReadText, End. -/
import Derived.Test.YtbikehngbkfckaaMerged3
import Derived.Lib.QuietBelow
import Derived.BigQuiet
import Derived.Laws.ResultCell
import Derived.Test.YtbikehngbkfckaaMerged1
import Derived.Test.YtbikehngbkfckaaMerged11
namespace Go.Proofs.Ytbikehngbkfckaa.I
open Go.RowKit

/-- The reader's struct. -/
def inV (s : ByteArray) (e : Nat) : Value := .agg #[.string s, .int .i64 e]
/-- A number's step, without wrapping. -/
theorem scale_step (N x k : Nat) (hN : N < 128 ^ k) (hk : k < 9) (hx : x < 128) : ∃ C y Z : Nat, 128 ^ (min k 8) = C ∧ x * C = y ∧ N + y = Z ∧ (C : Int) ≤ 72057594037927936 ∧ (y : Int) ≤ 9223372036854775807 ∧ (Z : Int) ≤ 9223372036854775807 ∧ Hid (Z = N + x * 128 ^ k ∧ Z < 128 ^ (k + 1)) := by
  have e8 : min k 8 = k := by omega
  have h8 : 128 ^ k ≤ 128 ^ 8 := Nat.pow_le_pow_right (by decide) (by omega)
  have hmul : x * 128 ^ k ≤ 127 * 128 ^ k := Nat.mul_le_mul_right _ (by omega)
  have hlt : N + x * 128 ^ k < 128 ^ (k + 1) := by rw [Nat.pow_succ]; omega
  refine ⟨128 ^ k, x * 128 ^ k, N + x * 128 ^ k, by rw [e8], rfl, rfl, by omega, by omega, by omega, Lib.hid ⟨rfl, hlt⟩⟩

set_option maxRecDepth 100000 in
set_option maxHeartbeats 1000000 in
theorem refread_any (s : ByteArray) (hs : (s.size : Int) ≤ 1000000) (e : Nat) (he : e ≠ 0 → s.data.toList = []) (w : World) :
    Calls Try.prog 33 #[inV s e] w fun en w' => ∃ t : ByteArray, en = .returned (.tuple #[inV t (numS s.data.toList e).1.2, .int .i64 (numS s.data.toList e).2]) ∧ t.data.toList = (numS s.data.toList e).1.1 ∧ (t.size : Int) ≤ 1000000 ∧ Below w.heap.size w w' := by
  by_cases h0 : e = 0
  · subst h0
    obtain ⟨v, sz, er, hfs⟩ : ∃ v sz er, firstS s.data.toList = (v, sz, er) := ⟨_, _, _, rfl⟩
    have HN : Hid (numS s.data.toList 0 = if er = 0 then ((s.data.toList.drop sz, 0), v) else (([], er), 0)) := Lib.hid (by
      unfold numS
      rw [hfs]
      by_cases her : er = 0
      · simp [her]
      · simp [her, failS])
    have HS : Hid (scan (s.data.toList.drop 0) 0 0 = (v, sz, er)) := Lib.hid (by simpa [firstS] using hfs)
    obtain ⟨R, hR⟩ : ∃ R, numS s.data.toList 0 = R := ⟨_, rfl⟩
    rw [hR] at HN ⊢
    clear hfs hR he
    unfold inV
    go_enter Try.func33, Try.ntmps33
    go_wp2_with fail
    go_loop [4, 5, 6] (fun c sc i => ∃ k N C : Nat, k ≤ 9 ∧ i = .int .i64 k ∧ c = .int .i64 N ∧ sc = .int .i64 C ∧ (k : Int) ≤ s.size ∧ (C : Int) ≤ 72057594037927936 ∧ (N : Int) ≤ 9223372036854775807 ∧ Hid (C = 128 ^ (min k 8) ∧ N < 128 ^ k ∧ scan (s.data.toList.drop k) k N = (v, sz, er))) (fun _ _ i => 9 - (intOf i).toNat)
    case atStart => exact ⟨0, 0, 1, by omega, rfl, rfl, rfl, by omega, by decide, by decide, Lib.hid ⟨by decide, by decide, HS.out⟩⟩
    case round =>
      obtain ⟨k, N, C, hk, rfl, rfl, rfl, hks, hC, hN, hF⟩ := hrel
      by_cases h9 : k = 9
      · subst h9
        have hres : (0, 0, 1) = (v, sz, er) := by
          rw [← hF.out.2.2]
          cases s.data.toList.drop 9 <;> simp [scan]
        have HR : Hid (R = (([], 1), 0)) := Lib.hid (by cases hres; exact HN.out)
        clear hres
        go_wp2
        all_goals (try simp only [Exit.inBlock, Exit.then])
        all_goals refine bodyPost_ret (v := .tuple #[.agg #[.string ⟨#[]⟩, .int .i64 (1 : Nat)], .int .i64 (0 : Nat)]) (by rw [results_cell_tmp rfl]; go_simp) rfl ?_
        all_goals rw [HR.out]
        all_goals exact ⟨_, rfl, rfl, by decide, by (repeat' (first | exact Below.refl _ _ | refine Below.drew ?_ | refine Below.alloc ?_ (by simp <;> omega) _))⟩
      · by_cases hend : k = s.size
        · have hres : (0, 0, 2) = (v, sz, er) := by
            rw [← hF.out.2.2, List.drop_of_length_le (by show s.size ≤ k; omega)]
            simp [scan]
            omega
          have HR : Hid (R = (([], 2), 0)) := Lib.hid (by cases hres; exact HN.out)
          have hke : (k : Int) = (s.size : Int) := by omega
          clear hres hend
          go_wp2
          all_goals (try simp only [Exit.inBlock, Exit.then])
          all_goals refine bodyPost_ret (v := .tuple #[.agg #[.string ⟨#[]⟩, .int .i64 (2 : Nat)], .int .i64 (0 : Nat)]) (by rw [results_cell_tmp rfl]; go_simp) rfl ?_
          all_goals rw [HR.out]
          all_goals exact ⟨_, rfl, rfl, by decide, by (repeat' (first | exact Below.refl _ _ | refine Below.drew ?_ | refine Below.alloc ?_ (by simp <;> omega) _))⟩
        · have hks' : k < s.size := by omega
          have hb : (s[k].toNat : Int) < 256 := by have := s[k].toNat_lt; omega
          obtain ⟨x, hx⟩ : ∃ x : Nat, s[k].toNat % 128 = x := ⟨_, rfl⟩
          have e1 : ((s[k].toNat : Int)).tmod 128 = (x : Int) := by rw [← hx]; rfl
          have hx128 : (x : Int) < 128 := by omega
          have HX := Lib.hid hx
          clear hx
          obtain ⟨C', y, Z, hC', hy, hZ, hC72, hy63, hZ63, hZZ⟩ := scale_step N x k hF.out.2.1 (by omega) (by omega)
          obtain rfl : C' = C := by rw [← hC', hF.out.1]
          have e2 : (x : Int) * (C' : Int) = (y : Int) := by rw [← hy, Int.natCast_mul]
          have e3 : (N : Int) + (y : Int) = (Z : Int) := by omega
          have hstep : scan (s[k] :: s.data.toList.drop (k + 1)) k N = (v, sz, er) := by
            have h := hF.out.2.2
            rwa [drop_cons s k hks'] at h
          simp only [scan] at hstep
          rw [if_neg (by omega), HX.out, ← hZZ.out.1] at hstep
          have HSt := Lib.hid hstep
          have HC := Lib.hid hC'
          clear hstep hy hC'
          by_cases h128 : 128 ≤ (s[k].toNat : Int)
          · have h2 := HSt.out
            rw [if_pos (by omega)] at h2
            have H2 := Lib.hid h2
            clear h2
            by_cases hk8 : k < 8
            · obtain ⟨C2, hC2⟩ : ∃ C2, 128 ^ (min (k + 1) 8) = C2 := ⟨_, rfl⟩
              have e4 : (C' : Int) * 128 = (C2 : Int) := by rw [← hC2, ← HC.out, show min (k + 1) 8 = k + 1 from by omega, show min k 8 = k from by omega, Nat.pow_succ]; simp
              have hC2b : (C2 : Int) ≤ 72057594037927936 := by
                have := Nat.pow_le_pow_right (n := 128) (by decide) (by omega : min (k + 1) 8 ≤ 8)
                omega
              have HC2 := Lib.hid hC2
              clear hC2
              go_wp2
              go_round
              case rel => exact ⟨k + 1, Z, C2, by omega, by go_num, rfl, rfl, by omega, hC2b, hZ63, Lib.hid ⟨HC2.out.symm, hZZ.out.2, H2.out⟩⟩
              case measure => simp [intOf]; omega
            · have HC8 : Hid (128 ^ (min (k + 1) 8) = C') := Lib.hid (by rw [← HC.out, show min (k + 1) 8 = min k 8 from by omega])
              go_wp2
              go_round
              case rel => exact ⟨k + 1, Z, C', by omega, by go_num, rfl, rfl, by omega, hC72, hZ63, Lib.hid ⟨HC8.out.symm, hZZ.out.2, H2.out⟩⟩
              case measure => simp [intOf]; omega
          · have h2 := HSt.out
            rw [if_neg (by omega)] at h2
            by_cases hbad : 0 < k ∧ s[k].toNat = 0
            · rw [if_pos (.inl hbad)] at h2
              obtain ⟨hk0, hb0⟩ := hbad
              have hb0' : ((s[k].toNat : Int) == 0) = true := by rw [beq_iff_eq]; omega
              have HR : Hid (R = (([], 1), 0)) := Lib.hid (by cases h2; exact HN.out)
              clear h2 hb0
              go_wp2
              all_goals (try simp only [Exit.inBlock, Exit.then])
              all_goals refine bodyPost_ret (v := .tuple #[.agg #[.string ⟨#[]⟩, .int .i64 (1 : Nat)], .int .i64 (0 : Nat)]) (by rw [results_cell_tmp rfl]; go_simp) rfl ?_
              all_goals rw [HR.out]
              all_goals exact ⟨_, rfl, rfl, by decide, by (repeat' (first | exact Below.refl _ _ | refine Below.drew ?_ | refine Below.alloc ?_ (by simp <;> omega) _))⟩
            · by_cases htop : top < Z
              · rw [if_pos (.inr htop)] at h2
                have HR : Hid (R = (([], 1), 0)) := Lib.hid (by cases h2; exact HN.out)
                have htop' : (4611686018427387904 : Int) < Z := by unfold top at htop; omega
                clear h2 htop
                by_cases hk0 : 0 < k
                · have hb0' : ((s[k].toNat : Int) == 0) = false := by rw [beq_eq_false_iff_ne]; omega
                  clear hbad
                  go_wp2
                  all_goals (try simp only [Exit.inBlock, Exit.then])
                  all_goals refine bodyPost_ret (v := .tuple #[.agg #[.string ⟨#[]⟩, .int .i64 (1 : Nat)], .int .i64 (0 : Nat)]) (by rw [results_cell_tmp rfl]; go_simp) rfl ?_
                  all_goals rw [HR.out]
                  all_goals exact ⟨_, rfl, rfl, by decide, by (repeat' (first | exact Below.refl _ _ | refine Below.drew ?_ | refine Below.alloc ?_ (by simp <;> omega) _))⟩
                · clear hbad
                  go_wp2
                  all_goals (try simp only [Exit.inBlock, Exit.then])
                  all_goals refine bodyPost_ret (v := .tuple #[.agg #[.string ⟨#[]⟩, .int .i64 (1 : Nat)], .int .i64 (0 : Nat)]) (by rw [results_cell_tmp rfl]; go_simp) rfl ?_
                  all_goals rw [HR.out]
                  all_goals exact ⟨_, rfl, rfl, by decide, by (repeat' (first | exact Below.refl _ _ | refine Below.drew ?_ | refine Below.alloc ?_ (by simp <;> omega) _))⟩
              · rw [if_neg (by omega)] at h2
                have HR : Hid (R = ((s.data.toList.drop (k + 1), 0), Z)) := Lib.hid (by cases h2; exact HN.out)
                have HX2 : Hid ((s.extract (k + 1) s.size).data.toList = s.data.toList.drop (k + 1)) := Lib.hid (by
                  rw [ByteArray.data_extract]
                  simp
                  rw [List.take_of_length_le (by rw [List.length_drop]; exact Nat.le_refl _)])
                have htop' : (Z : Int) ≤ 4611686018427387904 := by unfold top at htop; omega
                clear h2 htop
                by_cases hk0 : 0 < k
                · have hb0' : ((s[k].toNat : Int) == 0) = false := by rw [beq_eq_false_iff_ne]; omega
                  clear hbad
                  go_wp2
                  all_goals (try simp only [Exit.inBlock, Exit.then])
                  all_goals refine bodyPost_ret (v := .tuple #[.agg #[.string (s.extract (k + 1) s.size), .int .i64 (0 : Nat)], .int .i64 (Z : Nat)]) (by rw [results_cell_tmp rfl]; go_simp) rfl ?_
                  all_goals rw [HR.out]
                  all_goals exact ⟨_, rfl, HX2.out, by simp; omega, by (repeat' (first | exact Below.refl _ _ | refine Below.drew ?_ | refine Below.alloc ?_ (by simp <;> omega) _))⟩
                · clear hbad
                  go_wp2
                  all_goals (try simp only [Exit.inBlock, Exit.then])
                  all_goals refine bodyPost_ret (v := .tuple #[.agg #[.string (s.extract (k + 1) s.size), .int .i64 (0 : Nat)], .int .i64 (Z : Nat)]) (by rw [results_cell_tmp rfl]; go_simp) rfl ?_
                  all_goals rw [HR.out]
                  all_goals exact ⟨_, rfl, HX2.out, by simp; omega, by (repeat' (first | exact Below.refl _ _ | refine Below.drew ?_ | refine Below.alloc ?_ (by simp <;> omega) _))⟩
  · have hl := he h0
    have hr : numS s.data.toList e = (([], e), 0) := by rw [hl]; simp [numS, firstS, scan, failS, h0]
    rw [hr]
    have ht : ((e : Int) == 0) = false := by rw [beq_eq_false_iff_ne]; omega
    have ht2 : ((e : Int) != 0) = true := by rw [bne_iff_ne]; omega
    have HL := Lib.hid hl
    clear hr he h0 hl
    unfold inV
    go_enter Try.func33, Try.ntmps33
    go_wp2
    (try simp only [Exit.inBlock, Exit.then])
    refine bodyPost_ret (v := .tuple #[.agg #[.string s, .int .i64 e], .int .i64 0]) (by rw [results_cell_tmp rfl]; go_simp) rfl ?_
    exact ⟨_, rfl, HL.out, hs, ((Below.refl _ _).alloc (Nat.le_refl _) _).alloc (by simp) _⟩
end Go.Proofs.Ytbikehngbkfckaa.I

/- The contract of the document's Read of a line. -/
namespace Go.Proofs.Ytbikehngbkfckaa.K
open Go.RowKit Go.Proofs.Ytbikehngbkfckaa.I

theorem numS_err {l : List UInt8} {e : Nat} (h : (numS l e).1.2 ≠ 0) (he : e = 0) : (numS l e).2 = 0 := by
  subst he
  unfold numS at h ⊢
  split
  · rename_i h2; rw [if_pos h2] at h; exact absurd rfl h
  · rfl
structure RdI (rb : Nat) (s : ByteArray) (e : Nat) (w wr : World) : Prop where
  below : Below rb w wr
  i : wr.heap[rb]? = some (.cells #[.string s, .int .i64 (e : Int)] 48 (0, 0))
  o : wr.heap[rb + 1]? = some (.cells #[.string ⟨#[]⟩, .int .i64 0] 48 (0, 0))
section
variable {rb : Nat} {s s' : ByteArray} {e e' : Nat} {w wr w' : World}
theorem RdI.size (h : RdI rb s e w wr) : rb + 2 ≤ wr.heap.size := (Array.getElem?_eq_some_iff.1 h.o).1
theorem RdI.more (h : RdI rb s e w wr) (hb : Below (rb + 2) wr w') : RdI rb s e w w' :=
  ⟨h.below.trans (hb.mono (by omega)), (hb.block rb (by omega)).trans h.i, (hb.block (rb + 1) (by omega)).trans h.o⟩
theorem RdI.set (h : RdI rb s e w wr) (s' : ByteArray) (e' : Nat) : RdI rb s' e' w ((wr.setCell ⟨rb, 0, none⟩ (.string s')).setCell ⟨rb, 1, none⟩ (.int .i64 (e' : Int))) := by
  refine ⟨(h.below.setCell (p := ⟨rb, 0, none⟩) (Nat.le_refl _) _).setCell (p := ⟨rb, 1, none⟩) (Nat.le_refl _) _, by simp [World.setCell, Array.getElem?_modify, h.i], ?_⟩
  rw [Below.heap_setCell _ _ _ _ (by show rb + 1 ≠ rb; omega), Below.heap_setCell _ _ _ _ (by show rb + 1 ≠ rb; omega)]
  exact h.o
theorem RdI.outB (h : RdI rb s e w wr) (v v' : Value) : Below rb w ((wr.setCell ⟨rb + 1, 0, none⟩ v).setCell ⟨rb + 1, 1, none⟩ v') := (h.below.setCell (p := ⟨rb + 1, 0, none⟩) (by show rb ≤ rb + 1; omega) _).setCell (p := ⟨rb + 1, 1, none⟩) (by show rb ≤ rb + 1; omega) _
end
theorem atS_over {st : Sta} {m : Nat} {l1 : List UInt8} {v : Nat} (hn : numS st.1 st.2 = ((l1, 0), v)) (h : ¬ v ≤ m) : atS st m = (([], 1), 0) := by
  unfold atS
  rw [hn]
  rw [if_neg h]
  unfold failS
  rw [if_neg (by simp)]
theorem atS_in {st : Sta} {m : Nat} {s1 : Sta} {v : Nat} (hn : numS st.1 st.2 = (s1, v)) (h : v ≤ m) : atS st m = (s1, v) := by
  unfold atS
  rw [hn, if_pos h]
end Go.Proofs.Ytbikehngbkfckaa.K

/- The contract of the document's limited: a number, at most so great. -/
namespace Go.Proofs.Ytbikehngbkfckaa.K
open Go.RowKit Go.Proofs.Ytbikehngbkfckaa.I

/-- what it leaves -/
def LimPost (q : Sta × Nat) (w : World) (e : Ending) (w' : World) : Prop := ∃ t : ByteArray, e = .returned (.tuple #[.agg #[.string t, .int .i64 (q.1.2 : Int)], .int .i64 (q.2 : Int)]) ∧ t.data.toList = q.1.1 ∧ (t.size : Int) ≤ 1000000 ∧ Below w.heap.size w w'
theorem numS_bad (s : Sta) (hs : InOk s) (h : (numS s.1 s.2).1.2 ≠ 0) : (numS s.1 s.2).2 = 0 := by
  obtain ⟨l, e⟩ := s
  by_cases he : e = 0
  · exact numS_err h he
  · have hl : l = [] := hs he
    subst hl
    have := numS_stuck e he
    simp only [this]
set_option maxRecDepth 100000 in
set_option maxHeartbeats 16000000 in
theorem nlim_any (s : ByteArray) (hs : (s.size : Int) ≤ 1000000) (st : Sta) (hst : s.data.toList = st.1) (hok : InOk st) (m : Nat) (hm : (m : Int) ≤ 2000000) (w : World) : Calls Try.prog 34 #[.agg #[.string s, .int .i64 (st.2 : Int)], .int .i64 (m : Int)] w (LimPost (atS st m) w) := by
  obtain ⟨rb, hrb⟩ : ∃ rb, w.heap.size = rb := ⟨_, rfl⟩
  obtain ⟨P, hP⟩ : ∃ P, LimPost (atS st m) w = P := ⟨_, rfl⟩
  rw [hP]
  have HP := Lib.hid hP
  obtain ⟨l0, e0⟩ := st
  simp only at hst
  obtain ⟨w2, hw2⟩ : ∃ w2, (w.alloc (.cells #[.string s, .int .i64 (e0 : Int)] 48)).alloc (.cells #[.string ⟨#[]⟩, .int .i64 0] 48) = w2 := ⟨_, rfl⟩
  have hi2 : RdI rb s e0 w w2 := by
    rw [← hw2, ← hrb]
    have b1 : Below w.heap.size w (w.alloc (.cells #[.string s, .int .i64 (e0 : Int)] 48)) := (Below.refl _ _).alloc (Nat.le_refl _) _
    refine ⟨b1.alloc (by rw [World.size_alloc]; omega) _, ?_, ?_⟩
    · rw [Below.heap_alloc _ _ _ (by rw [World.size_alloc]; omega)]
      exact heap_alloc_new w _
    · have h := heap_alloc_new (w.alloc (.cells #[.string s, .int .i64 (e0 : Int)] 48)) (.cells #[.string ⟨#[]⟩, .int .i64 0] 48)
      rw [World.size_alloc] at h
      exact h
  have HI2 := Lib.hid hi2
  have HW2 := Lib.hid hw2
  have HRb := Lib.hid hrb
  have HR := Lib.hid (refread_any s hs e0 (fun h => by rw [hst]; exact hok h) w2)
  have c0 : w2.cell? ⟨rb, 0, none⟩ = some (.string s) := by simp [World.cell?, hi2.i]
  have c1 : w2.cell? ⟨rb, 1, none⟩ = some (.int .i64 (e0 : Int)) := by simp [World.cell?, hi2.i]
  obtain ⟨⟨⟨l1, e1⟩, v⟩, hn1⟩ : ∃ q, numS s.data.toList e0 = q := ⟨_, rfl⟩
  rw [hn1] at HR
  unfold inV at HR
  rw [hst] at hn1
  have HN1 : Hid (numS ((l0, e0) : Sta).1 ((l0, e0) : Sta).2 = ((l1, e1), v)) := Lib.hid hn1
  have HEr1 : Hid (e1 ≠ 0 → v = 0) := Lib.hid (fun h => by have h2 := numS_bad (l0, e0) hok (by simp only [hn1]; exact h); simp only [hn1] at h2; exact h2)
  clear hP hst hok hi2 hw2 hrb hn1
  go_enter Try.func34, Try.ntmps34
  go_upto_region 1 with fail
  rw [HW2.out, HRb.out]
  go_wp2_with fail
  refine HR.out.mono ?_
  rintro e w3 ⟨t3, rfl, ht3, hz3, hb3⟩
  have hi3 := HI2.out.more (hb3.mono HI2.out.size)
  obtain ⟨xb, hxb⟩ : ∃ xb, w3.heap.size = xb := ⟨_, rfl⟩
  obtain ⟨w4, hw4⟩ : ∃ w4, w3.alloc (.cells #[.string t3, .int .i64 (e1 : Int)] 48) = w4 := ⟨_, rfl⟩
  have hb4 : Below w3.heap.size w3 w4 := by rw [← hw4]; exact (Below.refl _ _).alloc (Nat.le_refl _) _
  have hi4 := hi3.more (hb4.mono hi3.size)
  have hx4 : w4.heap[xb]? = some (.cells #[.string t3, .int .i64 (e1 : Int)] 48 (0, 0)) := by rw [← hw4, ← hxb]; exact heap_alloc_new w3 _
  have HI4 := Lib.hid hi4
  have HT3 : Hid (t3.data.toList = l1 ∧ (t3.size : Int) ≤ 1000000) := Lib.hid ⟨ht3, hz3⟩
  have HW4 := Lib.hid hw4
  have HXb := Lib.hid hxb
  have x0 : w4.cell? ⟨xb, 0, none⟩ = some (.string t3) := by simp [World.cell?, hx4]
  have x1 : w4.cell? ⟨xb, 1, none⟩ = some (.int .i64 (e1 : Int)) := by simp [World.cell?, hx4]
  have o0 : w4.cell? ⟨rb + 1, 0, none⟩ = some (.string ⟨#[]⟩) := by simp [World.cell?, hi4.o]
  have o1 : w4.cell? ⟨rb + 1, 1, none⟩ = some (.int .i64 0) := by simp [World.cell?, hi4.o]
  have g0 : w4.frozen? ⟨rb + 1, 0, none⟩ = false := by simp [World.frozen?, hi4.o]
  have g1 : w4.frozen? ⟨rb + 1, 1, none⟩ = false := by simp [World.frozen?, hi4.o]
  clear ht3 hz3 hb3 hi3 hw4 HR HI2 c0 c1 hxb hb4 hi4 hx4
  go_upto_region 2 with fail
  rw [HW4.out, HXb.out]
  by_cases hov : e1 = 0 ∧ ¬ v ≤ m
  · obtain ⟨rfl, hv⟩ := hov
    have d1 : decide ((v : Int) > (m : Int)) = true := decide_eq_true (by omega)
    have d2 : decide (m < v) = true := decide_eq_true (by omega)
    have hend : Hid (P (.returned (.tuple #[.agg #[.string ⟨#[]⟩, .int .i64 1], .int .i64 0])) ((w4.setCell ⟨rb + 1, 0, none⟩ (.string ⟨#[]⟩)).setCell ⟨rb + 1, 1, none⟩ (.int .i64 1))) := Lib.hid (by
      rw [← HP.out]
      unfold LimPost
      rw [atS_over HN1.out hv]
      exact ⟨_, rfl, rfl, by decide, by rw [HRb.out]; exact HI4.out.outB _ _⟩)
    clear hv
    go_wp2_with fail
    refine bodyPost_ret (v := .tuple #[.agg #[.string ⟨#[]⟩, .int .i64 1], .int .i64 0]) (by rw [results_cell_tmp rfl]; go_simp) rfl ?_
    exact hend.out
  · have hv : v ≤ m := by
      by_cases h0 : e1 = 0
      · exact Decidable.not_not.1 (fun h => hov ⟨h0, h⟩)
      · have := HEr1.out h0; omega
    have hat : atS (l0, e0) m = ((l1, e1), v) := atS_in HN1.out hv
    have d1 : decide ((v : Int) > (m : Int)) = false := decide_eq_false (by omega)
    have d2 : decide (m < v) = false := decide_eq_false (by omega)
    have hway : ((e1 : Int) == 0) = true ∨ ((e1 : Int) == 0) = false := by cases (e1 : Int) == 0 <;> simp
    have hend : Hid (P (.returned (.tuple #[.agg #[.string t3, .int .i64 (e1 : Int)], .int .i64 (v : Int)])) ((w4.setCell ⟨rb + 1, 0, none⟩ (.string t3)).setCell ⟨rb + 1, 1, none⟩ (.int .i64 (e1 : Int)))) := Lib.hid (by
      rw [← HP.out]
      unfold LimPost
      rw [hat]
      exact ⟨_, rfl, HT3.out.1, HT3.out.2, by rw [HRb.out]; exact HI4.out.outB _ _⟩)
    clear hov hv hat
    rcases hway with hq | hq
    all_goals
      go_wp2_with fail
      refine bodyPost_ret (v := .tuple #[.agg #[.string t3, .int .i64 (e1 : Int)], .int .i64 (v : Int)]) (by rw [results_cell_tmp rfl]; go_simp) rfl ?_
      exact hend.out
end Go.Proofs.Ytbikehngbkfckaa.K
