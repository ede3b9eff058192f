/- The contract of the document's mend. -/
import Derived.Test.YtkggmcnocpgnbaaDoorMerged1
namespace Go.Proofs.YtkggmcnocpgnbaaDoor.K
open Go.RowKit

/-- what stands ahead of the j-th one, mended, is a Left -/
def leftAt (l : List Cel) (j : Nat) : Bool := match j with
  | 0 => false
  | k + 1 => decide (((mend l).getD k (blk 0)).part = 1)
theorem mendG_get : ∀ (l : List Cel) (p : Bool) (j : Nat) (h : j < l.length), (mendG p l)[j]? = some (fixC (match j with | 0 => p | k + 1 => decide (((mendG p l).getD k (blk 0)).part = 1)) l[j] (l.drop (j + 1)))
  | c :: t, p, 0, _ => rfl
  | c :: t, p, 1, h => by
    have := mendG_get t (decide ((fixC p c t).part = 1)) 0 (by simpa using h)
    simp only [mendG, List.getElem?_cons_succ, List.drop_succ_cons] at this ⊢
    rw [this]
    rfl
  | c :: t, p, k + 2, h => by
    have := mendG_get t (decide ((fixC p c t).part = 1)) (k + 1) (by simp at h; omega)
    simp only [mendG, List.getElem?_cons_succ, List.drop_succ_cons] at this ⊢
    rw [this]
    simp only [List.getElem_cons_succ, List.getD_cons_succ]
theorem mend_get (l : List Cel) (j : Nat) (h : j < l.length) : (mend l)[j]? = some (fixC (leftAt l j) l[j] (l.drop (j + 1))) := by
  unfold mend
  rw [mendG_get l false j h]
  cases j <;> rfl
theorem set3 {w : World} {p : Nat} {t : TypeId} {a b c a' b' c' : Value} (h : w.heap[p]? = some (.cells #[a, b, c] t (0, 0))) : (((w.setCell ⟨p, 0, none⟩ a').setCell ⟨p, 1, none⟩ b').setCell ⟨p, 2, none⟩ c').heap[p]? = some (.cells #[a', b', c'] t (0, 0)) := by
  simp [World.setCell, Array.getElem?_modify, h]
theorem mend_snoc (l : List Cel) (j : Nat) (h : j < l.length) : (mend l).take (j + 1) = (mend l).take j ++ [fixC (leftAt l j) l[j] (l.drop (j + 1))] := by
  have hj : j < (mend l).length := by rw [mend_length]; exact h
  rw [List.take_succ_eq_append_getElem hj]
  have := mend_get l j h
  rw [List.getElem?_eq_getElem hj] at this
  rw [Option.some.inj this]

set_option maxRecDepth 100000 in
set_option maxHeartbeats 8000000 in
theorem refMend_any (a : Option Addr) (n c : Nat) (l : List Cel) (w : World) (hI : CelsIn .i64 a n l w) (hn : (n : Int) ≤ 1000000) : Calls Tryd.prog 117 #[.slice a n c] w (RowPost .i64 107 w.heap.size (mend l) false w) := by
  obtain ⟨rb, hrb⟩ : ∃ rb, w.heap.size = rb := ⟨_, rfl⟩
  rw [hrb]
  obtain ⟨M, hM⟩ : ∃ M, mend l = M := ⟨_, rfl⟩
  obtain ⟨P, hP⟩ : ∃ P, RowPost .i64 107 rb (mend l) false w = P := ⟨_, rfl⟩
  rw [hP]
  have HP := Lib.hid hP
  have hln := hI.len
  have HI := Lib.hid hI
  obtain ⟨w1, hw1⟩ : ∃ w1, w.alloc (.cells #[.slice none 0 0, .bool false] 38) = w1 := ⟨_, rfl⟩
  obtain ⟨w2, hw2⟩ : ∃ w2, w1.alloc (.cells #[] 107) = w2 := ⟨_, rfl⟩
  have hb1 : Below rb w w1 := by rw [← hw1, ← hrb]; exact (Below.refl _ _).alloc (Nat.le_refl _) _
  have hr1 : RoB 38 rb (.slice none 0 0) false w1 := by rw [← hw1, ← hrb]; exact RoB.new _ _ _ _
  have hs1 : w1.heap.size = rb + 1 := by rw [← hw1, World.size_alloc, hrb]
  have hb2 : Below rb w w2 := by rw [← hw2]; exact hb1.alloc (by omega) _
  have hr2 : RoB 38 rb (.slice none 0 0) false w2 := by rw [← hw2]; exact hr1.belowAll ((Below.refl _ _).alloc (Nat.le_refl _) _)
  have ho2 : OwnC .i64 107 (rb + 1) (.slice (some ⟨rb + 1, 0, none⟩) 0 0) ((mend l).take 0) w2 := by
    have h := OwnC.lit .i64 107 w1 (rb + 1) (by omega)
    rw [hs1, hw2] at h
    exact h
  have HB2 := Lib.hid hb2
  have HR2 := Lib.hid hr2
  have HO2 := Lib.hid ho2
  have hlt2 : rb + 1 ≤ w2.heap.size := hr2.lt
  have HW1 := Lib.hid hw1
  have HW2 := Lib.hid hw2
  have HRb := Lib.hid hrb
  have HS1 := Lib.hid hs1
  have HLn := Lib.hid hln
  clear hP hM hw1 hw2 hb1 hr1 hs1 hb2 hr2 ho2 hrb hI hln
  go_enter Tryd.func117, Tryd.ntmps117
  go_upto_region 1 with fail
  rw [HW1.out, HRb.out]
  go_upto_region 2 with fail
  rw [HW2.out, HS1.out]
  go_wp2_with fail
  go_loopw [3, 10] (fun o i wr => ∃ j : Nat, i = .int .i64 (j : Int) ∧ j ≤ n ∧ rb + 1 ≤ wr.heap.size ∧ Hid (Below rb w wr ∧ OwnC .i64 107 (rb + 1) o ((mend l).take j) wr ∧ RoB 38 rb (.slice none 0 0) false wr)) (fun _ i _ => n - (intOf i).toNat)
  case atStart => exact ⟨0, rfl, by omega, hlt2, Lib.hid ⟨HB2.out, HO2.out, HR2.out⟩⟩
  case round =>
    obtain ⟨j, rfl, hj, hlw, HF⟩ := hrel
    by_cases hlt : j < n
    · have hd : decide (j < n) = true := by simp; omega
      have hjl : j < l.length := by rw [← HLn.out]; exact hlt
      obtain ⟨b, off, rfl, hbl, hAt⟩ := HI.out.at_.resolve_left (by intro e; rw [e] at hjl; simp at hjl)
      rw [HRb.out] at hbl
      have hblk : wr.heap[b]? = w.heap[b]? := HF.out.1.block b hbl
      have hat := (hAt j l[j] (List.getElem?_eq_getElem hjl)).block hblk
      obtain ⟨cc, hcc⟩ : ∃ cc, l[j] = cc := ⟨_, rfl⟩
      have hsn := mend_snoc l j hjl
      rw [hcc] at hat hsn
      obtain ⟨a3, c3, he3, hin3, -⟩ := HF.out.2.1.shape
      obtain ⟨n3, hn3⟩ : ∃ n3, ((mend l).take j).length = n3 := ⟨_, rfl⟩
      have hn3j : n3 = j := by rw [← hn3, List.length_take, mend_length]; omega
      rw [hn3, hn3j] at he3 hin3
      subst he3
      obtain ⟨nb, hnb⟩ : ∃ nb, wr.heap.size = nb := ⟨_, rfl⟩
      obtain ⟨R, S, T⟩ := cc
      have x0 := hat.c0
      have x1 := hat.c1
      have x2 := hat.c2
      simp only at x0 x1 x2
      obtain ⟨w5, hw5⟩ : ∃ w5, wr.alloc (.cells #[.int .i64 R, .int .i64 S, .int .i64 T] 107) = w5 := ⟨_, rfl⟩
      have hblk5 : w5.heap[nb]? = some (.cells #[.int .i64 R, .int .i64 S, .int .i64 T] 107 (0, 0)) := by rw [← hw5, ← hnb]; exact World.alloc_heap_new _ _
      have hb5 : Below wr.heap.size wr w5 := by rw [← hw5]; exact (Below.refl _ _).alloc (Nat.le_refl _) _
      have e0 : w5.cell? ⟨nb, 0, none⟩ = some (.int .i64 R) := by simp [World.cell?, hblk5]
      have e1 : w5.cell? ⟨nb, 1, none⟩ = some (.int .i64 S) := by simp [World.cell?, hblk5]
      have e2 : w5.cell? ⟨nb, 2, none⟩ = some (.int .i64 T) := by simp [World.cell?, hblk5]
      obtain ⟨bd, hbd⟩ : ∃ bd, badC (leftAt l j) ⟨R, S, T⟩ (l.drop (j + 1)) = bd := ⟨_, rfl⟩
      have HW5 := Lib.hid hw5
      have HNb := Lib.hid hnb
      have HB5 := Lib.hid hb5
      have HBlk5 := Lib.hid hblk5
      have HSn := Lib.hid hsn
      have HBd := Lib.hid hbd
      have HIn3 := Lib.hid hin3
      have HAt := Lib.hid hAt
      have hld : (l.drop (j + 1)).length = n - (j + 1) := by rw [List.length_drop, HLn.out]
      have HLd := Lib.hid hld
      have hfb : ∀ o, w5.frozen? ⟨nb, o, none⟩ = false := fun o => by simp [World.frozen?, hblk5]
      have f5_0 := hfb 0
      have f5_1 := hfb 1
      have f5_2 := hfb 2
      clear hw5 hnb hb5 hblk5 hsn hbd hin3 hAt hat hblk hn3 hn3j hcc hld hfb
      go_upto_region 5 with fail
      rw [HW5.out, HNb.out]
      clear x0 x1 x2
      go_upto_block 2 with (fail)
      go_cut [6] (fun t6 wx => t6 = .bool bd ∧ wx = w5)
      case first =>
        by_cases h1 : T = 1
        · subst h1
          by_cases hlast : j + 1 = n
          · have hbt : bd = true := by
              rw [← HBd.out]
              have : l.drop (j + 1) = [] := List.eq_nil_of_length_eq_zero (by rw [HLd.out]; omega)
              rw [this]; rfl
            subst hbt
            have q1 : ((j : Int) + 1 == (n : Int)) = true := by rw [beq_iff_eq]; omega
            go_wp2_with fail
            go_meet
            exact ⟨rfl, rfl⟩
          · have hj1 : j + 1 < l.length := by rw [← HLn.out]; omega
            have hd1 : l.drop (j + 1) = l[j + 1] :: l.drop (j + 2) := List.drop_eq_getElem_cons hj1
            have hbt : bd = decide (l[j + 1].part ≠ 2) := by rw [← HBd.out, hd1]; rfl
            have hat2 := (HAt.out (j + 1) l[j + 1] (List.getElem?_eq_getElem hj1)).block (HF.out.1.block b hbl)
            have hat3 := hat2.block (HB5.out.block b (Nat.lt_of_lt_of_le hbl (by omega)))
            have y2 := hat3.c2
            rw [show off + (j + 1) * 3 + 2 = off + (j + 1) * 3 + 2 from rfl] at y2
            have q1 : ((j : Int) + 1 == (n : Int)) = false := by rw [beq_eq_false_iff_ne]; omega
            have hjn : (j : Int) + 1 < n := by omega
            obtain ⟨T2, hT2⟩ : ∃ T2, l[j + 1].part = T2 := ⟨_, rfl⟩
            rw [hT2] at y2 hbt
            clear hd1 hat2 hat3 hT2
            by_cases hT : T2 = 2
            · subst hT
              obtain rfl : bd = false := by rw [hbt]; rfl
              clear hbt
              go_wp2_with fail
              go_meet
              exact ⟨rfl, rfl⟩
            · obtain rfl : bd = true := by rw [hbt]; simp [hT]
              have q2 : (T2 != 2) = true := by rw [bne_iff_ne]; exact hT
              clear hbt
              go_wp2_with fail
              go_meet
              exact ⟨rfl, rfl⟩
        · have p1 : (T == 1) = false := by rw [beq_eq_false_iff_ne]; exact h1
          by_cases h2 : T = 2
          · subst h2
            have hbt : bd = !(leftAt l j) := by rw [← HBd.out]; rfl
            by_cases hj0 : j = 0
            · subst hj0
              obtain rfl : bd = true := by rw [hbt]; rfl
              clear hbt h1
              go_wp2_with fail
              go_meet
              exact ⟨rfl, rfl⟩
            · obtain ⟨k, rfl⟩ : ∃ k, j = k + 1 := ⟨j - 1, by omega⟩
              have hkl : k < ((mend l).take (k + 1)).length := by rw [List.length_take, mend_length, HLn.out.symm]; omega
              obtain ⟨b3, o3, rfl, hb3, hAt3⟩ := HIn3.out.at_.resolve_left (by intro e; rw [e] at hkl; simp at hkl)
              have hg3 := (hAt3 k _ (List.getElem?_eq_getElem hkl)).block (HB5.out.block b3 hb3)
              have y2 := hg3.c2
              have hkm : k < (mend l).length := by rw [mend_length, HLn.out.symm]; omega
              have hge : ((mend l).take (k + 1))[k] = (mend l)[k] := List.getElem_take
              rw [hge] at y2
              have hbt2 : bd = !(decide ((mend l)[k].part = 1)) := by rw [hbt]; unfold leftAt; simp only [List.getD_eq_getElem?_getD, List.getElem?_eq_getElem hkm, Option.getD_some]
              obtain ⟨T2, hT2⟩ : ∃ T2, (mend l)[k].part = T2 := ⟨_, rfl⟩
              rw [hT2] at y2 hbt2
              have q0 : (((k + 1 : Nat) : Int) == 0) = false := by rw [beq_eq_false_iff_ne]; omega
              have hk1 : ((k + 1 : Nat) : Int) - 1 = (k : Int) := by omega
              clear hkl hg3 hge hT2 hbt h1 hAt3 hj0
              by_cases hT : T2 = 1
              · subst hT
                obtain rfl : bd = false := by rw [hbt2]; rfl
                clear hbt2
                go_wp2_with fail
                go_meet
                exact ⟨rfl, rfl⟩
              · obtain rfl : bd = true := by rw [hbt2]; simp [hT]
                have q2 : (T2 != 1) = true := by rw [bne_iff_ne]; exact hT
                clear hbt2
                go_wp2_with fail
                go_meet
                exact ⟨rfl, rfl⟩
          · have p2 : (T == 2) = false := by rw [beq_eq_false_iff_ne]; exact h2
            by_cases h3 : T = 3
            · subst h3
              have hbt : bd = decide ((j : Int) < (n : Int) - 1) := by
                rw [← HBd.out]
                by_cases hlast : j + 1 = n
                · have : l.drop (j + 1) = [] := List.eq_nil_of_length_eq_zero (by rw [HLd.out]; omega)
                  rw [this]
                  have : decide ((j : Int) < (n : Int) - 1) = false := by simp; omega
                  rw [this]; rfl
                · have hj1 : j + 1 < l.length := by rw [← HLn.out]; omega
                  rw [List.drop_eq_getElem_cons hj1]
                  have : decide ((j : Int) < (n : Int) - 1) = true := by simp; omega
                  rw [this]; rfl
              have HBt := Lib.hid hbt
              clear hbt h1 h2
              go_wp2_with fail
              go_meet
              exact ⟨by rw [HBt.out], rfl⟩
            · have p3 : (T == 3) = false := by rw [beq_eq_false_iff_ne]; exact h3
              obtain rfl : bd = false := by rw [← HBd.out]; unfold badC; rw [if_neg h1, if_neg h2, if_neg h3]
              clear h1 h2 h3
              go_wp2_with fail
              go_meet
              exact ⟨rfl, rfl⟩
      case rest =>
      obtain ⟨rfl, rfl⟩ := hcut
      have HLen : Hid ((((mend l).take j).length : Int) ≤ 1000000) := Lib.hid (by rw [List.length_take]; omega)
      cases bd with
      | false =>
        have hc' : Hid ((mend l).take (j + 1) = (mend l).take j ++ [⟨R, S, T⟩]) := Lib.hid (by rw [HSn.out]; unfold fixC; rw [HBd.out]; rfl)
        have HO5 := Lib.hid (HF.out.2.1.belowAll HB5.out)
        go_wp2_with (refine wpList_add_cell refT (rb + 1) _ ((mend l).take j) ⟨R, S, T⟩ rfl rfl rfl HO5.out HLen.out (Nat.le_trans hlw HB5.out.size) ?_)
        intro v' w' hown hbel hlw'
        have HI' : Hid (Below rb w w' ∧ OwnC .i64 107 (rb + 1) v' ((mend l).take (j + 1)) w' ∧ RoB 38 rb (.slice none 0 0) false w') := Lib.hid (by
          have hw : Below (rb + 1) wr w' := hbel wr (HB5.out.mono hlw)
          exact ⟨HF.out.1.trans (hw.mono (by omega)), by rw [hc'.out]; exact hown, HF.out.2.2.below hw (by omega)⟩)
        clear hown hbel
        go_wp2
        go_roundw
        case rel => exact ⟨j + 1, by go_num, by omega, hlw', HI'⟩
        case measure => simp [intOf]; omega
      | true =>
        have hc' : Hid ((mend l).take (j + 1) = (mend l).take j ++ [blk S]) := Lib.hid (by rw [HSn.out]; unfold fixC; rw [HBd.out]; rfl)
        obtain ⟨w6, hw6⟩ : ∃ w6, ((wc.setCell ⟨nb, 0, none⟩ (.int .i64 32)).setCell ⟨nb, 1, none⟩ (.int .i64 S)).setCell ⟨nb, 2, none⟩ (.int .i64 0) = w6 := ⟨_, rfl⟩
        have hnb : wr.heap.size ≤ nb := Nat.le_of_eq HNb.out
        have hb6 : Below wr.heap.size wr w6 := by
          rw [← hw6]
          exact ((HB5.out.setCell (p := ⟨nb, 0, none⟩) hnb _).setCell (p := ⟨nb, 1, none⟩) hnb _).setCell (p := ⟨nb, 2, none⟩) hnb _
        have hblk6 : w6.heap[nb]? = some (.cells #[.int .i64 32, .int .i64 S, .int .i64 0] 107 (0, 0)) := by rw [← hw6]; exact set3 HBlk5.out
        have g0 : w6.cell? ⟨nb, 0, none⟩ = some (.int .i64 32) := by simp [World.cell?, hblk6]
        have g1 : w6.cell? ⟨nb, 1, none⟩ = some (.int .i64 S) := by simp [World.cell?, hblk6]
        have g2 : w6.cell? ⟨nb, 2, none⟩ = some (.int .i64 0) := by simp [World.cell?, hblk6]
        have HO6 := Lib.hid (HF.out.2.1.belowAll hb6)
        have HB6 := Lib.hid hb6
        have HW6 := Lib.hid hw6
        clear hw6 hb6 hblk6 hnb
        go_upto_region 15 with fail
        rw [HW6.out]
        clear e0 e1 e2
        go_wp2_with (refine wpList_add_cell refT (rb + 1) _ ((mend l).take j) (blk S) rfl rfl rfl HO6.out HLen.out (Nat.le_trans hlw HB6.out.size) ?_)
        intro v' w' hown hbel hlw'
        have HI' : Hid (Below rb w w' ∧ OwnC .i64 107 (rb + 1) v' ((mend l).take (j + 1)) w' ∧ RoB 38 rb (.slice none 0 0) false w') := Lib.hid (by
          have hw : Below (rb + 1) wr w' := hbel wr (HB6.out.mono hlw)
          exact ⟨HF.out.1.trans (hw.mono (by omega)), by rw [hc'.out]; exact hown, HF.out.2.2.below hw (by omega)⟩)
        clear hown hbel
        go_wp2
        go_roundw
        case rel => exact ⟨j + 1, by go_num, by omega, hlw', HI'⟩
        case measure => simp [intOf]; omega
    · obtain rfl : j = n := by omega
      have hd : decide ((j : Int) < (j : Int)) = false := by simp
      have hta : (mend l).take j = mend l := List.take_of_length_le (by rw [mend_length, HLn.out]; exact Nat.le_refl _)
      obtain ⟨a5, c5, he, -⟩ := HF.out.2.1.shape
      rw [hta] at he
      obtain ⟨n5, hn5⟩ : ∃ n5, (mend l).length = n5 := ⟨_, rfl⟩
      rw [hn5] at he
      subst he
      clear hn5
      have c0 := HF.out.2.2.c0
      have c1 := HF.out.2.2.c1
      have f0 := HF.out.2.2.fr 0
      have f1 := HF.out.2.2.fr 1
      have HTa := Lib.hid hta
      clear hta
      go_wp2_with fail
      refine bodyPost_ret (v := .agg #[.slice a5 n5 c5, .bool false]) (by rw [results_cell (fn := Tryd.f117) rfl]; go_simp <;> rfl) rfl ?_
      rw [← HP.out, ← HTa.out]
      exact ⟨_, rfl, (HF.out.2.1.set2 (Nat.lt_succ_self rb) _ _).weaken (by omega), below_set2 HF.out.1 (Nat.le_refl _)⟩
end Go.Proofs.YtkggmcnocpgnbaaDoor.K
