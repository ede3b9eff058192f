/- The program's row: nearest, blank, stray. -/
import Derived.Test.YtkggmcnocpgnbaaDoorKMend
import Derived.Lib.SliceRun
import Derived.Laws.Bits64b
namespace Go.Proofs.YtkggmcnocpgnbaaDoor.K
open Go.RowKit

def nearS (n most : Int) : Int := min (max n 0) most
theorem nearest_any (n most : Int) (w : World) : Calls Tryd.prog 49 #[.int .i64 n, .int .i64 most] w fun e w' => e = .returned (.int .i64 (nearS n most)) ∧ w = w' := by
  unfold nearS
  obtain ⟨N, hN⟩ : ∃ N, max n 0 = N := ⟨_, rfl⟩
  rw [hN]
  obtain ⟨M, hM⟩ : ∃ M, min N most = M := ⟨_, rfl⟩
  rw [hM]
  go_enter Tryd.func49, Tryd.ntmps49
  go_wp2
  go_ret
  exact ⟨rfl, rfl⟩
theorem nearS_nat (n : Int) (m : Nat) : ∃ k : Nat, nearS n m = (k : Int) ∧ k ≤ m := ⟨(nearS n m).toNat, by unfold nearS; omega, by unfold nearS; omega⟩
/-- a cell that is a result -/
theorem blank_any (s : Int) (w : World) : Calls Tryd.prog 86 #[.int .i64 s] w fun e w' => e = .returned (.agg #[.int .i32 32, .int .i64 s, .int .i64 0]) ∧ Below w.heap.size w w' := by
  go_enter Tryd.func86, Tryd.ntmps86
  go_wp2
  refine bodyPost_ret (v := .agg #[.int .i32 32, .int .i64 s, .int .i64 0]) (by rw [results_cell (fn := Tryd.f86) rfl]; go_simp <;> rfl) rfl ?_
  refine ⟨rfl, ?_⟩
  first
    | exact (((((Below.refl _ _).alloc (Nat.le_refl _) _).setCell (p := ⟨w.heap.size, 0, none⟩) (Nat.le_refl _) _).setCell (p := ⟨w.heap.size, 1, none⟩) (Nat.le_refl _) _).setCell (p := ⟨w.heap.size, 2, none⟩) (Nat.le_refl _) _)
    | exact (Below.refl _ _).alloc (Nat.le_refl _) _
/-- the i-th cell of these is stray, as they stand -/
def strayS (m : List Cel) (i : Nat) : Bool := badC (match i with | 0 => false | k + 1 => decide ((m.getD k (blk 0)).part = 1)) (m.getD i (blk 0)) (m.drop (i + 1))
end Go.Proofs.YtkggmcnocpgnbaaDoor.K

/- The contract of the program's stray. -/
namespace Go.Proofs.YtkggmcnocpgnbaaDoor.K
open Go.RowKit

set_option maxRecDepth 100000 in
set_option maxHeartbeats 4000000 in
theorem stray_any (a : Option Addr) (n c i : Nat) (m : List Cel) (w : World) (hI : CelsIn .i32 a n m w) (hi : i < n) (hn : (n : Int) ≤ 1000000) :
    Calls Tryd.prog 109 #[.slice a n c, .int .i64 (i : Int)] w fun e w' => e = .returned (.bool (strayS m i)) ∧ w = w' := by
  obtain ⟨bd, hbd⟩ : ∃ bd, strayS m i = bd := ⟨_, rfl⟩
  rw [hbd]
  have hil : i < m.length := by rw [← hI.len]; exact hi
  obtain ⟨b, off, rfl, hb, hAt⟩ := hI.at_.resolve_left (by intro e; rw [e] at hil; simp at hil)
  have hat := hAt i m[i] (List.getElem?_eq_getElem hil)
  have hgd : m.getD i (blk 0) = m[i] := by simp [List.getD_eq_getElem?_getD, List.getElem?_eq_getElem hil]
  have hbd' := hbd
  unfold strayS at hbd'
  rw [hgd] at hbd'
  obtain ⟨T, hT⟩ : ∃ T, m[i].part = T := ⟨_, rfl⟩
  have x2 := hat.c2
  rw [hT] at x2
  have hld : (m.drop (i + 1)).length = n - (i + 1) := by rw [List.length_drop, hI.len]
  have HLn := Lib.hid hI.len
  have HLd := Lib.hid hld
  have HBd := Lib.hid hbd'
  have HT := Lib.hid hT
  have HAt := Lib.hid hAt
  have HB := Lib.hid hb
  clear hbd hbd' hgd hT hat hld hAt hI hb
  have hin : (i : Int) < n := by omega
  by_cases h1 : T = 1
  · subst h1
    by_cases hlast : i + 1 = n
    · have hbt : bd = true := by
        rw [← HBd.out]
        have : m.drop (i + 1) = [] := List.eq_nil_of_length_eq_zero (by rw [HLd.out]; omega)
        rw [this]; unfold badC; rw [HT.out]; rfl
      subst hbt
      have q1 : ((i : Int) + 1 == (n : Int)) = true := by rw [beq_iff_eq]; omega
      go_enter Tryd.func109, Tryd.ntmps109
      go_wp2
      go_ret
      exact ⟨rfl, rfl⟩
    · have hj1 : i + 1 < m.length := by rw [← HLn.out]; omega
      have hd1 : m.drop (i + 1) = m[i + 1] :: m.drop (i + 2) := List.drop_eq_getElem_cons hj1
      have hbt : bd = decide (m[i + 1].part ≠ 2) := by rw [← HBd.out, hd1]; unfold badC; rw [HT.out]; rfl
      have hat2 := HAt.out (i + 1) m[i + 1] (List.getElem?_eq_getElem hj1)
      have y2 := hat2.c2
      have q1 : ((i : Int) + 1 == (n : Int)) = false := by rw [beq_eq_false_iff_ne]; omega
      have hjn : (i : Int) + 1 < n := by omega
      obtain ⟨T2, hT2⟩ : ∃ T2, m[i + 1].part = T2 := ⟨_, rfl⟩
      rw [hT2] at y2 hbt
      clear hd1 hat2 hT2
      by_cases hT : T2 = 2
      · subst hT
        obtain rfl : bd = false := by rw [hbt]; rfl
        clear hbt
        go_enter Tryd.func109, Tryd.ntmps109
        go_wp2
        go_ret
        exact ⟨rfl, rfl⟩
      · obtain rfl : bd = true := by rw [hbt]; simp [hT]
        have q2 : (T2 != 2) = true := by rw [bne_iff_ne]; exact hT
        clear hbt
        go_enter Tryd.func109, Tryd.ntmps109
        go_wp2
        go_ret
        exact ⟨rfl, rfl⟩
  · have p1 : (T == 1) = false := by rw [beq_eq_false_iff_ne]; exact h1
    by_cases h2 : T = 2
    · subst h2
      by_cases hj0 : i = 0
      · subst hj0
        obtain rfl : bd = true := by rw [← HBd.out]; unfold badC; rw [HT.out]; rfl
        go_enter Tryd.func109, Tryd.ntmps109
        clear h1
        go_wp2
        go_ret
        exact ⟨rfl, rfl⟩
      · obtain ⟨k, rfl⟩ : ∃ k, i = k + 1 := ⟨i - 1, by omega⟩
        have hkl : k < m.length := by omega
        have hg3 := HAt.out k _ (List.getElem?_eq_getElem hkl)
        have y2 := hg3.c2
        have hbt : bd = !(decide (m[k].part = 1)) := by
          rw [← HBd.out]; unfold badC; rw [HT.out]
          simp [List.getD_eq_getElem?_getD, List.getElem?_eq_getElem hkl]
        obtain ⟨T2, hT2⟩ : ∃ T2, m[k].part = T2 := ⟨_, rfl⟩
        rw [hT2] at y2 hbt
        have q0 : (((k + 1 : Nat) : Int) == 0) = false := by rw [beq_eq_false_iff_ne]; omega
        have hk1 : ((k + 1 : Nat) : Int) - 1 = (k : Int) := by omega
        have hkn : (k : Int) < n := by omega
        clear hg3 hT2 h1 hj0
        by_cases hT : T2 = 1
        · subst hT
          obtain rfl : bd = false := by rw [hbt]; rfl
          clear hbt
          go_enter Tryd.func109, Tryd.ntmps109
          go_wp2
          go_ret
          exact ⟨rfl, rfl⟩
        · obtain rfl : bd = true := by rw [hbt]; simp [hT]
          have q2 : (T2 != 1) = true := by rw [bne_iff_ne]; exact hT
          clear hbt
          go_enter Tryd.func109, Tryd.ntmps109
          go_wp2
          go_ret
          exact ⟨rfl, rfl⟩
    · have p2 : (T == 2) = false := by rw [beq_eq_false_iff_ne]; exact h2
      by_cases h3 : T = 3
      · subst h3
        have hbt : bd = decide ((i : Int) + 1 < (n : Int)) := by
          rw [← HBd.out]
          by_cases hlast : i + 1 = n
          · have : m.drop (i + 1) = [] := List.eq_nil_of_length_eq_zero (by rw [HLd.out]; omega)
            rw [this]
            have : decide ((i : Int) + 1 < (n : Int)) = false := by simp; omega
            rw [this]; unfold badC; rw [HT.out]; rfl
          · have hj1 : i + 1 < m.length := by rw [← HLn.out]; omega
            rw [List.drop_eq_getElem_cons hj1]
            have : decide ((i : Int) + 1 < (n : Int)) = true := by simp; omega
            rw [this]; unfold badC; rw [HT.out]; rfl
        have HBt := Lib.hid hbt
        clear hbt h1 h2
        go_enter Tryd.func109, Tryd.ntmps109
        go_wp2
        go_ret
        exact ⟨by rw [HBt.out]; rfl, rfl⟩
      · have p3 : (T == 3) = false := by rw [beq_eq_false_iff_ne]; exact h3
        obtain rfl : bd = false := by rw [← HBd.out]; unfold badC; rw [HT.out, if_neg h1, if_neg h2, if_neg h3]
        clear h1 h2 h3
        go_enter Tryd.func109, Tryd.ntmps109
        go_wp2
        go_ret
        exact ⟨rfl, rfl⟩
end Go.Proofs.YtkggmcnocpgnbaaDoor.K

/- The contract of the program's mended: cells of our own, in their place. -/
namespace Go.Proofs.YtkggmcnocpgnbaaDoor.K
open Go.RowKit

/-- the first j are mended -/
def partly (l : List Cel) (j : Nat) : List Cel := (mend l).take j ++ l.drop j
theorem partly_length {l : List Cel} {j : Nat} (h : j ≤ l.length) : (partly l j).length = l.length := by
  unfold partly; rw [List.length_append, List.length_take, List.length_drop, mend_length]; omega
theorem partly_zero (l : List Cel) : partly l 0 = l := by simp [partly]
theorem partly_all (l : List Cel) : partly l l.length = mend l := by
  unfold partly; rw [List.drop_length, List.append_nil, List.take_of_length_le (by rw [mend_length]; exact Nat.le_refl _)]
theorem partly_at {l : List Cel} {j : Nat} (h : j < l.length) : (partly l j)[j]? = some l[j] := by
  unfold partly
  have ht : ((mend l).take j).length = j := by rw [List.length_take, mend_length]; omega
  rw [List.getElem?_append_right (by rw [ht]; exact Nat.le_refl _), ht, Nat.sub_self, List.getElem?_drop, Nat.add_zero, List.getElem?_eq_getElem h]
theorem partly_drop {l : List Cel} {j : Nat} (h : j < l.length) : (partly l j).drop (j + 1) = l.drop (j + 1) := by
  unfold partly
  have ht : ((mend l).take j).length = j := by rw [List.length_take, mend_length]; omega
  rw [List.drop_append, ht, List.drop_of_length_le (by rw [ht]; omega), List.nil_append, List.drop_drop, show j + (j + 1 - j) = j + 1 by omega]
theorem partly_before {l : List Cel} {j k : Nat} (h : j ≤ l.length) (hk : k < j) : (partly l j).getD k (blk 0) = (mend l).getD k (blk 0) := by
  unfold partly
  rw [List.getD_eq_getElem?_getD, List.getD_eq_getElem?_getD, List.getElem?_append_left (by rw [List.length_take, mend_length]; omega), List.getElem?_take, if_pos hk]
theorem partly_stray {l : List Cel} {j : Nat} (h : j < l.length) : strayS (partly l j) j = badC (leftAt l j) l[j] (l.drop (j + 1)) := by
  unfold strayS
  have h1 : (partly l j).getD j (blk 0) = l[j] := by rw [List.getD_eq_getElem?_getD, partly_at h]; rfl
  rw [h1, partly_drop h]
  cases j with
  | zero => rfl
  | succ k =>
    unfold leftAt
    simp only
    rw [partly_before (by omega) (Nat.lt_succ_self k)]
theorem partly_succ {l : List Cel} {j : Nat} (h : j < l.length) : partly l (j + 1) = (partly l j).set j (fixC (leftAt l j) l[j] (l.drop (j + 1))) := by
  have ht : ((mend l).take j).length = j := by rw [List.length_take, mend_length]; omega
  unfold partly
  rw [mend_snoc l j h, List.set_append_right (s := (mend l).take j) (h := by rw [ht]; exact Nat.le_refl _), ht, Nat.sub_self, List.append_assoc]
  congr 1
  rw [List.drop_eq_getElem_cons h]
  rfl
theorem partly_same {l : List Cel} {j : Nat} (h : j < l.length) (hb : badC (leftAt l j) l[j] (l.drop (j + 1)) = false) : partly l (j + 1) = partly l j := by
  rw [partly_succ h]
  have : fixC (leftAt l j) l[j] (l.drop (j + 1)) = l[j] := by unfold fixC; rw [hb]; rfl
  rw [this]
  have hlt : j < (partly l j).length := by rw [partly_length (by omega)]; exact h
  have hg : (partly l j)[j] = l[j] := by have := partly_at h; rw [List.getElem?_eq_getElem hlt] at this; exact Option.some.inj this
  rw [← hg, List.set_getElem_self]
theorem partly_bad {l : List Cel} {j : Nat} (h : j < l.length) (hb : badC (leftAt l j) l[j] (l.drop (j + 1)) = true) : partly l (j + 1) = (partly l j).set j (blk l[j].style) := by
  rw [partly_succ h]
  have : fixC (leftAt l j) l[j] (l.drop (j + 1)) = blk l[j].style := by unfold fixC; rw [hb]; rfl
  rw [this]

theorem wpList_store_cel {rk : IntKind} {t T : TypeId} {bytes : Nat} (hI : CelT rk t T bytes) {ops : Array Oper} {rest : List Oper} {o : Oper} {z : Act} {w : World} {Q : Exit → Act → World → Prop} (hgd : o.guard = none) (hd : o.dst = none) (pa pv : Operand) (ho : o.op = .store T pa pv)
    (base g n cap : Nat) (l : List Cel) (i : Nat) (c : Cel) (hpa : z.eval pa = .pointer (some ⟨g, i * 3, none⟩)) (hpv : z.eval pv = .agg (cArr rk c)) (hown : OwnC rk T base (.slice (some ⟨g, 0, none⟩) n cap) l w) (hi : i < n) (hl : l.length = n)
    (hK : ∀ w', OwnC rk T base (.slice (some ⟨g, 0, none⟩) n cap) (l.set i c) w' → w.grownBy w' (some g) → wpList Tryd.prog ops Q rest z w') : wpList Tryd.prog ops Q (o :: rest) z w := by
  subst hl
  exact wpList_store_cell hI hgd hd pa pv ho base g cap l i c hpa hpv hown hi hK
theorem below_grown {base g : Nat} {w0 w w' : World} (h : Below base w0 w) (hg : w.grownBy w' (some g)) (hb : base ≤ g) (hs : base ≤ w.heap.size) : Below base w0 w' :=
  ⟨hg.os.trans h.os, hg.tape.trans h.tape, hg.output.trans h.output, Nat.le_trans h.size hg.size, fun k hk => (hg.block k (Nat.lt_of_lt_of_le hk hs) (fun e => by have := Option.some.inj e; omega)).trans (h.block k hk)⟩
theorem below_set2' {base p : Nat} {w0 w : World} {v0 v1 : Value} (h : Below base w0 w) (hp : base ≤ p) : Below base w0 ((w.setCell ⟨p, 0, none⟩ v0).setCell ⟨p, 1, none⟩ v1) :=
  (h.setCell (p := ⟨p, 0, none⟩) hp _).setCell (p := ⟨p, 1, none⟩) hp _
theorem OwnC.set2ne {rk : IntKind} {T : TypeId} {base : Nat} {v : Value} {l : List Cel} {w : World} (h : OwnC rk T base v l w) {p : Nat} (hp : ∀ q, v.ownBlock = some q → q ≠ p) (v0 v1 : Value) : OwnC rk T base v l ((w.setCell ⟨p, 0, none⟩ v0).setCell ⟨p, 1, none⟩ v1) := by
  have g1 : ∀ (u : World) (o : Nat) (x : Value), u.grownBy (u.setCell ⟨p, o, none⟩ x) (some p) := fun u o x => ⟨rfl, rfl, rfl, (KeepsWalks.setCell u _ x).size, fun i _ hi => Below.heap_setCell _ _ _ i (fun e => hi (by rw [e]))⟩
  have hne : ∀ q, v.ownBlock = some q → some p ≠ some q := fun q hq e => hp q hq (Option.some.inj e).symm
  exact (h.kept (g1 w 0 v0) hne).kept (g1 _ 1 v1) hne

set_option maxRecDepth 100000 in
set_option maxHeartbeats 8000000 in
theorem mended_any (base : Nat) (v : Value) (l : List Cel) (w : World) (hO : OwnC .i32 105 base v l w) (hb : base ≤ w.heap.size) (hn : (l.length : Int) ≤ 1000000) :
    Calls Tryd.prog 84 #[v] w (RowPost .i32 105 base (mend l) false w) := by
  obtain ⟨a, c, rfl, hin, hblk, hnil, hcap, hmx⟩ := hO.shape
  obtain ⟨n, hnl⟩ : ∃ n, l.length = n := ⟨_, rfl⟩
  rw [hnl] at hO hin hcap hn ⊢
  obtain ⟨rb, hrb⟩ : ∃ rb, w.heap.size = rb := ⟨_, rfl⟩
  obtain ⟨P, hP⟩ : ∃ P, RowPost .i32 105 base (mend l) false w = P := ⟨_, rfl⟩
  rw [hP]
  obtain ⟨w1, hw1⟩ : ∃ w1, w.alloc (.cells #[.slice none 0 0, .bool false] 27) = w1 := ⟨_, rfl⟩
  have hb1 : Below base w w1 := by rw [← hw1]; exact (Below.refl _ _).alloc hb _
  have hr1 : RoB 27 rb (.slice none 0 0) false w1 := by rw [← hw1, ← hrb]; exact RoB.new _ _ _ _
  have ho1 : OwnC .i32 105 base (.slice a n c) (partly l 0) w1 := by rw [partly_zero, ← hw1]; exact hO.alloc _
  have hlt1 : rb + 1 ≤ w1.heap.size := hr1.lt
  have hne : ∀ q, (Value.slice a n c).ownBlock = some q → q ≠ rb := fun q hq e => by have := (hO.ownBlock q hq).2; omega
  have HB1 := Lib.hid hb1
  have HR1 := Lib.hid hr1
  have HO1 := Lib.hid ho1
  have HW1 := Lib.hid hw1
  have HRb := Lib.hid hrb
  have HNl := Lib.hid hnl
  have HNe := Lib.hid hne
  have HP := Lib.hid hP
  have HBase := Lib.hid hb
  have HCap := Lib.hid hcap
  have HNil := Lib.hid hnil
  clear hO hin hblk hnil hnl hrb hP hw1 hb1 hr1 ho1 hne hb hcap
  go_enter Tryd.func84, Tryd.ntmps84
  go_upto_region 1 with fail
  rw [HW1.out, HRb.out]
  go_wp2_with fail
  go_loopw [6] (fun i wr => ∃ j : Nat, i = .int .i64 (j : Int) ∧ j ≤ n ∧ rb + 1 ≤ wr.heap.size ∧ Hid (Below base w wr ∧ OwnC .i32 105 base (.slice a n c) (partly l j) wr ∧ RoB 27 rb (.slice none 0 0) false wr)) (fun i _ => n - (intOf i).toNat)
  case atStart => exact ⟨0, rfl, by omega, hlt1, Lib.hid ⟨HB1.out, HO1.out, HR1.out⟩⟩
  case round =>
    obtain ⟨j, rfl, hj, hlw, HF⟩ := hrel
    by_cases hlt : j < n
    · have hd : decide (j < n) = true := by simp; omega
      have hjl : j < l.length := by rw [HNl.out]; exact hlt
      have HS := Lib.hid (partly_stray hjl)
      obtain ⟨bd, hbd⟩ : ∃ bd, badC (leftAt l j) l[j] (l.drop (j + 1)) = bd := ⟨_, rfl⟩
      rw [hbd] at HS
      have HBd := Lib.hid hbd
      have hpl : (partly l j).length = n := by rw [partly_length (by omega), HNl.out]
      have HPl := Lib.hid hpl
      obtain ⟨a', c', he', hin', hbk', -, -, -⟩ := HF.out.2.1.shape
      rw [hpl] at he' hin'
      obtain ⟨rfl, rfl⟩ : a = a' ∧ c = c' := by injection he' with h1 h2 h3; exact ⟨h1, h3⟩
      have hstr := stray_any a n c j (partly l j) wr hin' hlt hn
      rw [HS.out] at hstr
      have HStr := Lib.hid hstr
      have HIn := Lib.hid hin'
      have HBk := Lib.hid hbk'
      clear hbd hpl he' hstr hin' hbk'
      cases bd with
      | false =>
        have HE := Lib.hid (partly_same hjl HBd.out)
        go_wp2_with (go_at_call 109; refine HStr.out.mono ?_; rintro e w' ⟨rfl, rfl⟩)
        go_roundw
        case rel => exact ⟨j + 1, by go_num, by omega, hlw, Lib.hid ⟨HF.out.1, by rw [HE.out]; exact HF.out.2.1, HF.out.2.2⟩⟩
        case measure => simp [intOf]; omega
      | true =>
        have HE := Lib.hid (partly_bad hjl HBd.out)
        have hjp : j < (partly l j).length := by rw [HPl.out]; exact hlt
        obtain ⟨b, off, rfl, hbl, hAt⟩ := HIn.out.at_.resolve_left (by intro e; rw [e] at hjp; simp at hjp)
        obtain ⟨hbb, -, rfl⟩ := HBk.out b off rfl
        have hat := hAt j l[j] (partly_at hjl)
        obtain ⟨S, hS⟩ : ∃ S, l[j].style = S := ⟨_, rfl⟩
        have x1 := hat.c1
        rw [hS, Nat.zero_add] at x1
        rw [hS] at HE
        have HO := Lib.hid HF.out.2.1
        clear hAt hat hS
        go_wp2_with (first | (go_at_call 109; refine HStr.out.mono ?_; rintro e w' ⟨rfl, rfl⟩) | (go_at_call 86; refine (blank_any S wr).mono ?_; rintro e w2 ⟨rfl, hb2⟩) | (refine wpList_store_cel rowT rfl rfl _ _ rfl base b n c (partly l j) j (blk S) rfl rfl (HO.out.belowAll hb2) hlt HPl.out ?_))
        intro w3 hO3 hg3
        have HI' : Hid (Below base w w3 ∧ OwnC .i32 105 base (.slice (some ⟨b, 0, none⟩) n c) (partly l (j + 1)) w3 ∧ RoB 27 rb (.slice none 0 0) false w3) := Lib.hid (by
          have hbs := HF.out.1.size
          have hbr : base ≤ rb := by rw [← HRb.out]; exact HBase.out
          have h2 : Below base w w2 := HF.out.1.trans (hb2.mono (by omega))
          refine ⟨below_grown h2 hg3 hbb (by have := hb2.size; omega), by rw [HE.out]; exact hO3, (HF.out.2.2.belowAll hb2).grown hg3 (fun e => HNe.out b rfl (Option.some.inj e))⟩)
        have hlw3 : rb + 1 ≤ w3.heap.size := HI'.out.2.2.lt
        clear hb2 hO3 hg3
        go_wp2
        go_roundw
        case rel => exact ⟨j + 1, by go_num, by omega, hlw3, HI'⟩
        case measure => simp [intOf]; omega
    · obtain rfl : j = n := by omega
      have hd : decide ((j : Int) < (j : Int)) = false := by simp
      have c0 := HF.out.2.2.c0
      have c1 := HF.out.2.2.c1
      have f0 := HF.out.2.2.fr 0
      have f1 := HF.out.2.2.fr 1
      go_wp2_with fail
      refine bodyPost_ret (v := .agg #[.slice a j c, .bool false]) (by rw [results_cell (fn := Tryd.f84) rfl]; go_simp <;> rfl) rfl ?_
      rw [← HP.out]
      refine ⟨_, rfl, ?_, below_set2' HF.out.1 (by rw [← HRb.out]; exact HBase.out)⟩
      have h := HF.out.2.1.set2ne HNe.out (.slice a j c) (.bool false)
      have e : partly l j = mend l := by rw [← HNl.out]; exact partly_all l
      rw [e] at h
      exact h
end Go.Proofs.YtkggmcnocpgnbaaDoor.K

/- The contracts of slices.Clone at cells, and of a product with 1. -/
namespace Go.Proofs.YtkggmcnocpgnbaaDoor.K
open Go.RowKit

/-- what a call answers that makes cells -/
def CelPost (T : TypeId) (base : Nat) (l : List Cel) (w : World) (e : Ending) (w' : World) : Prop := ∃ v, e = .returned v ∧ OwnC .i32 T base v l w' ∧ Below base w w'

set_option maxRecDepth 100000 in
set_option maxHeartbeats 4000000 in
theorem clone_any (a : Option Addr) (n c : Nat) (l : List Cel) (w : World) (hI : CelsIn .i32 a n l w) (hnil : a = none → c = 0) (hn : (n : Int) ≤ 1000000) :
    Calls Tryd.prog 82 #[.slice a n c] w (CelPost 105 w.heap.size l w) := by
  obtain ⟨P, hP⟩ : ∃ P, CelPost 105 w.heap.size l w = P := ⟨_, rfl⟩
  rw [hP]
  have HP := Lib.hid hP
  cases a with
  | none =>
    obtain rfl := hnil rfl
    obtain rfl : l = [] := by
      rcases hI.at_ with h | ⟨_, _, h, _⟩
      · exact h
      · cases h
    obtain rfl : n = 0 := hI.len
    clear hP hI hnil hn
    have qn : ∀ (w : World), (binOp .eql 25 (.slice none 0 0) (.slice none 0 0)).run Tryd.prog w = .ok (.bool true) w := fun w => Lib.run_eql_slice_nil w _ _ none 0 0 0 0 Tryd.underlying25
    go_enter Tryd.func82, Tryd.ntmps82
    go_wp2_with fail
    rw [← HP.out]
    exact ⟨_, rfl, OwnC.nil _ _ _ _, Below.refl _ _⟩
  | some ad =>
    have hb1 : Below w.heap.size w (w.alloc (.cells #[] 105)) := (Below.refl _ _).alloc (Nat.le_refl _) _
    have HO1 := Lib.hid (OwnC.lit .i32 105 w w.heap.size (Nat.le_refl _))
    have HI1 := Lib.hid (hI.belowAll hb1)
    have HS1 := Lib.hid hb1.size
    have HLn : Hid ((l.length : Int) ≤ 1000000) := Lib.hid (by rw [← hI.len]; exact hn)
    have HB1 := Lib.hid hb1
    clear hP hb1 hI hnil
    have qn : ∀ (w : World), (binOp .eql 25 (.slice (some ad) n c) (.slice none 0 0)).run Tryd.prog w = .ok (.bool false) w := fun w => Lib.run_eql_slice_nil w _ _ (some ad) n c 0 0 Tryd.underlying25
    go_enter Tryd.func82, Tryd.ntmps82
    go_wp2_with (refine wpList_append_cells rowT rfl _ _ rfl rfl w.heap.size _ [] (some ad) n c l rfl rfl HO1.out HI1.out (fun e => by cases e) (by simp) HLn.out HS1.out ?_)
    intro v' w' hown hg
    have HE : Hid (OwnC .i32 105 w.heap.size v' l w' ∧ Below w.heap.size w w') := Lib.hid ⟨by simpa using hown, HB1.out.grown hg.grown HS1.out (fun q hq => (HO1.out.ownBlock q hq).1)⟩
    clear hown hg
    go_wp2
    rw [← HP.out]
    exact ⟨_, rfl, HE.out.1, HE.out.2⟩

theorem u64_and32 (n : Nat) (hn : n ≤ 1000000) : bits .and .u64 (n : Int) 4294967295 = (n : Int) := by
  have h := bits_and_u64_nat n 4294967295 (by omega) (by decide)
  rw [show ((4294967295 : Nat) : Int) = 4294967295 from rfl] at h
  rw [h, show (4294967295 : Nat) = 2 ^ 32 - 1 from rfl, Nat.and_two_pow_sub_one_eq_mod, Nat.mod_eq_of_lt (by omega)]
set_option maxRecDepth 100000 in
set_option maxHeartbeats 4000000 in
theorem mul64_one (n : Nat) (hn : n ≤ 1000000) (w : World) : Calls Tryd.prog 115 #[.int .u64 1, .int .u64 (n : Int)] w fun e w' => e = .returned (.tuple #[.int .u64 0, .int .u64 (n : Int)]) ∧ w = w' := by
  have h1 : bits .and .u64 1 4294967295 = 1 := by decide
  have h2 := u64_and32 n hn
  have h3 : (n : Int) / 4294967296 = 0 := by omega
  have h4 : bits .and .u64 0 4294967295 = 0 := by decide
  go_enter Tryd.func115, Tryd.ntmps115
  go_wp2_with fail
  refine bodyPost_ret (results_tmp2 rfl _ _ _) rfl ?_
  exact ⟨rfl, rfl⟩
set_option maxRecDepth 100000 in
set_option maxHeartbeats 4000000 in
theorem mul_one (n : Nat) (hn : n ≤ 1000000) (w : World) : Calls Tryd.prog 92 #[.int .u64 1, .int .u64 (n : Int)] w fun e w' => e = .returned (.tuple #[.int .u64 0, .int .u64 (n : Int)]) ∧ w = w' := by
  go_enter Tryd.func92, Tryd.ntmps92
  go_wp2_with (go_at_call 115; refine (mul64_one n hn w).mono ?_; rintro e w' ⟨rfl, rfl⟩)
  refine bodyPost_ret (results_tmp2 rfl _ _ _) rfl ?_
  exact ⟨rfl, rfl⟩
end Go.Proofs.YtkggmcnocpgnbaaDoor.K
