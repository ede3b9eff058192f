/- The contracts of the statements' Told and Any. -/
import Derived.Test.YtkggmcnocpgnbaaDoorMerged8
import Derived.Test.YtkggmcnocpgnbaaDoorMerged5
import Derived.Deep.DeepCutAuto
namespace Go.Proofs.YtkggmcnocpgnbaaDoor.K
open Go.RowKit

theorem RoB.set0 {t : TypeId} {p : Nat} {v v' : Value} {b : Bool} {w : World} (h : RoB t p v b w) : RoB t p v' b (w.setCell ⟨p, 0, none⟩ v') := by
  unfold RoB at h ⊢
  simp [World.setCell, Array.getElem?_modify, h]
theorem RoB.setOther {t : TypeId} {p q : Nat} {v x : Value} {b : Bool} {w : World} {o : Nat} (h : RoB t p v b w) (hne : p ≠ q) : RoB t p v b (w.setCell ⟨q, o, none⟩ x) := (Below.heap_setCell _ _ _ p (fun e => hne e)).trans h
theorem OwnC.set1 {rk : IntKind} {T : TypeId} {base : Nat} {v : Value} {l : List Cel} {w : World} (h : OwnC rk T base v l w) {p : Nat} (hp : p < base) (o : Nat) (x : Value) : OwnC rk T base v l (w.setCell ⟨p, o, none⟩ x) := by
  have g1 : w.grownBy (w.setCell ⟨p, o, none⟩ x) (some p) := ⟨rfl, rfl, rfl, (KeepsWalks.setCell w _ x).size, fun i _ hi => Below.heap_setCell _ _ _ i (fun e => hi (by rw [e]))⟩
  exact h.kept g1 (fun q hq e => by have := (h.ownBlock q hq).1; have := Option.some.inj e; omega)
/-- what Told has laid -/
structure ToldI (rb : Nat) (v0 v : Value) (b : Bool) (l : List Cel) (w wr : World) : Prop where
  below : Below rb w wr
  r : RoB 27 rb v0 b wr
  q : RoB 38 (rb + 1) (.slice none 0 0) false wr
  x : RoB 38 (rb + 2) v b wr
  own : OwnC .i64 107 (rb + 3) v l wr
theorem ToldI.size {rb : Nat} {v0 v : Value} {b : Bool} {l : List Cel} {w wr : World} (h : ToldI rb v0 v b l w wr) : rb + 3 ≤ wr.heap.size := h.x.lt
theorem ToldI.more {rb : Nat} {v0 v : Value} {b : Bool} {l : List Cel} {w wr w' : World} (h : ToldI rb v0 v b l w wr) (hb : Below wr.heap.size wr w') : ToldI rb v0 v b l w w' :=
  ⟨h.below.trans (hb.mono (by have := h.size; omega)), h.r.belowAll hb, h.q.belowAll hb, h.x.belowAll hb, h.own.belowAll hb⟩
theorem ToldI.next {rb : Nat} {v0 v v' : Value} {b : Bool} {l l' : List Cel} {w wr w' : World} (h : ToldI rb v0 v b l w wr) (hb : Below (rb + 3) wr w') (ho : OwnC .i64 107 (rb + 3) v' l' w') : ToldI rb v0 v' b l' w (w'.setCell ⟨rb + 2, 0, none⟩ v') := by
  have hb' : Below rb w w' := h.below.trans (hb.mono (by omega))
  exact ⟨hb'.setCell (p := ⟨rb + 2, 0, none⟩) (by show rb ≤ rb + 2; omega) _, (h.r.below hb (by omega)).setOther (by omega), (h.q.below hb (by omega)).setOther (by omega), (h.x.below hb (by omega)).set0, ho.set1 (by omega) _ _⟩

end Go.Proofs.YtkggmcnocpgnbaaDoor.K

/- The contract of the document's own Of: of any number, how many columns it has. -/
namespace Go.Proofs.YtkggmcnocpgnbaaDoor.W
open Go.RowKit

/-- The cells of block b hold these spans. -/
def Sp (w : World) (b : Nat) (t : List (Int × Int)) : Prop := ∀ j, j < t.length → w.cell? ⟨b, j * 2, none⟩ = some (.int .i64 (t.getD j (0, 0)).1) ∧ w.cell? ⟨b, j * 2 + 1, none⟩ = some (.int .i64 (t.getD j (0, 0)).2)
theorem Sp.below {w w' : World} {b B : Nat} {t : List (Int × Int)} (h : Sp w b t) (hb : Below B w w') (hlt : b < B) : Sp w' b t := fun j hj =>
  ⟨(hb.cell (p := ⟨b, j * 2, none⟩) hlt).trans (h j hj).1, (hb.cell (p := ⟨b, j * 2 + 1, none⟩) hlt).trans (h j hj).2⟩
def zArr : Array Value := #[.int .i64 127, .int .i64 159, .int .i64 768, .int .i64 879, .int .i64 6832, .int .i64 6911, .int .i64 7616, .int .i64 7679, .int .i64 8203, .int .i64 8207, .int .i64 8400, .int .i64 8447, .int .i64 55296, .int .i64 57343, .int .i64 65024, .int .i64 65039, .int .i64 65056, .int .i64 65071, .int .i64 65279, .int .i64 65279, .int .i64 917760, .int .i64 917999]
def tArr : Array Value := #[.int .i64 4352, .int .i64 4447, .int .i64 11904, .int .i64 12350, .int .i64 12353, .int .i64 13311, .int .i64 13312, .int .i64 19903, .int .i64 19968, .int .i64 40959, .int .i64 40960, .int .i64 42191, .int .i64 44032, .int .i64 55203, .int .i64 63744, .int .i64 64255, .int .i64 65072, .int .i64 65135, .int .i64 65280, .int .i64 65376, .int .i64 65504, .int .i64 65510, .int .i64 127744, .int .i64 128591, .int .i64 129280, .int .i64 129535, .int .i64 131072, .int .i64 262141]
theorem z_new (w : World) (t : TypeId) : Sp (w.alloc (.cells zArr t)) w.heap.size zeros := by
  intro j hj
  have hj : j < 11 := hj
  rw [World.cell?_alloc_new, World.cell?_alloc_new]
  obtain rfl | rfl | rfl | rfl | rfl | rfl | rfl | rfl | rfl | rfl | rfl : j = 0 ∨ j = 1 ∨ j = 2 ∨ j = 3 ∨ j = 4 ∨ j = 5 ∨ j = 6 ∨ j = 7 ∨ j = 8 ∨ j = 9 ∨ j = 10 := by omega
  all_goals exact ⟨rfl, rfl⟩
theorem t_new (w : World) (t : TypeId) : Sp (w.alloc (.cells tArr t)) w.heap.size twos := by
  intro j hj
  have hj : j < 14 := hj
  rw [World.cell?_alloc_new, World.cell?_alloc_new]
  obtain rfl | rfl | rfl | rfl | rfl | rfl | rfl | rfl | rfl | rfl | rfl | rfl | rfl | rfl : j = 0 ∨ j = 1 ∨ j = 2 ∨ j = 3 ∨ j = 4 ∨ j = 5 ∨ j = 6 ∨ j = 7 ∨ j = 8 ∨ j = 9 ∨ j = 10 ∨ j = 11 ∨ j = 12 ∨ j = 13 := by omega
  all_goals exact ⟨rfl, rfl⟩

set_option maxRecDepth 100000 in
set_option maxHeartbeats 4000000 in
theorem refOf_any (r : Int) (w : World) :
    Calls Tryd.prog 116 #[.int .i64 r] w fun e w' => e = .returned (.int .i64 (refOf r : Int)) ∧ Below w.heap.size w w' := by
  obtain ⟨R, hR⟩ : ∃ R, refOf r = R := ⟨_, rfl⟩
  rw [hR]
  have HR := Lib.hid hR
  obtain ⟨wA, hwA⟩ : ∃ wA, w.alloc (.cells zArr 192) = wA := ⟨_, rfl⟩
  obtain ⟨wB, hwB⟩ : ∃ wB, wA.alloc (.cells tArr 192) = wB := ⟨_, rfl⟩
  have hsA : wA.heap.size = w.heap.size + 1 := by rw [← hwA]; simp
  have hsB : wB.heap.size = w.heap.size + 2 := by rw [← hwB]; simp; omega
  have hZ : Sp wB w.heap.size zeros := by rw [← hwB]; exact (hwA ▸ z_new w _).below ((Below.refl wA.heap.size _).alloc (Nat.le_refl _) _) (by omega)
  have hT : Sp wB (w.heap.size + 1) twos := by rw [← hwB, ← hsA]; exact t_new wA _
  have hB : Below w.heap.size w wB := by rw [← hwB, ← hwA]; exact ((Below.refl _ _).alloc (Nat.le_refl _) _).alloc (by simp) _
  have HZ := Lib.hid hZ
  have HT := Lib.hid hT
  have HB := Lib.hid hB
  clear hR hZ hT hB
  unfold zArr at hwA
  unfold tArr at hwB
  have HA := Lib.hid hwA
  have HBB := Lib.hid hwB
  have hszB : w.heap.size + 2 ≤ wB.heap.size := by omega
  have hpA : w.heap.size < w.heap.size + 2 := by omega
  have HSA := Lib.hid hsA
  clear hwA hwB hsA hsB
  go_enter Tryd.func116, Tryd.ntmps116
  go_upto_region 3 with fail
  rw [HA.out, HBB.out]
  by_cases h1 : r < 32
  · have HV : Hid (R = 0) := Lib.hid (by rw [← HR.out]; unfold refOf; rw [if_pos h1])
    go_wp2
    go_ret
    exact ⟨by rw [HV.out]; rfl, HB.out⟩
  by_cases h2 : 1114111 < r
  · have HV : Hid (R = 0) := Lib.hid (by rw [← HR.out]; unfold refOf; rw [if_neg h1, if_pos h2])
    go_wp2
    go_ret
    exact ⟨by rw [HV.out]; rfl, HB.out⟩
  have HR' : Hid ((if inL zeros r then 0 else if inL twos r then 2 else 1) = R) := Lib.hid (by rw [← HR.out]; unfold refOf; rw [if_neg h1, if_neg h2])
  go_wp2
  go_loopw [44] (fun i wr => ∃ j : Nat, i = .int .i64 (j : Int) ∧ j ≤ 11 ∧ w.heap.size + 2 ≤ wr.heap.size ∧ Hid (Below (w.heap.size + 2) wB wr ∧ inL (zeros.drop j) r = inL zeros r)) (fun i _ => 11 - (intOf i).toNat)
  case atStart => exact ⟨0, rfl, by omega, hszB, Lib.hid ⟨Below.refl _ _, rfl⟩⟩
  case round =>
    rename_i wr
    obtain ⟨j, rfl, hj, hbw, HF⟩ := hrel
    by_cases hlt : j < 11
    · have hw := HF.out.1
      obtain ⟨c0, c1⟩ := (HZ.out.below hw (by omega)) j hlt
      have hst := inL_step zeros j hlt r
      have hF2 := HF.out.2
      obtain ⟨⟨a, b⟩, hx⟩ : ∃ x, zeros.getD j (0, 0) = x := ⟨_, rfl⟩
      rw [hx] at c0 c1 hst
      simp only at c0 c1 hst
      clear hx hw
      by_cases h3 : a ≤ r
      · by_cases h4 : r ≤ b
        · have hin : inL zeros r = true := by rw [← hF2, hst]; simp [h3, h4]
          have HV : Hid (R = 0) := Lib.hid (by rw [← HR'.out]; simp [hin])
          clear hst hF2 hin
          go_wp2
          go_ret
          exact ⟨by rw [HV.out]; rfl, HB.out.trans ((HF.out.1.alloc hbw _).mono (by omega))⟩
        · have hF3 : Hid (inL (zeros.drop (j + 1)) r = inL zeros r) := Lib.hid (by rw [← hF2, hst]; simp [h4])
          clear hst hF2
          go_wp2
          go_roundw
          case rel => exact ⟨j + 1, by go_num, by omega, by simp; omega, Lib.hid ⟨HF.out.1.alloc hbw _, hF3.out⟩⟩
          case measure => simp [intOf]; omega
      · have hF3 : Hid (inL (zeros.drop (j + 1)) r = inL zeros r) := Lib.hid (by rw [← hF2, hst]; simp [h3])
        clear hst hF2
        go_wp2
        go_roundw
        case rel => exact ⟨j + 1, by go_num, by omega, by simp; omega, Lib.hid ⟨HF.out.1.alloc hbw _, hF3.out⟩⟩
        case measure => simp [intOf]; omega
    · obtain rfl : j = 11 := by omega
      have hno : inL zeros r = false := by rw [← HF.out.2]; rfl
      have HN := Lib.hid hno
      have HBW := Lib.hid HF.out.1
      clear hno HF
      go_wp2
      go_loopw [61] (fun i wr => ∃ j : Nat, i = .int .i64 (j : Int) ∧ j ≤ 14 ∧ w.heap.size + 2 ≤ wr.heap.size ∧ Hid (Below (w.heap.size + 2) wB wr ∧ inL (twos.drop j) r = inL twos r)) (fun i _ => 14 - (intOf i).toNat)
      case atStart => exact ⟨0, rfl, by omega, hbw, Lib.hid ⟨HBW.out, rfl⟩⟩
      case round =>
        rename_i wr2
        clear hbw
        obtain ⟨j, rfl, hj, hbw, HF⟩ := hrel
        by_cases hlt : j < 14
        · have hw := HF.out.1
          obtain ⟨c0, c1⟩ := (HT.out.below hw (by omega)) j hlt
          have hst := inL_step twos j hlt r
          have hF2 := HF.out.2
          obtain ⟨⟨a, b⟩, hx⟩ : ∃ x, twos.getD j (0, 0) = x := ⟨_, rfl⟩
          rw [hx] at c0 c1 hst
          simp only at c0 c1 hst
          clear hx hw
          by_cases h3 : a ≤ r
          · by_cases h4 : r ≤ b
            · have hin : inL twos r = true := by rw [← hF2, hst]; simp [h3, h4]
              have HV : Hid (R = 2) := Lib.hid (by rw [← HR'.out]; simp [hin, HN.out])
              clear hst hF2 hin
              go_wp2
              go_ret
              exact ⟨by rw [HV.out]; rfl, HB.out.trans ((HF.out.1.alloc hbw _).mono (by omega))⟩
            · have hF3 : Hid (inL (twos.drop (j + 1)) r = inL twos r) := Lib.hid (by rw [← hF2, hst]; simp [h4])
              clear hst hF2
              go_wp2
              go_roundw
              case rel => exact ⟨j + 1, by go_num, by omega, by simp; omega, Lib.hid ⟨HF.out.1.alloc hbw _, hF3.out⟩⟩
              case measure => simp [intOf]; omega
          · have hF3 : Hid (inL (twos.drop (j + 1)) r = inL twos r) := Lib.hid (by rw [← hF2, hst]; simp [h3])
            clear hst hF2
            go_wp2
            go_roundw
            case rel => exact ⟨j + 1, by go_num, by omega, by simp; omega, Lib.hid ⟨HF.out.1.alloc hbw _, hF3.out⟩⟩
            case measure => simp [intOf]; omega
        · obtain rfl : j = 14 := by omega
          have hno : inL twos r = false := by rw [← HF.out.2]; rfl
          have HV : Hid (R = 1) := Lib.hid (by rw [← HR'.out]; simp [hno, HN.out])
          clear hno
          go_wp2
          go_ret
          exact ⟨by rw [HV.out]; rfl, HB.out.trans (HF.out.1.mono (by omega))⟩
end Go.Proofs.YtkggmcnocpgnbaaDoor.W

/- The contract of the document's Put. -/
namespace Go.Proofs.YtkggmcnocpgnbaaDoor.K
open Go.RowKit

theorem wpList_store_cl {rk : IntKind} {t T : TypeId} {bytes : Nat} (hI : CelT rk t T bytes) {ops : Array Oper} {rest : List Oper} {o : Oper} {z : Act} {w : World} {Q : Exit → Act → World → Prop} (hgd : o.guard = none) (hd : o.dst = none) (pa pv : Operand) (ho : o.op = .store T pa pv)
    (base g n cap : Nat) (l : List Cel) (i : Nat) (c : Cel) (hpa : z.eval pa = .pointer (some ⟨g, i * 3, none⟩)) (hpv : z.eval pv = .agg (cArr rk c)) (hown : OwnC rk T base (.slice (some ⟨g, 0, none⟩) n cap) l w) (hi : i < n) (hl : l.length = n)
    (hK : ∀ w', OwnC rk T base (.slice (some ⟨g, 0, none⟩) n cap) (l.set i c) w' → w.grownBy w' (some g) → wpList Tryd.prog ops Q rest z w') : wpList Tryd.prog ops Q (o :: rest) z w := by
  subst hl
  exact wpList_store_cell hI hgd hd pa pv ho base g cap l i c hpa hpv hown hi hK
theorem below_grown' {base g : Nat} {w0 w w' : World} (h : Below base w0 w) (hg : w.grownBy w' (some g)) (hb : base ≤ g) (hs : base ≤ w.heap.size) : Below base w0 w' :=
  ⟨hg.os.trans h.os, hg.tape.trans h.tape, hg.output.trans h.output, Nat.le_trans h.size hg.size, fun k hk => (hg.block k (Nat.lt_of_lt_of_le hk hs) (fun e => by have := Option.some.inj e; omega)).trans (h.block k hk)⟩
theorem refOf_le (x : Int) : W.refOf x ≤ 2 := by
  unfold W.refOf
  split
  · omega
  · split
    · omega
    · split
      · omega
      · split <;> omega
theorem putS_out {k : Nat} {l : List Cel} {at_ x s : Int} (h : k = 0 ∨ at_ < 0 ∨ (l.length : Int) - k < at_) : putS k l at_ x s = mend l := by unfold putS; rw [if_pos h]
theorem putS_one {l : List Cel} {A : Nat} {x s : Int} (h : A < l.length) : putS 1 l A x s = mend (l.set A ⟨x, s, 0⟩) := by
  unfold putS
  rw [if_neg (by omega), if_neg (by omega)]
  rfl
theorem putS_two {l : List Cel} {A : Nat} {x s : Int} (h : A + 1 < l.length) (hb : ¬ (0 < A ∧ (l.getD (A - 1) (blk 0)).part = 1)) : putS 2 l A x s = mend (((l.set A ⟨x, s, 0⟩).set A ⟨x, s, 1⟩).set (A + 1) ⟨x, s, 2⟩) := by
  unfold putS
  rw [if_neg (by omega), if_pos rfl, List.set_set]
  simp only [Int.toNat_natCast]
  rw [if_neg hb]
theorem putS_half {l : List Cel} {A : Nat} {x s : Int} (h : A + 2 < l.length) (hb : (l.getD A (blk 0)).part = 1) : putS 2 l ((A + 1 : Nat) : Int) x s = mend ((((l.set (A + 1) ⟨x, s, 0⟩).set (A + 1) ⟨x, s, 1⟩).set (A + 1 + 1) ⟨x, s, 2⟩).set A (blk (l.getD A (blk 0)).style)) := by
  unfold putS
  rw [if_neg (by omega), if_pos rfl, List.set_set]
  simp only [Int.toNat_natCast, Nat.add_sub_cancel]
  rw [if_pos ⟨Nat.succ_pos _, hb⟩]

set_option maxRecDepth 100000 in
set_option maxHeartbeats 8000000 in
theorem refPut_any (a : Option Addr) (n c : Nat) (wr0 : Bool) (l : List Cel) (at_ x s : Int) (w : World) (hI : CelsIn .i64 a n l w) (hnil : a = none → c = 0) (hn : (n : Int) ≤ 1000000) :
    Calls Tryd.prog 94 #[.agg #[.slice a n c, .bool wr0], .int .i64 at_, .int .i64 x, .int .i64 s] w (RowPost .i64 107 w.heap.size (putS (W.refOf x) l at_ x s) false w) := by
  obtain ⟨rb, hrb⟩ : ∃ rb, w.heap.size = rb := ⟨_, rfl⟩
  rw [hrb]
  have hk2 := refOf_le x
  have HOf := Lib.hid (fun (v : World) => W.refOf_any x v)
  obtain ⟨k, hk⟩ : ∃ k, W.refOf x = k := ⟨_, rfl⟩
  rw [hk] at hk2 HOf ⊢
  obtain ⟨P, hP⟩ : ∃ P, RowPost .i64 107 rb (putS k l at_ x s) false w = P := ⟨_, rfl⟩
  rw [hP]
  have HP := Lib.hid hP
  have hln := hI.len
  have hst := St0.start 38 38 w (.slice a n c) wr0
  obtain ⟨w2, hw2⟩ : ∃ w2, (w.alloc (.cells #[.slice a n c, .bool wr0] 38)).alloc (.cells #[.slice none 0 0, .bool false] 38) = w2 := ⟨_, rfl⟩
  rw [hw2, hrb] at hst
  have HSt := Lib.hid hst
  have HI2 : Hid (CelsIn .i64 a n l w2) := Lib.hid (hI.belowAll (by rw [hrb]; exact hst.below))
  have HNil := Lib.hid hnil
  have HW2 := Lib.hid hw2
  have HRb := Lib.hid hrb
  have HLn := Lib.hid hln
  have HLz : Hid ((l.length : Int) ≤ 1000000) := Lib.hid (by rw [← hln]; exact hn)
  clear hP hst hI hnil hw2 hrb hln hk
  go_enter Tryd.func94, Tryd.ntmps94
  go_upto_region 1 with fail
  rw [HW2.out, HRb.out]
  go_upto_region 2 with (go_at_call 116; refine (HOf.out _).mono ?_; rintro e w3 ⟨rfl, hb3⟩)
  have HSt3 := Lib.hid (HSt.out.more (hb3.mono HSt.out.size))
  have HI3 := Lib.hid (HI2.out.belowAll hb3)
  have hsz3 := HSt3.out.size
  have hrb3 : rb < w3.heap.size := by omega
  have c0 := HSt3.out.r.c0
  clear hb3 HI2 HSt HOf
  by_cases hbad : k = 0 ∨ at_ < 0 ∨ (l.length : Int) - k < at_
  · rw [putS_out hbad] at HP
    have HM := Lib.hid (refMend_any a n c l w3 HI3.out hn)
    rw [← HLn.out] at hbad
    have hway : k = 0 ∨ (((k : Int) == 0) = false ∧ decide (at_ < 0) = true) ∨ (((k : Int) == 0) = false ∧ decide (at_ < 0) = false ∧ decide (at_ > (n : Int) - (k : Int)) = true) := by
      by_cases h0 : k = 0
      · left; exact h0
      · right
        have h1 : ((k : Int) == 0) = false := by rw [beq_eq_false_iff_ne]; omega
        by_cases h2 : at_ < 0
        · left; exact ⟨h1, by simp; omega⟩
        · right; exact ⟨h1, by simp; omega, by simp; omega⟩
    clear hbad
    rcases hway with rfl | ⟨q1, q2⟩ | ⟨q1, q2, q3⟩
    all_goals
      go_wp2_with fail
      refine HM.out.mono ?_
      rintro e w9 ⟨v9, rfl, hO9, hb9⟩
      have HSt9 := Lib.hid (HSt3.out.more (hb9.mono HSt3.out.size))
      obtain ⟨a9, c9, he9, -⟩ := hO9.shape
      obtain ⟨n9, hn9⟩ : ∃ n9, (mend l).length = n9 := ⟨_, rfl⟩
      rw [hn9] at he9
      subst he9
      have HO9 : Hid (OwnC .i64 107 (rb + 2) (.slice a9 n9 c9) (mend l) w9) := Lib.hid (hO9.weaken HSt3.out.size)
      have x0 := HSt9.out.q.c0
      have x1 := HSt9.out.q.c1
      have f0 := HSt9.out.q.fr 0
      have f1 := HSt9.out.q.fr 1
      clear hO9 hb9 hn9 HM
      go_wp2_with fail
      refine bodyPost_ret (v := .agg #[.slice a9 n9 c9, .bool false]) (by rw [results_cell (fn := Tryd.f94) rfl]; go_simp <;> rfl) rfl ?_
      rw [← HP.out]
      exact ⟨_, rfl, (HO9.out.set2 (Nat.lt_succ_self (rb + 1)) _ _).weaken (by omega), below_set2 HSt9.out.below (by omega)⟩
  · obtain ⟨A, rfl⟩ : ∃ A : Nat, at_ = (A : Int) := ⟨at_.toNat, by omega⟩
    rw [← HLn.out] at hbad
    have hA : A + k ≤ n := by omega
    have hk1 : 1 ≤ k := by omega
    have q1 : ((k : Int) == 0) = false := by rw [beq_eq_false_iff_ne]; omega
    have q2 : decide ((A : Int) < 0) = false := decide_eq_false (by omega)
    have q3 : decide ((A : Int) > (n : Int) - (k : Int)) = false := decide_eq_false (by omega)
    have q3' : decide ((n : Int) - (k : Int) < (A : Int)) = false := decide_eq_false (by omega)
    have hAn : (A : Int) < n := by omega
    have HO4 := Lib.hid (OwnC.lit .i64 107 w3 (rb + 2) hsz3)
    have HI4 : Hid (CelsIn .i64 a n l (w3.alloc (.cells #[] 107))) := Lib.hid (HI3.out.belowAll ((Below.refl _ _).alloc (Nat.le_refl _) _))
    clear hbad
    go_wp2_with (at_builtin; refine wpList_append_cells refT rfl _ _ rfl rfl (rb + 2) _ [] a n c l rfl rfl HO4.out HI4.out HNil.out (by simp) HLz.out (by simp; omega) ?_)
    intro v5 w5 hown hgr
    have hb5 : Below (rb + 2) w3 w5 := below_grew ((Below.refl _ _).alloc HSt3.out.size _) hgr (fun q hq => by have := (HO4.out.ownBlock q hq).1; omega) (by simp; omega)
    obtain ⟨a5, c5, he5, hin5, hblk5, -, hle5, hmx5⟩ := hown.shape
    rw [← HLn.out] at he5 hin5 hle5
    subst he5
    have HSt5 := Lib.hid (HSt3.out.more hb5)
    have hln : 0 < l.length := by rw [← HLn.out]; omega
    obtain ⟨b5, o5, rfl, hbb5, hAt5⟩ := hin5.at_.resolve_left (by intro e; rw [e] at hln; simp at hln)
    obtain ⟨hbl5, -, rfl⟩ := hblk5 b5 o5 rfl
    have HO5 := Lib.hid hown
    have hAn' : A < n := by omega
    clear hown hgr hb5 hin5 hblk5 hln c0 HO4 HI4 hle5
    have HL0 : Hid (l.length = n) := Lib.hid HLn.out.symm
    have hw5 := HSt5.out.size
    rcases (by omega : k = 1 ∨ k = 2) with rfl | rfl
    case' inl =>
      go_upto_region 6 with (refine wpList_store_cl refT rfl rfl _ _ rfl (rb + 2) b5 n c5 l A ⟨x, s, 0⟩ rfl rfl HO5.out hAn' HL0.out ?_; intro w6 h6 hg6)
      have HG : Hid (∃ m, OwnC .i64 107 (rb + 2) (.slice (some ⟨b5, 0, none⟩) n c5) m w6 ∧ mend m = putS 1 l A x s ∧ m.length = n ∧ Below (rb + 2) w5 w6) := Lib.hid ⟨_, h6, (putS_one (by rw [HL0.out]; exact hAn')).symm, by rw [List.length_set]; exact HL0.out, below_grown' (Below.refl _ _) hg6 hbl5 hw5⟩
      clear h6 hg6
      go_upto_region 11 with fail
    case' inr =>
      have hA2 : A + 1 < n := by omega
      have hA2' : (A : Int) + 1 < n := by omega
      have HL1 : Hid ((l.set A ⟨x, s, 0⟩).length = n) := Lib.hid (by rw [List.length_set]; exact HL0.out)
      have HL2 : Hid (((l.set A ⟨x, s, 0⟩).set A ⟨x, s, 1⟩).length = n) := Lib.hid (by rw [List.length_set]; exact HL1.out)
      go_upto_region 6 with (refine wpList_store_cl refT rfl rfl _ _ rfl (rb + 2) b5 n c5 l A ⟨x, s, 0⟩ rfl rfl HO5.out hAn' HL0.out ?_; intro w6 h6 hg6)
      have HO6 := Lib.hid h6
      have HB6 := Lib.hid (below_grown' (Below.refl _ _) hg6 hbl5 hw5)
      clear h6 hg6
      go_upto_region 8 with (refine wpList_store_cl refT rfl rfl _ _ rfl (rb + 2) b5 n c5 _ A ⟨x, s, 1⟩ rfl rfl HO6.out hAn' HL1.out ?_; intro w7 h7 hg7)
      have HO7 := Lib.hid h7
      have HB7 := Lib.hid (below_grown' HB6.out hg7 hbl5 (Nat.le_trans hw5 HB6.out.size))
      clear h7 hg7
      go_upto_region 9 with (refine wpList_store_cl refT rfl rfl _ _ rfl (rb + 2) b5 n c5 _ (A + 1) ⟨x, s, 2⟩ rfl rfl HO7.out hA2 HL2.out ?_; intro w8 h8 hg8)
      obtain ⟨m8, hm8⟩ : ∃ m8, ((l.set A ⟨x, s, 0⟩).set A ⟨x, s, 1⟩).set (A + 1) ⟨x, s, 2⟩ = m8 := ⟨_, rfl⟩
      rw [hm8] at h8
      have HB8 := Lib.hid (below_grown' HB7.out hg8 hbl5 (Nat.le_trans hw5 HB7.out.size))
      have HM8 := Lib.hid hm8
      have HL8 : Hid (m8.length = n) := Lib.hid (by rw [← hm8, List.length_set]; exact HL2.out)
      have HO8 := Lib.hid h8
      clear h8 hg8 hm8 HO6 HO7 HB6 HB7
      refine Or.elim (Nat.eq_zero_or_pos A) (fun hA0 => ?zero) (fun hA0 => ?more)
    case' zero =>
      subst hA0
      have HG : Hid (∃ m, OwnC .i64 107 (rb + 2) (.slice (some ⟨b5, 0, none⟩) n c5) m w8 ∧ mend m = putS 2 l (0 : Nat) x s ∧ m.length = n ∧ Below (rb + 2) w5 w8) := Lib.hid ⟨_, HO8.out, by rw [putS_two (by rw [HL0.out]; exact hA2) (fun h => by omega), HM8.out], HL8.out, HB8.out⟩
      have q4 : decide (((0 : Nat) : Int) > 0) = false := by simp
      go_upto_region 11 with fail
    case' more =>
      obtain ⟨B, rfl⟩ : ∃ B, A = B + 1 := ⟨A - 1, by omega⟩
      have hBl : B < l.length := by rw [HL0.out]; omega
      have hgd : l.getD B (blk 0) = l[B] := by simp [List.getD_eq_getElem?_getD, List.getElem?_eq_getElem hBl]
      obtain ⟨a8, c8, he8, hin8, -⟩ := HO8.out.shape
      rw [HL8.out] at he8 hin8
      have hB8 : B < m8.length := by rw [HL8.out]; omega
      obtain ⟨b8, o8, rfl, -, hAt8⟩ := hin8.at_.resolve_left (by intro e; rw [e] at hB8; simp at hB8)
      obtain ⟨rfl, rfl⟩ : b5 = b8 ∧ 0 = o8 := by injection he8 with h1 h2 h3; injection h1 with h1; injection h1 with h1 h2; exact ⟨h1, h2⟩
      have hg8 : m8[B]? = some l[B] := by
        rw [← HM8.out, List.getElem?_set_ne (by omega), List.getElem?_set_ne (by omega), List.getElem?_set_ne (by omega), List.getElem?_eq_getElem hBl]
      have hat := hAt8 B l[B] hg8
      obtain ⟨S, hS⟩ : ∃ S, l[B].style = S := ⟨_, rfl⟩
      obtain ⟨T, hT⟩ : ∃ T, l[B].part = T := ⟨_, rfl⟩
      have y1 := hat.c1
      have y2 := hat.c2
      rw [hS] at y1
      rw [hT] at y2
      rw [Nat.zero_add] at y1 y2
      have hB1 : ((B + 1 : Nat) : Int) - 1 = (B : Int) := by omega
      have hBn : (B : Int) < n := by omega
      have q4 : decide (((B + 1 : Nat) : Int) > 0) = true := decide_eq_true (by omega)
      have HS := Lib.hid hS
      have HT := Lib.hid hT
      have HGd := Lib.hid hgd
      clear hin8 hat hg8 hAt8 hgd hS hT he8 hB8 hA0
      refine Or.elim (Decidable.em (T = 1)) (fun hT1 => ?half) (fun hT1 => ?whole)
    case' whole =>
      have q5 : (T == 1) = false := by rw [beq_eq_false_iff_ne]; exact hT1
      have HG : Hid (∃ m, OwnC .i64 107 (rb + 2) (.slice (some ⟨b5, 0, none⟩) n c5) m w8 ∧ mend m = putS 2 l (B + 1 : Nat) x s ∧ m.length = n ∧ Below (rb + 2) w5 w8) := Lib.hid ⟨_, HO8.out, by rw [putS_two (by rw [HL0.out]; exact hA2) (by rw [Nat.add_sub_cancel, HGd.out, HT.out]; exact fun h => hT1 h.2), HM8.out], HL8.out, HB8.out⟩
      clear hT1
      go_upto_region 11 with fail
    case' half =>
      subst hT1
      have hBn' : B < n := by omega
      go_upto_region 11 with (refine wpList_store_cl refT rfl rfl _ _ rfl (rb + 2) b5 n c5 m8 B (blk S) rfl rfl HO8.out hBn' HL8.out ?_; intro w9 h9 hg9)
      have HG : Hid (∃ m, OwnC .i64 107 (rb + 2) (.slice (some ⟨b5, 0, none⟩) n c5) m w9 ∧ mend m = putS 2 l (B + 1 : Nat) x s ∧ m.length = n ∧ Below (rb + 2) w5 w9) := Lib.hid ⟨_, h9, by rw [putS_half (by rw [HL0.out]; exact hA2) (by rw [HGd.out]; exact HT.out), HM8.out, HGd.out, HS.out], by rw [List.length_set]; exact HL8.out, below_grown' HB8.out hg9 hbl5 (Nat.le_trans hw5 HB8.out.size)⟩
      clear h9 hg9
    all_goals
      obtain ⟨m, hOm, hmm, hml, hbm⟩ := HG.out
      have HStm := Lib.hid (HSt5.out.more hbm)
      obtain ⟨am, cm, hem, hinm, -⟩ := hOm.shape
      rw [hml] at hem hinm
      obtain ⟨rfl, rfl⟩ : some ⟨b5, 0, none⟩ = am ∧ c5 = cm := by injection hem with h1 h2 h3; exact ⟨h1, h3⟩
      have hMm := refMend_any (some ⟨b5, 0, none⟩) n c5 m _ hinm hn
      rw [hmm] at hMm
      have HMm := Lib.hid hMm
      clear hOm hmm hml hbm hem hinm hMm
      go_wp2_with fail
      refine HMm.out.mono ?_
      rintro e w19 ⟨v19, rfl, hO9, hb9⟩
      have HSt9 := Lib.hid (HStm.out.more (hb9.mono HStm.out.size))
      obtain ⟨a9, c9, he9, -⟩ := hO9.shape
      generalize hn9 : (putS _ l _ x s).length = n9 at he9
      subst he9
      have HO9 := Lib.hid (hO9.weaken HStm.out.size)
      have x0 := HSt9.out.q.c0
      have x1 := HSt9.out.q.c1
      have f0 := HSt9.out.q.fr 0
      have f1 := HSt9.out.q.fr 1
      clear hO9 hb9 hn9 HMm
      go_wp2_with fail
      refine bodyPost_ret (v := .agg #[.slice a9 n9 c9, .bool false]) (by rw [results_cell (fn := Tryd.f94) rfl]; go_simp <;> rfl) rfl ?_
      rw [← HP.out]
      exact ⟨_, rfl, (HO9.out.set2 (Nat.lt_succ_self (rb + 1)) _ _).weaken (by omega), below_set2 HSt9.out.below (by omega)⟩
end Go.Proofs.YtkggmcnocpgnbaaDoor.K
