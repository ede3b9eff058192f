/- The contract of the document's Order. -/
import Derived.Test.YtfapmgecebcfaaaDoorMerged6
import Derived.Lib.MinMax
namespace Go.Proofs.YtfapmgecebcfaaaDoor.Q
open Go.RowKit
open Go.Proofs.YtfapmgecebcfaaaDoor.W (OwnI OwnR IntsIn RunesIn)

/-- An action of the document's in a block. -/
def XBlk (k : Nat) (s : Say) (nv : Value) (w : World) : Prop := w.heap[k]? = some (.cells (xArr s nv) 47 (0, 0))

theorem XBlk.lt {k : Nat} {s : Say} {nv : Value} {w : World} (h : XBlk k s nv w) : k < w.heap.size := (Array.getElem?_eq_some_iff.1 h).1
theorem XBlk.fr {k : Nat} {s : Say} {nv : Value} {w : World} (h : XBlk k s nv w) (o : Nat) : w.frozen? ⟨k, o, none⟩ = false := by simp [World.frozen?, show w.heap[k]? = _ from h]
theorem XBlk.c (k : Nat) {s : Say} {nv : Value} {w : World} (h : XBlk k s nv w) (i : Nat) : w.cell? ⟨k, i, none⟩ = (xArr s nv)[i]? := by simp [World.cell?, show w.heap[k]? = _ from h]
theorem XBlk.setPriv {k b : Nat} {l : List Int} {pr : Bool} {nv : Value} {w : World} (h : XBlk k (cmd b pr l) nv w) (q : Bool) : XBlk k (cmd b q l) nv (w.setCell ⟨k, 3, none⟩ (.bool q)) := by
  unfold XBlk at *
  simp [World.setCell, Array.getElem?_modify, h, xArr, cmd]
theorem XBlk.setNums {k b : Nat} {l : List Int} {pr : Bool} {nv : Value} {w : World} (h : XBlk k (cmd b pr l) nv w) (l' : List Int) (nv' : Value) : XBlk k (cmd b pr l') nv' (w.setCell ⟨k, 4, none⟩ nv') := by
  unfold XBlk at *
  simp [World.setCell, Array.getElem?_modify, h, xArr, cmd]
theorem ownI_setX {base k o : Nat} {v u : Value} {zs : List Int} {s : Say} {nv : Value} {w : World} (h : OwnI base v zs w) (hx : XBlk k s nv w) : OwnI base v zs (w.setCell ⟨k, o, none⟩ u) :=
  World.ownsRow.kept h (grownBy_set w k o u) (by
    cases hv : v.ownBlock with
    | none => exact .inl rfl
    | some g =>
      refine .inr (fun e => ?_)
      obtain ⟨cs, hcs, _⟩ := own_type h hv
      obtain rfl : g = k := Option.some.inj e
      exact absurd (types_ne hcs hx) (by decide))
theorem OwnX.lit2 {w : World} {base : Nat} (hb : base ≤ w.heap.size) (s : Say) (nv : Value) (hn : OwnI base nv s.nums w) : OwnX base (.slice (some ⟨w.heap.size, 0, none⟩) 1 1) [s] (w.alloc (.cells (xArr s nv) 47)) :=
  ⟨⟨[(s, nv)], rfl, World.ownsRow_lit w (xArr s nv) 1 hb (by decide) rfl, fun r hr => by
    obtain rfl : r = (s, nv) := by simpa using hr
    exact OwnI.alloc hn _⟩⟩
theorem ordGo_digit {n : Int} {l : List Int} {T : List UInt8} {j : Nat} (hj : j < T.length) (h : 48 ≤ T[j].toNat ∧ T[j].toNat ≤ 57) : ordGo n l (T.drop j) = ordGo (min 9999 (10 * n + (T[j].toNat : Int) - 48)) l (T.drop (j + 1)) := by
  rw [List.drop_eq_getElem_cons hj, ordGo, if_pos h]
theorem ordGo_sep {n : Int} {l : List Int} {T : List UInt8} {j : Nat} (hj : j < T.length) (h : T[j].toNat = 59 ∨ T[j].toNat = 58) : ordGo n l (T.drop j) = ordGo 0 (push l n) (T.drop (j + 1)) := by
  rw [List.drop_eq_getElem_cons hj, ordGo, if_neg (by omega), if_pos h]
theorem ordGo_none {n : Int} {l : List Int} {T : List UInt8} {j : Nat} (hj : j < T.length) (h1 : ¬ (48 ≤ T[j].toNat ∧ T[j].toNat ≤ 57)) (h2 : ¬ (T[j].toNat = 59 ∨ T[j].toNat = 58)) : ordGo n l (T.drop j) = none := by
  rw [List.drop_eq_getElem_cons hj, ordGo, if_neg h1, if_neg h2]

set_option maxRecDepth 100000 in
set_option maxHeartbeats 8000000 in
theorem order_any (S : ByteArray) (hsz : (S.size : Int) ≤ 100000) (b : Nat) (w : World) : Calls Tryd.prog 24 #[.string S, .int .i64 (b : Int)] w (XPost w.heap.size (ordS S.data.toList b) w) := by
  obtain ⟨base, hbase⟩ : ∃ base, w.heap.size = base := ⟨_, rfl⟩
  rw [hbase]
  obtain ⟨T, hT⟩ : ∃ T, S.data.toList = T := ⟨_, rfl⟩
  rw [hT]
  obtain ⟨P, hP⟩ : ∃ P, XPost base (ordS T b) w = P := ⟨_, rfl⟩
  rw [hP]
  have HP := Lib.hid hP
  have hS : S = ⟨⟨T⟩⟩ := bytes_ext hT
  have HS := Lib.hid hS
  have hst : S.size = T.length := by rw [← hT]; rfl
  have HSt := Lib.hid hst
  have HBs := Lib.hid hbase
  obtain ⟨w1, hw1⟩ : ∃ w1, w.alloc (.cells #[.int .i64 4, .int .i64 0, .int .i64 (b : Int), .bool false, .slice none 0 0, .string ⟨#[]⟩] 47) = w1 := ⟨_, rfl⟩
  have hX1 : XBlk base (cmd b false []) (.slice none 0 0) w1 := by rw [← hw1, ← hbase]; exact World.alloc_heap_new w _
  have hb1 : Below base w w1 := by rw [← hw1, ← hbase]; exact (Below.refl _ _).alloc (Nat.le_refl _) _
  have HX1 := Lib.hid hX1
  have HB1 := Lib.hid hb1
  have HW1 := Lib.hid hw1
  have f3 : w1.frozen? ⟨base, 3, none⟩ = false := by simp [World.frozen?, show w1.heap[base]? = _ from hX1]
  have c3 : w1.cell? ⟨base, 3, none⟩ = some (.bool false) := by simp [World.cell?, show w1.heap[base]? = _ from hX1, xArr, cmd]
  clear hP hT hS hst hbase hw1 hX1 hb1
  go_enter Tryd.func24, Tryd.ntmps24
  go_upto_region 2 with fail
  rw [HW1.out, HBs.out]
  obtain ⟨q, hq'⟩ : ∃ q : Bool, (q = true ∧ ∃ c t, T = c :: t ∧ c.toNat = 63) ∨ (q = false ∧ ¬ ∃ c t, T = c :: t ∧ c.toNat = 63) := by
    by_cases h : ∃ c t, T = c :: t ∧ c.toNat = 63
    · exact ⟨true, .inl ⟨rfl, h⟩⟩
    · exact ⟨false, .inr ⟨rfl, h⟩⟩
  have HQ := Lib.hid hq'
  go_cut [16] (fun t16 wx => t16 = .bool q ∧ wx = w1)
  case first =>
    clear HQ HX1 HB1 HW1 HBs HP f3 c3
    cases T with
    | nil =>
      have hS := HS.out
      subst hS
      obtain rfl : q = false := by
        rcases hq' with ⟨_, c, t, e, _⟩ | ⟨h, _⟩
        · cases e
        · exact h
      clear hq'
      go_wp2_with fail
      go_meet
      exact ⟨rfl, rfl⟩
    | cons c t =>
      have hne : S.toList.isEmpty = false := by
        rw [HS.out, ByteArray.toList_eq]; rfl
      have h0 : 0 < S.size := by rw [HSt.out]; simp
      have e0 : S[0] = c := by have hS := HS.out; subst hS; rfl
      obtain ⟨C, hC⟩ : ∃ C, c.toNat = C := ⟨_, rfl⟩
      have f0 : S[0].toNat = C := by rw [e0, hC]
      by_cases h : C = 63
      · subst h
        obtain rfl : q = true := by
          rcases hq' with ⟨h, _⟩ | ⟨_, h⟩
          · exact h
          · exact absurd ⟨c, t, rfl, hC⟩ h
        clear hq'
        go_wp2_with fail
        go_meet
        exact ⟨by first | rfl | (rw [hne]; rfl), rfl⟩
      · have qq : ((C : Int) == 63) = false := by rw [beq_eq_false_iff_ne]; omega
        obtain rfl : q = false := by
          rcases hq' with ⟨_, c', t', e, h'⟩ | ⟨h, _⟩
          · cases e; exact absurd (hC.symm.trans h') h
          · exact h
        clear hq' h
        go_wp2_with fail
        go_meet
        exact ⟨by first | rfl | (rw [hne]; rfl), rfl⟩
  case rest =>
  obtain ⟨rfl, rfl⟩ := hcut
  clear hq'
  go_upto_if 16 with fail
  go_cut [0] (fun t0 wx => ∃ (S' : ByteArray) (T' : List UInt8) (pr : Bool), t0 = .string S' ∧ Hid (S'.data.toList = T' ∧ T'.length ≤ T.length ∧ ordS T b = ordTail pr T' b) ∧ Hid (XBlk base (cmd b pr []) (.slice none 0 0) wx ∧ Below base w wx))
  case first =>
    cases q with
    | true =>
      obtain ⟨c, t, hT, h63⟩ : ∃ c t, T = c :: t ∧ c.toNat = 63 := by
        rcases HQ.out with ⟨_, h⟩ | ⟨h, _⟩
        · exact h
        · cases h
      obtain ⟨N, hN⟩ : ∃ N, T.length = N := ⟨_, rfl⟩
      have hs2 : S.size = N := HSt.out.trans hN
      have hN1 : (1 : Int) ≤ N := by rw [← hN, hT]; simp; omega
      have hx : S.extract 1 N = ⟨⟨t⟩⟩ := by
        apply bytes_ext
        rw [HS.out, ← hN, hT]
        simp [ByteArray.data_extract, List.extract]
      have HX := Lib.hid hx
      have hfin : Hid (t.length ≤ T.length ∧ ordS T b = ordTail true t b) := Lib.hid ⟨by rw [hT]; simp, by rw [hT]; unfold ordS; simp only; rw [if_pos h63]⟩
      clear hx hT h63 hN
      go_wp2_with fail
      go_meet
      exact ⟨_, t, true, rfl, Lib.hid ⟨by rw [HX.out], hfin.out.1, hfin.out.2⟩, Lib.hid ⟨HX1.out.setPriv true, HB1.out.setCell (p := ⟨base, 3, none⟩) (Nat.le_refl _) _⟩⟩
    | false =>
      have hfin : Hid (ordS T b = ordTail false T b) := Lib.hid (by
        have hn : ¬ ∃ c t, T = c :: t ∧ c.toNat = 63 := by
          rcases HQ.out with ⟨h, _⟩ | ⟨_, h⟩
          · cases h
          · exact h
        cases T with
        | nil => rfl
        | cons c t =>
          unfold ordS; simp only
          rw [if_neg (fun e => hn ⟨c, t, rfl, e⟩)])
      go_wp2_with fail
      go_meet
      exact ⟨S, T, false, rfl, Lib.hid ⟨by rw [HS.out], Nat.le_refl _, hfin.out⟩, Lib.hid ⟨HX1.out, HB1.out⟩⟩
  case rest =>
  obtain ⟨S', T', pr, rfl, HT', HXc⟩ := hcut
  obtain ⟨hT', hTl, hord⟩ := HT'.out
  obtain ⟨hXc, hBc⟩ := HXc.out
  have hbwc : base < wc.heap.size := hXc.lt
  rw [hord] at HP
  have HXb := Lib.hid hXc
  have HBc := Lib.hid hBc
  have hS'sz : S'.size = T'.length := by rw [← hT']; rfl
  have hTn : (T'.length : Int) ≤ 100000 := by have := HSt.out; omega
  have hS2 : S' = ⟨⟨T'⟩⟩ := bytes_ext hT'
  have HS2 := Lib.hid hS2
  clear HQ hT' hTl hord hXc hBc HT' HXc HX1 HB1 hS2 HS HSt
  cases T' with
  | nil =>
    have hS2 := HS2.out
    subst hS2
    have c0 := HXb.out.c base 0
    have c1 := HXb.out.c base 1
    have c2 := HXb.out.c base 2
    have c3 := HXb.out.c base 3
    have c4 := HXb.out.c base 4
    have c5 := HXb.out.c base 5
    simp only [xArr, cmd, List.getElem?_toArray, List.getElem?_cons_succ, List.getElem?_cons_zero, strV] at c0 c1 c2 c3 c4 c5
    go_wp2
    rw [← HP.out]
    exact ⟨_, rfl, OwnX.lit2 (Nat.le_of_lt hbwc) (cmd b pr []) (.slice none 0 0) (OwnI.nil _ _), HBc.out.alloc (Nat.le_of_lt hbwc) _⟩
  | cons ch t =>
    obtain ⟨T', hTT⟩ : ∃ T', ch :: t = T' := ⟨_, rfl⟩
    have hie : S'.toList.isEmpty = false := by rw [HS2.out, ByteArray.toList_eq]; rfl
    have hot : ordTail pr (ch :: t) b = answer pr b (ordGo 0 [] T') := by
      unfold ordTail
      rw [if_neg (by simp), hTT]
      cases ordGo 0 [] T' <;> rfl
    rw [hot] at HP
    rw [hTT] at HS2 hS'sz hTn
    obtain ⟨G, hG⟩ : ∃ G, ordGo 0 [] T' = G := ⟨_, rfl⟩
    rw [hG] at HP
    obtain ⟨N, hN⟩ : ∃ N, T'.length = N := ⟨_, rfl⟩
    rw [hN] at hS'sz hTn
    have HTN := Lib.hid hN
    have HG := Lib.hid hG
    clear hTT hot hG hN
    go_wp2_with fail
    go_loopw [6, 7] (fun u i wr => ∃ (j : Nat) (n : Int) (nums : List Int) (nv : Value), i = .int .i64 (j : Int) ∧ u = .int .i64 n ∧ 0 ≤ n ∧ n ≤ 9999 ∧ j ≤ N + 1 ∧ base < wr.heap.size ∧ Hid (Below base w wr ∧ XBlk base (cmd b pr nums) nv wr ∧ OwnI base nv nums wr ∧ nums.length ≤ 16 ∧ ((j ≤ N ∧ ordGo n nums (T'.drop j) = G) ∨ (j = N + 1 ∧ some nums = G)))) (fun _ i _ => N + 1 - (intOf i).toNat)
    case atStart => exact ⟨0, 0, [], _, rfl, rfl, by omega, by omega, by omega, hbwc, Lib.hid ⟨HBc.out, HXb.out, OwnI.nil _ _, by simp, .inl ⟨by omega, by rw [List.drop_zero]; exact HG.out⟩⟩⟩
    case round =>
      rename_i wr
      obtain ⟨j, n, nums, nv, rfl, rfl, hn0, hn9, hj, hbw, HF⟩ := hrel
      obtain ⟨hB, hX, hN, hK16, hans⟩ := HF.out
      obtain ⟨an, cn, rfl, _⟩ := Go.Proofs.YtfapmgecebcfaaaDoor.W.OwnI.shape hN
      have c0 := hX.c base 0
      have c1 := hX.c base 1
      have c2 := hX.c base 2
      have c3 := hX.c base 3
      have c4 := hX.c base 4
      have c5 := hX.c base 5
      simp only [xArr, cmd, List.getElem?_toArray, List.getElem?_cons_succ, List.getElem?_cons_zero, strV] at c0 c1 c2 c3 c4 c5
      have HB := Lib.hid hB
      have HX := Lib.hid hX
      have HN := Lib.hid hN
      obtain ⟨K, hK⟩ : ∃ K, nums.length = K := ⟨_, rfl⟩
      have HKl := Lib.hid hK
      rw [hK] at c4 HX HN hK16
      clear hB hX hN HF hK
      by_cases hjN : j ≤ N
      · have hgo : ordGo n nums (T'.drop j) = G := by
          rcases hans with ⟨_, h⟩ | ⟨h, _⟩
          · exact h
          · omega
        clear hans
        by_cases hlt : j < N
        · have hjT : j < T'.length := by rw [HTN.out]; exact hlt
          have hjS : j < S'.size := by omega
          obtain ⟨C, hC⟩ : ∃ C, T'[j].toNat = C := ⟨_, rfl⟩
          have eS : S'[j] = T'[j] := by have h := HS2.out; subst h; rfl
          have fS : S'[j].toNat = C := by rw [eS, hC]
          have hC256 : (C : Int) < 256 := by have := T'[j].toNat_lt; omega
          have hd1 : decide (j ≤ N) = true := by simp; omega
          have hd2 : decide (j < N) = true := by simp; omega
          by_cases h1 : 48 ≤ C ∧ C ≤ 57
          · have hst := ordGo_digit (n := n) (l := nums) hjT (by rw [hC]; exact h1)
            rw [hgo, hC] at hst
            have HSt2 := Lib.hid hst
            obtain ⟨h1a, h1b⟩ := h1
            have q1 : decide ((48 : Int) ≤ C) = true := by simp; omega
            have q2 : decide ((C : Int) ≤ 57) = true := by simp; omega
            clear hst hgo hC eS
            go_wp2
            go_roundw
            case rel => exact ⟨j + 1, min 9999 (10 * n + (C : Int) - 48), nums, _, by go_num, rfl, by omega, by omega, by omega, hbw, Lib.hid ⟨HB.out, HX.out, HN.out, by have := HKl.out; omega, .inl ⟨by omega, HSt2.out.symm⟩⟩⟩
            case measure => simp [intOf] <;> omega
          · have hcd : (decide ((48 : Int) ≤ C) && decide ((C : Int) ≤ 57)) = false := by
              by_cases h : 48 ≤ C
              · rw [show decide ((C : Int) ≤ 57) = false from by simp; omega, Bool.and_false]
              · rw [show decide ((48 : Int) ≤ C) = false from by simp; omega]; rfl
            by_cases h2 : C = 59 ∨ C = 58
            · have hst := ordGo_sep (n := n) (l := nums) hjT (by rw [hC]; exact h2)
              rw [hgo] at hst
              have HSt2 := Lib.hid hst
              clear hst hgo hC eS hcd h1
              rcases h2 with rfl | rfl
              all_goals
                by_cases hp : K < 16
                · have hd16 : decide ((K : Int) < 16) = true := by simp; omega
                  have hpu : push nums n = nums ++ [n] := by unfold push; rw [if_pos (by have := HKl.out; omega)]
                  have HPu := Lib.hid hpu
                  have HK16 := Lib.hid hp
                  clear hpu hp
                  go_wp2_with (at_builtin; refine Go.Proofs.YtfapmgecebcfaaaDoor.W.wpList_append_ints rfl _ _ rfl rfl base _ nums (some ⟨wr.heap.size, 0, none⟩) 1 1 [n] rfl rfl (OwnI.alloc HN.out _) (Go.Proofs.YtfapmgecebcfaaaDoor.W.ints_one wr n _) (fun e => by cases e) (by have := HKl.out; omega) (by simp) (by simp; omega) ?_)
                  intro v4 w4 hown4 hgr
                  obtain ⟨a4, c4', rfl, _⟩ := Go.Proofs.YtfapmgecebcfaaaDoor.W.OwnI.shape hown4
                  have hX4 : XBlk base (cmd b pr nums) _ w4 := (hgr.block base (by simp; omega) (fun e => by
                    obtain ⟨cs, hcs, _⟩ := own_type HN.out e.symm
                    exact absurd (types_ne hcs HX.out) (by decide))).trans ((World.grownBy_alloc wr _ none).block base hbw (by simp) |>.trans HX.out)
                  have hB4 : Below base w w4 := (HB.out.alloc (Nat.le_of_lt hbw) _).grown hgr (by simp; omega) (fun q hq => Go.Proofs.YtfapmgecebcfaaaDoor.W.OwnI.ownBlock HN.out q hq)
                  have k4 := hX4.c base 4
                  have f4 := hX4.fr 4
                  simp only [xArr, cmd, List.getElem?_toArray, List.getElem?_cons_succ, List.getElem?_cons_zero] at k4
                  have HR : Hid (Below base w (w4.setCell ⟨base, 4, none⟩ (.slice a4 (nums ++ [n]).length c4')) ∧ XBlk base (cmd b pr (push nums n)) (.slice a4 (nums ++ [n]).length c4') (w4.setCell ⟨base, 4, none⟩ (.slice a4 (nums ++ [n]).length c4')) ∧ OwnI base (.slice a4 (nums ++ [n]).length c4') (push nums n) (w4.setCell ⟨base, 4, none⟩ (.slice a4 (nums ++ [n]).length c4')) ∧ (push nums n).length ≤ 16) :=
                    Lib.hid ⟨hB4.setCell (p := ⟨base, 4, none⟩) (Nat.le_refl _) _, by rw [HPu.out]; exact hX4.setNums _ _, by rw [HPu.out]; exact ownI_setX hown4 hX4, by rw [HPu.out, List.length_append]; have := HKl.out; have := HK16.out; simp; omega⟩
                  have hbw4 : base < (w4.setCell ⟨base, 4, none⟩ (.slice a4 (nums ++ [n]).length c4')).heap.size := HR.out.2.1.lt
                  obtain ⟨L4, hL4⟩ : ∃ L4, (nums ++ [n]).length = L4 := ⟨_, rfl⟩
                  rw [hL4] at HR hbw4 ⊢
                  clear hown4 hgr hX4 hB4 HX HN hL4
                  go_wp2
                  go_roundw
                  case rel => exact ⟨j + 1, 0, push nums n, _, by go_num, rfl, by omega, by omega, by omega, hbw4, Lib.hid ⟨HR.out.1, HR.out.2.1, HR.out.2.2.1, HR.out.2.2.2, .inl ⟨by omega, HSt2.out.symm⟩⟩⟩
                  case measure => simp [intOf] <;> omega
                · have hd16 : decide ((K : Int) < 16) = false := by simp; omega
                  have hpu : push nums n = nums := by unfold push; rw [if_neg (by have := HKl.out; omega)]
                  have HPu := Lib.hid hpu
                  clear hpu hp
                  go_wp2
                  go_roundw
                  case rel => exact ⟨j + 1, 0, push nums n, _, by go_num, rfl, by omega, by omega, by omega, hbw, Lib.hid ⟨HB.out, by rw [HPu.out]; exact HX.out, by rw [HPu.out]; exact HN.out, by rw [HPu.out]; have := HKl.out; omega, .inl ⟨by omega, HSt2.out.symm⟩⟩⟩
                  case measure => simp [intOf] <;> omega
            · have hst := ordGo_none (n := n) (l := nums) hjT (by rw [hC]; exact h1) (by rw [hC]; exact h2)
              rw [hgo] at hst
              subst hst
              have q59 : ((C : Int) != 59) = true := by rw [bne_iff_ne]; omega
              have q58 : ((C : Int) != 58) = true := by rw [bne_iff_ne]; omega
              rcases (show C < 48 ∨ (48 ≤ C ∧ 57 < C) by omega) with r | ⟨r, r2⟩
              all_goals
                clear hgo hC eS hcd h1 h2
                go_wp2
                rw [← HP.out]
                exact ⟨_, rfl, OwnX.nil _ _, HB.out⟩
        · obtain rfl : j = N := by omega
          have hgo' : some (push nums n) = G := by
            rw [← hgo, List.drop_of_length_le (by rw [HTN.out]; exact Nat.le_refl _)]; rfl
          have HGo := Lib.hid hgo'
          have hd2 : decide (j < j) = false := by simp
          clear hgo hgo' hlt hjN
          by_cases hp : K < 16
          · have hd16 : decide ((K : Int) < 16) = true := by simp; omega
            have hpu : push nums n = nums ++ [n] := by unfold push; rw [if_pos (by have := HKl.out; omega)]
            have HPu := Lib.hid hpu
            have HK16 := Lib.hid hp
            clear hpu hp
            go_wp2_with (at_builtin; refine Go.Proofs.YtfapmgecebcfaaaDoor.W.wpList_append_ints rfl _ _ rfl rfl base _ nums (some ⟨wr.heap.size, 0, none⟩) 1 1 [n] rfl rfl (OwnI.alloc HN.out _) (Go.Proofs.YtfapmgecebcfaaaDoor.W.ints_one wr n _) (fun e => by cases e) (by have := HKl.out; omega) (by simp) (by simp; omega) ?_)
            intro v4 w4 hown4 hgr
            obtain ⟨a4, c4', rfl, _⟩ := Go.Proofs.YtfapmgecebcfaaaDoor.W.OwnI.shape hown4
            have hX4 : XBlk base (cmd b pr nums) _ w4 := (hgr.block base (by simp; omega) (fun e => by
              obtain ⟨cs, hcs, _⟩ := own_type HN.out e.symm
              exact absurd (types_ne hcs HX.out) (by decide))).trans ((World.grownBy_alloc wr _ none).block base hbw (by simp) |>.trans HX.out)
            have hB4 : Below base w w4 := (HB.out.alloc (Nat.le_of_lt hbw) _).grown hgr (by simp; omega) (fun q hq => Go.Proofs.YtfapmgecebcfaaaDoor.W.OwnI.ownBlock HN.out q hq)
            have k4 := hX4.c base 4
            have f4 := hX4.fr 4
            simp only [xArr, cmd, List.getElem?_toArray, List.getElem?_cons_succ, List.getElem?_cons_zero] at k4
            have HR : Hid (Below base w (w4.setCell ⟨base, 4, none⟩ (.slice a4 (nums ++ [n]).length c4')) ∧ XBlk base (cmd b pr (push nums n)) (.slice a4 (nums ++ [n]).length c4') (w4.setCell ⟨base, 4, none⟩ (.slice a4 (nums ++ [n]).length c4')) ∧ OwnI base (.slice a4 (nums ++ [n]).length c4') (push nums n) (w4.setCell ⟨base, 4, none⟩ (.slice a4 (nums ++ [n]).length c4')) ∧ (push nums n).length ≤ 16) :=
              Lib.hid ⟨hB4.setCell (p := ⟨base, 4, none⟩) (Nat.le_refl _) _, by rw [HPu.out]; exact hX4.setNums _ _, by rw [HPu.out]; exact ownI_setX hown4 hX4, by rw [HPu.out, List.length_append]; have := HKl.out; have := HK16.out; simp; omega⟩
            have hbw4 : base < (w4.setCell ⟨base, 4, none⟩ (.slice a4 (nums ++ [n]).length c4')).heap.size := HR.out.2.1.lt
            obtain ⟨L4, hL4⟩ : ∃ L4, (nums ++ [n]).length = L4 := ⟨_, rfl⟩
            rw [hL4] at HR hbw4 ⊢
            clear hown4 hgr hX4 hB4 HX HN hL4
            go_wp2
            go_roundw
            case rel => exact ⟨j + 1, 0, push nums n, _, by go_num, rfl, by omega, by omega, by omega, hbw4, Lib.hid ⟨HR.out.1, HR.out.2.1, HR.out.2.2.1, HR.out.2.2.2, .inr ⟨by omega, HGo.out⟩⟩⟩
            case measure => simp [intOf] <;> omega
          · have hd16 : decide ((K : Int) < 16) = false := by simp; omega
            have hpu : push nums n = nums := by unfold push; rw [if_neg (by have := HKl.out; omega)]
            have HPu := Lib.hid hpu
            clear hpu hp
            go_wp2
            go_roundw
            case rel => exact ⟨j + 1, 0, push nums n, _, by go_num, rfl, by omega, by omega, by omega, hbw, Lib.hid ⟨HB.out, by rw [HPu.out]; exact HX.out, by rw [HPu.out]; exact HN.out, by rw [HPu.out]; have := HKl.out; omega, .inr ⟨by omega, HGo.out⟩⟩⟩
            case measure => simp [intOf] <;> omega
      · obtain rfl : j = N + 1 := by omega
        have hG : some nums = G := by
          rcases hans with ⟨h, _⟩ | ⟨_, h⟩
          · omega
          · exact h
        subst hG
        have hd1 : decide ((N : Int) + 1 ≤ N) = false := by simp; omega
        clear hans hjN hj
        go_wp2
        rw [← HP.out]
        exact ⟨_, rfl, OwnX.lit2 (Nat.le_of_lt hbw) (cmd b pr nums) _ HN.out, HB.out.alloc (Nat.le_of_lt hbw) _⟩
end Go.Proofs.YtfapmgecebcfaaaDoor.Q
