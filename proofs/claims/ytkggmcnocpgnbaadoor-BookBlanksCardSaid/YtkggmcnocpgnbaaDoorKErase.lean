/- The contracts of the document's Erase and Fill. -/
import Derived.Test.YtkggmcnocpgnbaaDoorKMend
namespace Go.Proofs.YtkggmcnocpgnbaaDoor.K
open Go.RowKit

/-- a row that was handed in, boxed, and one for the answer -/
structure St0 (t t2 : TypeId) (rb : Nat) (v : Value) (b : Bool) (w w2 : World) : Prop where
  below : Below rb w w2
  r : RoB t rb v b w2
  q : RoB t2 (rb + 1) (.slice none 0 0) false w2
  size : rb + 2 ≤ w2.heap.size
theorem St0.start (t t2 : TypeId) (w : World) (v : Value) (b : Bool) : St0 t t2 w.heap.size v b w ((w.alloc (.cells #[v, .bool b] t)).alloc (.cells #[.slice none 0 0, .bool false] t2)) := by
  have h1 := RoB.new t w v b
  have h2 := RoB.new t2 (w.alloc (.cells #[v, .bool b] t)) (.slice none 0 0) false
  rw [World.size_alloc] at h2
  exact ⟨((Below.refl _ _).alloc (Nat.le_refl _) _).alloc (by simp) _, h1.belowAll ((Below.refl _ _).alloc (Nat.le_refl _) _), h2, by simp⟩
theorem St0.more {t t2 : TypeId} {rb : Nat} {v : Value} {b : Bool} {w w2 w3 : World} (h : St0 t t2 rb v b w w2) (hb : Below (rb + 2) w2 w3) : St0 t t2 rb v b w w3 :=
  ⟨h.below.trans (hb.mono (by omega)), h.r.below hb (by omega), h.q.below hb (by omega), Nat.le_trans h.size hb.size⟩
/-- append upon a new one -/
theorem below_grew {base B : Nat} {T : TypeId} {v v' : Value} {n : Nat} {out : List Value} {w0 w w' : World} (h : Below B w0 w) (g : U.Grew base T 3 v n out w v' w') (hown : ∀ q, v.ownBlock = some q → B ≤ q) (hs : B ≤ w.heap.size) : Below B w0 w' := h.grown g.grown hs hown
def erF (a b s : Int) (i : Nat) (c : Cel) : Cel := if a ≤ (i : Int) ∧ (i : Int) < b then blk s else c
def eraseJ (l : List Cel) (a b s : Int) (j : Nat) : List Cel := (l.mapIdx (erF a b s)).take j ++ l.drop j
theorem eraseJ_zero (l : List Cel) (a b s : Int) : eraseJ l a b s 0 = l := by simp [eraseJ]
theorem eraseJ_length (l : List Cel) (a b s : Int) (j : Nat) : (eraseJ l a b s j).length = l.length := by
  unfold eraseJ; rw [List.length_append, List.length_take, List.length_mapIdx, List.length_drop]; omega
theorem eraseJ_all (l : List Cel) (a b s : Int) : mend (eraseJ l a b s l.length) = eraseS l a b s := by
  unfold eraseJ eraseS
  rw [List.drop_length, List.append_nil, List.take_of_length_le (by rw [List.length_mapIdx]; exact Nat.le_refl _)]
  rfl
theorem eraseJ_succ (l : List Cel) (a b s : Int) (j : Nat) (h : j < l.length) : eraseJ l a b s (j + 1) = (eraseJ l a b s j).set j (erF a b s j l[j]) := by
  unfold eraseJ
  have hm : j < (l.mapIdx (erF a b s)).length := by rw [List.length_mapIdx]; exact h
  have h1 : ((l.mapIdx (erF a b s)).take j).length = j := by rw [List.length_take]; omega
  rw [List.take_succ_eq_append_getElem hm, List.getElem_mapIdx, List.set_append_right _ _ (by omega), h1, Nat.sub_self, List.drop_eq_getElem_cons h, List.set_cons_zero, List.append_assoc]
  rfl
theorem eraseJ_out (l : List Cel) (a b s : Int) (j : Nat) (h : j < l.length) (hn : ¬ (a ≤ (j : Int) ∧ (j : Int) < b)) : eraseJ l a b s (j + 1) = eraseJ l a b s j := by
  unfold eraseJ
  have hm : j < (l.mapIdx (erF a b s)).length := by rw [List.length_mapIdx]; exact h
  have he : erF a b s j l[j] = l[j] := by unfold erF; rw [if_neg hn]
  rw [List.take_succ_eq_append_getElem hm, List.getElem_mapIdx, List.drop_eq_getElem_cons h, List.append_assoc, he]
  rfl
theorem eraseJ_in (l : List Cel) (a b s : Int) (j : Nat) (h : j < l.length) (hn : a ≤ (j : Int) ∧ (j : Int) < b) : eraseJ l a b s (j + 1) = (eraseJ l a b s j).set j (blk s) := by
  rw [eraseJ_succ l a b s j h]; unfold erF; rw [if_pos hn]

set_option maxRecDepth 100000 in
set_option maxHeartbeats 8000000 in
theorem refErase_any (a : Option Addr) (n c : Nat) (wr0 : Bool) (l : List Cel) (fr ut s : Int) (w : World) (hI : CelsIn .i64 a n l w) (hnil : a = none → c = 0) (hn : (n : Int) ≤ 1000000) : Calls Tryd.prog 96 #[.agg #[.slice a n c, .bool wr0], .int .i64 fr, .int .i64 ut, .int .i64 s] w (RowPost .i64 107 w.heap.size (eraseS l fr ut s) false w) := by
  obtain ⟨rb, hrb⟩ : ∃ rb, w.heap.size = rb := ⟨_, rfl⟩
  rw [hrb]
  obtain ⟨P, hP⟩ : ∃ P, RowPost .i64 107 rb (eraseS l fr ut s) false w = P := ⟨_, rfl⟩
  rw [hP]
  have HP := Lib.hid hP
  have hln := hI.len
  have hst := St0.start 38 38 w (.slice a n c) wr0
  obtain ⟨w2, hw2⟩ : ∃ w2, (w.alloc (.cells #[.slice a n c, .bool wr0] 38)).alloc (.cells #[.slice none 0 0, .bool false] 38) = w2 := ⟨_, rfl⟩
  rw [hw2, hrb] at hst
  have c0 := hst.r.c0
  have hsz2 : rb + 2 ≤ w2.heap.size := hst.size
  have hrb2 : rb < w2.heap.size := by omega
  have HSt := Lib.hid hst
  have HO2 := Lib.hid (OwnC.lit .i64 107 w2 (rb + 2) hst.size)
  have hI2 : CelsIn .i64 a n l (w2.alloc (.cells #[] 107)) := hI.belowAll (by rw [hrb]; exact hst.below.alloc (by have := hst.size; omega) _)
  have HI2 := Lib.hid hI2
  have HNil := Lib.hid hnil
  have HW2 := Lib.hid hw2
  have HRb := Lib.hid hrb
  have HLn := Lib.hid hln
  have HLz : Hid ((l.length : Int) ≤ 1000000) := Lib.hid (by rw [← hln]; exact hn)
  clear hP hst hI hI2 hnil hw2 hrb hln
  go_enter Tryd.func96, Tryd.ntmps96
  go_upto_region 1 with fail
  rw [HW2.out, HRb.out]
  go_wp2_with (at_builtin; refine wpList_append_cells refT rfl _ _ rfl rfl (rb + 2) _ [] a n c l rfl rfl HO2.out HI2.out HNil.out (by simp) HLz.out (by have := HSt.out.size; simp; omega) ?_)
  intro v3 w3 hown hgr
  have hb3 : Below (rb + 2) w2 w3 := below_grew ((Below.refl _ _).alloc HSt.out.size _) hgr (fun q hq => by have := (HO2.out.ownBlock q hq).1; omega) (by have := HSt.out.size; simp; omega)
  obtain ⟨a3, c3, he3, hin3, hblk3, -, hle3, hmx3⟩ := hown.shape
  rw [← HLn.out] at he3 hin3 hle3
  subst he3
  have HSt3 := Lib.hid (HSt.out.more hb3)
  have HO3 : Hid (OwnC .i64 107 (rb + 2) (.slice a3 n c3) (eraseJ l fr ut s 0) w3) := Lib.hid (by rw [eraseJ_zero]; exact hown)
  have HBlk3 := Lib.hid hblk3
  have HIn3 := Lib.hid hin3
  clear hown hgr hb3 hin3 hblk3 c0
  go_wp2_with fail
  go_loopw [17] (fun i wr => ∃ j : Nat, i = .int .i64 (j : Int) ∧ j ≤ n ∧ Hid (St0 38 38 rb (.slice a n c) wr0 w wr ∧ OwnC .i64 107 (rb + 2) (.slice a3 n c3) (eraseJ l fr ut s j) wr)) (fun i _ => n - (intOf i).toNat)
  case atStart => exact ⟨0, rfl, by omega, Lib.hid ⟨HSt3.out, HO3.out⟩⟩
  case round =>
    obtain ⟨j, rfl, hj, HF⟩ := hrel
    by_cases hlt : j < n
    · have hd : decide (j < n) = true := by simp; omega
      have hjl : j < l.length := by rw [← HLn.out]; exact hlt
      obtain ⟨b3, o3, rfl, hb3, -⟩ := HIn3.out.at_.resolve_left (by intro e; rw [e] at hjl; simp at hjl)
      obtain ⟨hb31, hb32, rfl⟩ := HBlk3.out b3 o3 rfl
      by_cases hin : fr ≤ (j : Int) ∧ (j : Int) < ut
      · have d1 : decide (fr ≤ (j : Int)) = true := by simp; omega
        have d2 : decide ((j : Int) < ut) = true := by simp; omega
        have HE := Lib.hid (eraseJ_in l fr ut s j hjl hin)
        have HOn : Hid (OwnC .i64 107 (rb + 2) (.slice (some ⟨b3, 0, none⟩) (eraseJ l fr ut s j).length c3) (eraseJ l fr ut s j) wr) := Lib.hid (by rw [eraseJ_length, ← HLn.out]; exact HF.out.2)
        have HJl : Hid (j < (eraseJ l fr ut s j).length) := Lib.hid (by rw [eraseJ_length]; exact hjl)
        clear hin
        go_wp2_with (refine wpList_store_cell refT rfl rfl _ _ rfl (rb + 2) b3 c3 (eraseJ l fr ut s j) j (blk s) rfl rfl HOn.out HJl.out ?_)
        intro w5 h5 hg5
        have HF5 : Hid (St0 38 38 rb (.slice a n c) wr0 w w5 ∧ OwnC .i64 107 (rb + 2) (.slice (some ⟨b3, 0, none⟩) n c3) (eraseJ l fr ut s (j + 1)) w5) := Lib.hid ⟨HF.out.1.more ((Below.refl _ _).grown hg5 HF.out.1.size (fun q hq => by cases hq; exact hb31)), by rw [HE.out]; rw [eraseJ_length, ← HLn.out] at h5; exact h5⟩
        clear h5 hg5
        go_wp2
        go_roundw
        case rel => exact ⟨j + 1, by go_num, by omega, HF5⟩
        case measure => simp [intOf]; omega
      · have hdd : decide (fr ≤ (j : Int)) = false ∨ (decide (fr ≤ (j : Int)) = true ∧ decide ((j : Int) < ut) = false) := by
          by_cases h : fr ≤ (j : Int)
          · right; exact ⟨by simp; omega, by simp; omega⟩
          · left; simp; omega
        have HF5 : Hid (St0 38 38 rb (.slice a n c) wr0 w wr ∧ OwnC .i64 107 (rb + 2) (.slice (some ⟨b3, 0, none⟩) n c3) (eraseJ l fr ut s (j + 1)) wr) := Lib.hid (by rw [eraseJ_out l fr ut s j hjl hin]; exact HF.out)
        clear hin
        rcases hdd with d1 | ⟨d1, d2⟩
        all_goals
          go_wp2
          go_roundw
          case rel => exact ⟨j + 1, by go_num, by omega, HF5⟩
          case measure => simp [intOf]; omega
    · obtain rfl : j = n := by omega
      have hd : decide ((j : Int) < (j : Int)) = false := by simp
      obtain ⟨a4, c4, he4, hin4, -⟩ := HF.out.2.shape
      rw [eraseJ_length, ← HLn.out] at he4 hin4
      obtain ⟨rfl, rfl⟩ : a3 = a4 ∧ c3 = c4 := by injection he4 with h1 h2 h3; exact ⟨h1, h3⟩
      have hm := refMend_any a3 j c3 (eraseJ l fr ut s j) wr hin4 hn
      have hme : mend (eraseJ l fr ut s j) = eraseS l fr ut s := by rw [HLn.out]; exact eraseJ_all l fr ut s
      rw [hme] at hm
      have HM := Lib.hid hm
      clear hm hme
      have q0 := HF.out.1.q.c0
      have hlw := HF.out.1.size
      have hrbw : rb + 1 < wr.heap.size := by omega
      clear he4 hin4
      go_wp2_with fail
      refine HM.out.mono ?_
      rintro e w5 ⟨v5, rfl, hO5, hb5⟩
      have HSt5 := Lib.hid (HF.out.1.more (hb5.mono HF.out.1.size))
      obtain ⟨a5, c5, he5, -⟩ := hO5.shape
      obtain ⟨n5, hn5⟩ : ∃ n5, (eraseS l fr ut s).length = n5 := ⟨_, rfl⟩
      rw [hn5] at he5
      subst he5
      have HO5 : Hid (OwnC .i64 107 (rb + 2) (.slice a5 n5 c5) (eraseS l fr ut s) w5) := Lib.hid (hO5.weaken HF.out.1.size)
      have x0 := HSt5.out.q.c0
      have x1 := HSt5.out.q.c1
      have f0 := HSt5.out.q.fr 0
      have f1 := HSt5.out.q.fr 1
      clear hO5 hb5 hn5 HM q0
      go_wp2_with fail
      refine bodyPost_ret (v := .agg #[.slice a5 n5 c5, .bool false]) (by rw [results_cell (fn := Tryd.f96) rfl]; go_simp <;> rfl) rfl ?_
      rw [← HP.out]
      exact ⟨_, rfl, (HO5.out.set2 (Nat.lt_succ_self (rb + 1)) _ _).weaken (by omega), below_set2 HSt5.out.below (by omega)⟩
end Go.Proofs.YtkggmcnocpgnbaaDoor.K
