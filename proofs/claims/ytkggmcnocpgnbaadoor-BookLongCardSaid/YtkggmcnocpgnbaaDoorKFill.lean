/- The contracts of the document's Fill and Resize. -/
import Derived.Test.YtkggmcnocpgnbaaDoorKIns
namespace Go.Proofs.YtkggmcnocpgnbaaDoor.K
open Go.RowKit

theorem OwnC.setCell {rk : IntKind} {T : TypeId} {base : Nat} {v : Value} {l : List Cel} {w : World} (h : OwnC rk T base v l w) {p : Nat} (hp : ∀ q, v.ownBlock = some q → q ≠ p) (o : Nat) (x : Value) : OwnC rk T base v l (w.setCell ⟨p, o, none⟩ x) :=
  h.kept (row := some p) ⟨rfl, rfl, rfl, (KeepsWalks.setCell w _ x).size, fun i _ hi => Below.heap_setCell _ _ _ i (fun e => hi (by rw [e]))⟩ (fun q hq e => hp q hq (Option.some.inj e).symm)
theorem set_last {α : Type} (l : List α) (x : α) (h : l ≠ []) : l.set (l.length - 1) x = l.take (l.length - 1) ++ [x] := by
  obtain ⟨y, ys, rfl⟩ : ∃ y ys, l = ys ++ [y] := ⟨l.getLast h, l.dropLast, (List.dropLast_concat_getLast h).symm⟩
  simp
theorem fill_cons (l : List Cel) (s : Int) (h : l ≠ []) : fillS l s = mend (l.set (l.length - 1) ⟨32, s, 3⟩) := by
  unfold fillS; rw [if_neg h, set_last l _ h]

set_option maxRecDepth 100000 in
set_option maxHeartbeats 8000000 in
theorem refFill_any (a : Option Addr) (n c : Nat) (wr0 : Bool) (l : List Cel) (s : Int) (w : World) (hI : CelsIn .i64 a n l w) (hnil : a = none → c = 0) (hcap : n ≤ c) (hmax : (c : Int) ≤ 9223372036854775807) (hn : (n : Int) ≤ 1000) : Calls Tryd.prog 102 #[.agg #[.slice a n c, .bool wr0], .int .i64 s] w (RowPost .i64 107 w.heap.size (fillS l s) true w) := by
  obtain ⟨rb, hrb⟩ : ∃ rb, w.heap.size = rb := ⟨_, rfl⟩
  rw [hrb]
  obtain ⟨P, hP⟩ : ∃ P, RowPost .i64 107 rb (fillS l s) true w = P := ⟨_, rfl⟩
  rw [hP]
  have HP := Lib.hid hP
  have hln := hI.len
  have hst := St0.start 38 38 w (.slice a n c) wr0
  obtain ⟨w2, hw2⟩ : ∃ w2, (w.alloc (.cells #[.slice a n c, .bool wr0] 38)).alloc (.cells #[.slice none 0 0, .bool false] 38) = w2 := ⟨_, rfl⟩
  rw [hw2, hrb] at hst
  have c0 := hst.r.c0
  have c1 := hst.r.c1
  have q0 := hst.q.c0
  have q1 := hst.q.c1
  have q2 := hst.q.fr 0
  have q3 := hst.q.fr 1
  have hsz2 : rb + 2 ≤ w2.heap.size := hst.size
  have hrb2 : rb < w2.heap.size := by omega
  have hrb3 : rb + 1 < w2.heap.size := by omega
  have HSt := Lib.hid hst
  have HO2 := Lib.hid (OwnC.lit .i64 107 w2 (rb + 2) hst.size)
  have hI2 : CelsIn .i64 a n l w2 := hI.belowAll (by rw [hrb]; exact hst.below)
  have HI2 := Lib.hid hI2
  have HNil := Lib.hid hnil
  have HW2 := Lib.hid hw2
  have HRb := Lib.hid hrb
  have HLn := Lib.hid hln
  have HLz : Hid ((l.length : Int) ≤ 1000000) := Lib.hid (by rw [← hln]; omega)
  have HI0 := Lib.hid hI
  clear hP hst hI hI2 hnil hw2 hrb hln
  go_enter Tryd.func102, Tryd.ntmps102
  go_upto_region 1 with fail
  rw [HW2.out, HRb.out]
  have HI3 := Lib.hid (CelsIn.belowAll (w' := w2.alloc (.cells #[] 107)) HI2.out ((Below.refl _ _).alloc (Nat.le_refl _) _))
  go_wp2_with (at_builtin; refine wpList_append_cells refT rfl _ _ rfl rfl (rb + 2) _ [] a n c l rfl rfl HO2.out HI3.out HNil.out (by simp) HLz.out (by have := HSt.out.size; simp; omega) ?_)
  intro v3 w3 hown hgr
  have hb3 : Below (rb + 2) w2 w3 := below_grew ((Below.refl _ _).alloc HSt.out.size _) hgr (fun q hq => by have := (HO2.out.ownBlock q hq).1; omega) (by have := HSt.out.size; simp; omega)
  obtain ⟨a3, c3, he3, hin3, hblk3, -, hle3, hmx3⟩ := hown.shape
  rw [← HLn.out] at he3 hin3 hle3
  subst he3
  have HSt3 := Lib.hid (HSt.out.more hb3)
  have HO3 := Lib.hid hown
  have HBlk3 := Lib.hid hblk3
  have HIn3 := Lib.hid hin3
  clear hown hgr hb3 hin3 hblk3
  by_cases hn0 : n = 0
  · obtain ⟨Q, hQ⟩ : ∃ Q, l = Q := ⟨_, rfl⟩
    have hS : fillS l s = mend Q := by unfold fillS; rw [if_pos (List.length_eq_zero_iff.1 (by rw [← HLn.out]; exact hn0)), ← hQ, List.length_eq_zero_iff.1 (show l.length = 0 by rw [← HLn.out]; exact hn0)]
    rw [hS] at HP
    have HStQ := HSt3
    have HM := Lib.hid (refMend_any a3 0 c3 Q w3 (by rw [← hQ, ← hn0]; exact HIn3.out) (by omega))
    clear hQ hS
    subst hn0
    go_wp2_with fail
    refine HM.out.mono ?_
    rintro e w9 ⟨v9, rfl, hO9, hb9⟩
    have HSt9 := Lib.hid (HStQ.out.more (hb9.mono HStQ.out.size))
    obtain ⟨a9, c9, he9, -⟩ := hO9.shape
    obtain ⟨n9, hn9⟩ : ∃ n9, (mend Q).length = n9 := ⟨_, rfl⟩
    rw [hn9] at he9
    subst he9
    have HO9 : Hid (OwnC .i64 107 (rb + 2) (.slice a9 n9 c9) (mend Q) w9) := Lib.hid (hO9.weaken HStQ.out.size)
    have x0 := HSt9.out.q.c0
    have x1 := HSt9.out.q.c1
    have f0 := HSt9.out.q.fr 0
    have f1 := HSt9.out.q.fr 1
    clear hO9 hb9 hn9 HM
    go_upto_region 5 with fail
    have hr10 := RoB.new 38 w9 (.slice a9 n9 c9) false
    have hO10 := HO9.out.alloc (.cells #[.slice a9 n9 c9, .bool false] 38)
    have hS10 := HSt9.out.more ((Below.refl _ _).alloc HSt9.out.size (.cells #[.slice a9 n9 c9, .bool false] 38))
    obtain ⟨w10, hw10⟩ : ∃ w10, w9.alloc (.cells #[.slice a9 n9 c9, .bool false] 38) = w10 := ⟨_, rfl⟩
    have hz10 : w10.heap.size = w9.heap.size + 1 := by rw [← hw10]; exact World.size_alloc _ _
    rw [hw10] at hr10 hO10 hS10
    rw [hw10]
    obtain ⟨q, hq⟩ : ∃ q, w9.heap.size = q := ⟨_, rfl⟩
    have hq2 : rb + 2 ≤ q := by rw [← hq]; exact HSt9.out.size
    rw [hq] at hr10 hz10
    rw [hq]
    have y0 := hr10.c0
    have y1 := hr10.c1
    have y2 := hr10.fr 0
    have y3 := hr10.fr 1
    have x0 := hS10.q.c0
    have x1 := hS10.q.c1
    have f0 := hS10.q.fr 0
    have f1 := hS10.q.fr 1
    have HO10 : Hid (OwnC .i64 107 (rb + 2) (.slice a9 n9 c9) (mend Q) (w10.setCell ⟨q, 1, none⟩ (.bool true))) := Lib.hid (hO10.setCell (fun q' h' => by have := (HO9.out.ownBlock q' h').2; omega) 1 _)
    have HB10 : Hid (Below rb w (w10.setCell ⟨q, 1, none⟩ (.bool true))) := Lib.hid (hS10.below.setCell (p := ⟨q, 1, none⟩) (by show rb ≤ q; omega) _)
    have hqr : ¬ q = rb + 1 := by omega
    clear hr10 hO10 hS10 hw10 hq
    go_wp2_with fail
    refine bodyPost_ret (v := .agg #[.slice a9 n9 c9, .bool true]) (by rw [results_cell (fn := Tryd.f102) rfl]; go_simp <;> rfl) rfl ?_
    rw [← HP.out]
    exact ⟨_, rfl, (HO10.out.set2 (Nat.lt_succ_self (rb + 1)) _ _).weaken (by omega), below_set2 HB10.out (by omega)⟩
  · obtain ⟨m, rfl⟩ : ∃ m, n = m + 1 := ⟨n - 1, by omega⟩
    have hne : l ≠ [] := by intro e; have := HLn.out; rw [e] at this; simp at this
    obtain ⟨b3, o3, rfl, hb3, -⟩ := HIn3.out.at_.resolve_left hne
    obtain ⟨hb31, hb32, rfl⟩ := HBlk3.out b3 o3 rfl
    have HOn : Hid (OwnC .i64 107 (rb + 2) (.slice (some ⟨b3, 0, none⟩) l.length c3) l w3) := Lib.hid (by rw [← HLn.out]; exact HO3.out)
    have HJl : Hid (m < l.length) := Lib.hid (by rw [← HLn.out]; omega)
    have hS : fillS l s = mend (l.set m ⟨32, s, 3⟩) := by rw [fill_cons l s hne, ← HLn.out]; rfl
    obtain ⟨Q, hQ⟩ : ∃ Q, l.set m ⟨32, s, 3⟩ = Q := ⟨_, rfl⟩
    rw [hS, hQ] at HP
    have HQ := Lib.hid hQ
    have hQl : Q.length = m + 1 := by rw [← hQ, List.length_set, ← HLn.out]
    clear hS hQ hn0 hne
    go_wp2_with (refine wpList_store_cell refT rfl rfl _ _ rfl (rb + 2) b3 c3 l m ⟨32, s, 3⟩ rfl rfl HOn.out HJl.out ?_)
    intro w5 h5 hg5
    rw [HQ.out, ← HLn.out] at h5
    have HStQ := Lib.hid (HSt3.out.more ((Below.refl _ _).grown hg5 HSt3.out.size (fun q hq => by cases hq; exact hb31)))
    obtain ⟨a6, c6, he6, hin6, -⟩ := h5.shape
    rw [hQl] at he6 hin6
    obtain ⟨rfl, rfl⟩ : some ⟨b3, 0, none⟩ = a6 ∧ c3 = c6 := by injection he6 with h1 h2 h3; exact ⟨h1, h3⟩
    have HM := Lib.hid (refMend_any _ (m + 1) c3 Q w5 hin6 (by omega))
    clear h5 hg5 he6 hin6
    go_wp2_with fail
    refine HM.out.mono ?_
    rintro e w9 ⟨v9, rfl, hO9, hb9⟩
    have HSt9 := Lib.hid (HStQ.out.more (hb9.mono HStQ.out.size))
    obtain ⟨a9, c9, he9, -⟩ := hO9.shape
    obtain ⟨n9, hn9⟩ : ∃ n9, (mend Q).length = n9 := ⟨_, rfl⟩
    rw [hn9] at he9
    subst he9
    have HO9 : Hid (OwnC .i64 107 (rb + 2) (.slice a9 n9 c9) (mend Q) w9) := Lib.hid (hO9.weaken HStQ.out.size)
    have x0 := HSt9.out.q.c0
    have x1 := HSt9.out.q.c1
    have f0 := HSt9.out.q.fr 0
    have f1 := HSt9.out.q.fr 1
    clear hO9 hb9 hn9 HM
    go_upto_region 5 with fail
    have hr10 := RoB.new 38 w9 (.slice a9 n9 c9) false
    have hO10 := HO9.out.alloc (.cells #[.slice a9 n9 c9, .bool false] 38)
    have hS10 := HSt9.out.more ((Below.refl _ _).alloc HSt9.out.size (.cells #[.slice a9 n9 c9, .bool false] 38))
    obtain ⟨w10, hw10⟩ : ∃ w10, w9.alloc (.cells #[.slice a9 n9 c9, .bool false] 38) = w10 := ⟨_, rfl⟩
    have hz10 : w10.heap.size = w9.heap.size + 1 := by rw [← hw10]; exact World.size_alloc _ _
    rw [hw10] at hr10 hO10 hS10
    rw [hw10]
    obtain ⟨q, hq⟩ : ∃ q, w9.heap.size = q := ⟨_, rfl⟩
    have hq2 : rb + 2 ≤ q := by rw [← hq]; exact HSt9.out.size
    rw [hq] at hr10 hz10
    rw [hq]
    have y0 := hr10.c0
    have y1 := hr10.c1
    have y2 := hr10.fr 0
    have y3 := hr10.fr 1
    have x0 := hS10.q.c0
    have x1 := hS10.q.c1
    have f0 := hS10.q.fr 0
    have f1 := hS10.q.fr 1
    have HO10 : Hid (OwnC .i64 107 (rb + 2) (.slice a9 n9 c9) (mend Q) (w10.setCell ⟨q, 1, none⟩ (.bool true))) := Lib.hid (hO10.setCell (fun q' h' => by have := (HO9.out.ownBlock q' h').2; omega) 1 _)
    have HB10 : Hid (Below rb w (w10.setCell ⟨q, 1, none⟩ (.bool true))) := Lib.hid (hS10.below.setCell (p := ⟨q, 1, none⟩) (by show rb ≤ q; omega) _)
    have hqr : ¬ q = rb + 1 := by omega
    clear hr10 hO10 hS10 hw10 hq
    go_wp2_with fail
    refine bodyPost_ret (v := .agg #[.slice a9 n9 c9, .bool true]) (by rw [results_cell (fn := Tryd.f102) rfl]; go_simp <;> rfl) rfl ?_
    rw [← HP.out]
    exact ⟨_, rfl, (HO10.out.set2 (Nat.lt_succ_self (rb + 1)) _ _).weaken (by omega), below_set2 HB10.out (by omega)⟩

/-- what a call answers that makes a row, or hands one on -/
def RowRet (rk : IntKind) (base : Nat) (a0 : Option Addr) (n0 : Nat) (l : List Cel) (b : Bool) (w : World) (e : Ending) (w' : World) : Prop := ∃ a c, e = .returned (.agg #[.slice a l.length c, .bool b]) ∧ CelsIn rk a l.length l w' ∧ (a = none → c = 0) ∧ l.length ≤ c ∧ (c : Int) ≤ 9223372036854775807 ∧ Below base w w' ∧ ((a = a0 ∧ l.length = n0) ∨ ∀ b off, a = some ⟨b, off, none⟩ → base ≤ b)
theorem RowPost.ret {rk : IntKind} {T : TypeId} {base : Nat} {l : List Cel} {b : Bool} {w : World} {e : Ending} {w' : World} (h : RowPost rk T base l b w e w') (a0 : Option Addr) (n0 : Nat) : RowRet rk base a0 n0 l b w e w' := by
  obtain ⟨v, he, hO, hb⟩ := h
  obtain ⟨a, c, rfl, h1, h2, h3, h4, h5⟩ := hO.shape
  exact ⟨a, c, he, h1, h3, h4, h5, hb, .inr (fun b off e => (h2 b off e).1)⟩

set_option maxRecDepth 100000 in
set_option maxHeartbeats 8000000 in
theorem refResize_any (a : Option Addr) (n c : Nat) (wr0 : Bool) (l : List Cel) (u : Int) (w : World) (hI : CelsIn .i64 a n l w) (hnil : a = none → c = 0) (hcap : n ≤ c) (hmax : (c : Int) ≤ 9223372036854775807) (hn : (n : Int) ≤ 1000) : Calls Tryd.prog 103 #[.agg #[.slice a n c, .bool wr0], .int .i64 u] w (RowRet .i64 w.heap.size a n (resizeS ⟨l, wr0⟩ u).l (resizeS ⟨l, wr0⟩ u).wrapped w) := by
  obtain ⟨rb, hrb⟩ : ∃ rb, w.heap.size = rb := ⟨_, rfl⟩
  rw [hrb]
  obtain ⟨P, hP⟩ : ∃ P, RowRet .i64 rb a n (resizeS ⟨l, wr0⟩ u).l (resizeS ⟨l, wr0⟩ u).wrapped w = P := ⟨_, rfl⟩
  rw [hP]
  have HP := Lib.hid hP
  have hln := hI.len
  have hst := St0.start 38 38 w (.slice a n c) wr0
  obtain ⟨w2, hw2⟩ : ∃ w2, (w.alloc (.cells #[.slice a n c, .bool wr0] 38)).alloc (.cells #[.slice none 0 0, .bool false] 38) = w2 := ⟨_, rfl⟩
  rw [hw2, hrb] at hst
  have c0 := hst.r.c0
  have c1 := hst.r.c1
  have q0 := hst.q.c0
  have q1 := hst.q.c1
  have q2 := hst.q.fr 0
  have q3 := hst.q.fr 1
  have hsz2 : rb + 2 ≤ w2.heap.size := hst.size
  have hrb2 : rb < w2.heap.size := by omega
  have hrb3 : rb + 1 < w2.heap.size := by omega
  have HSt := Lib.hid hst
  have HO2 := Lib.hid (OwnC.lit .i64 107 w2 (rb + 2) hst.size)
  have hI2 : CelsIn .i64 a n l w2 := hI.belowAll (by rw [hrb]; exact hst.below)
  have HI2 := Lib.hid hI2
  have HNil := Lib.hid hnil
  have HW2 := Lib.hid hw2
  have HRb := Lib.hid hrb
  have HLn := Lib.hid hln
  have HI0 := Lib.hid hI
  have hcap0 := hcap
  have hmax0 := hmax
  have hbel := hst.below
  clear hP hst hI hI2 hnil hw2 hrb hln
  go_enter Tryd.func103, Tryd.ntmps103
  go_upto_region 1 with fail
  rw [HW2.out, HRb.out]
  have hm := near_any u 0 1000 w2
  obtain ⟨N, hN⟩ : ∃ N, nearN u = N := ⟨_, rfl⟩
  have hN1 : N ≤ 1000 := by rw [← hN]; exact nearN_le u
  rw [nearI_N, hN] at hm
  have HNear := Lib.hid hm
  clear hm
  by_cases hNn : N = n
  · have hS : resizeS ⟨l, wr0⟩ u = ⟨l, wr0⟩ := by unfold resizeS; rw [if_pos (by rw [hN, hNn]; exact HLn.out)]
    rw [hS] at HP
    clear hS hN
    subst hNn
    go_wp2_with fail
    refine HNear.out.mono ?_
    rintro e w5 ⟨rfl, rfl⟩
    go_wp2_with fail
    refine bodyPost_ret (v := .agg #[.slice a N c, .bool wr0]) (by rw [results_cell (fn := Tryd.f103) rfl]; go_simp <;> rfl) rfl ?_
    rw [← HP.out]
    have hb := below_set2 (v := .slice a N c) (b := wr0) HSt.out.below (show rb ≤ rb + 1 by omega)
    refine ⟨a, c, by rw [← HLn.out], by rw [← HLn.out]; exact HI0.out.belowAll (by rw [HRb.out]; exact hb), HNil.out, by rw [← HLn.out]; exact hcap, hmax, hb, .inl ⟨rfl, HLn.out.symm⟩⟩
  · have hS : resizeS ⟨l, wr0⟩ u = ⟨mend (l.take (min N n) ++ blanks (N - min N n) 0), false⟩ := by unfold resizeS; rw [hN, if_neg (by rw [← HLn.out]; exact hNn), ← HLn.out]
    rw [hS] at HP
    clear hS hN
    obtain ⟨m, hm⟩ : ∃ m, min N n = m := ⟨_, rfl⟩
    rw [hm] at HP
    have hM : min (N : Int) n = (m : Int) := by omega
    have hmn : m ≤ n := by omega
    have hmN : m ≤ N := by omega
    obtain ⟨K, hK⟩ : ∃ K, N = m + K := ⟨N - m, by omega⟩
    obtain ⟨Q, hQ⟩ : ∃ Q, l.take m ++ blanks K 0 = Q := ⟨_, rfl⟩
    rw [show N - m = K by omega, hQ] at HP
    have HQ := Lib.hid hQ
    have HK := Lib.hid hK
    clear hQ hm hK
    go_wp2_with fail
    refine HNear.out.mono ?_
    rintro e w5 ⟨rfl, rfl⟩
    go_upto_region 4 with fail
    have HI3 := Lib.hid (CelsIn.belowAll (w' := w2.alloc (.cells #[] 107)) (HI2.out.take hmn) ((Below.refl _ _).alloc (Nat.le_refl _) _))
    rcases a with _ | ad
    · obtain rfl : c = 0 := HNil.out rfl
      obtain rfl : n = 0 := by omega
      obtain rfl : m = 0 := by omega
      have hM0 : min (N : Int) 0 = 0 := by omega
      go_wp2_with (at_builtin; refine wpList_append_cells refT rfl _ _ rfl rfl (rb + 2) _ [] (none) 0 0 (l.take 0) rfl rfl HO2.out HI3.out (fun _ => rfl) (by simp) (by rw [List.length_take]; omega) (by simp; omega) ?_)
      intro v3 w3 hown hgr
      have hb3 : Below (rb + 2) w2 w3 := below_grew ((Below.refl _ _).alloc HSt.out.size _) hgr (fun q hq => by have := (HO2.out.ownBlock q hq).1; omega) (by simp; omega)
      have hown : OwnC .i64 107 (rb + 2) v3 (l.take 0) w3 := by simpa using hown
      obtain ⟨a3, c3, he3, -⟩ := hown.shape
      rw [show (l.take 0).length = 0 by rw [List.length_take, ← HLn.out]; omega] at he3
      subst he3
      have HSt3 := Lib.hid (HSt.out.more hb3)
      have HO3 := Lib.hid hown
      clear hown hgr hb3
      have HBl := Lib.hid (refBlank_any ((N : Int) - ((0 : Nat) : Int)) 0 w3)
      rw [show nearN ((N : Int) - ((0 : Nat) : Int)) = K by have := HK.out; unfold nearN; omega] at HBl
      have hsz3 : rb + 2 ≤ w3.heap.size := HSt3.out.size
      go_wp2_with fail
      refine HBl.out.mono ?_
      rintro e w4 ⟨v4, rfl, hO4, hb4⟩
      obtain ⟨a4, c4, he4, hin4, -, hnil4, -, hmx4⟩ := hO4.shape
      rw [blanks_length] at he4 hin4
      subst he4
      have HSt4 := Lib.hid (HSt3.out.more (hb4.mono HSt3.out.size))
      have HO4 := Lib.hid (HO3.out.belowAll hb4)
      have HIn4 := Lib.hid hin4
      have HNil4 := Lib.hid hnil4
      clear hO4 hb4 hin4 hnil4 HBl
      have hfld := run_field_row w4 (.slice a4 K c4) false
      go_wp2_with (at_builtin; go_loud (refine wpList_append_cells refT rfl _ _ rfl rfl (rb + 2) _ (l.take 0) a4 K c4 (blanks K 0) rfl rfl HO4.out HIn4.out HNil4.out (by rw [List.length_take]; omega) (by have := HK.out; rw [blanks_length]; omega) HSt4.out.size ?_))
      intro v6 w6 hown hgr
      have hown : OwnC .i64 107 (rb + 2) v6 Q w6 := by rw [← HQ.out]; simpa using hown
      have HSt6 := Lib.hid (HSt4.out.more (below_grew (Below.refl _ _) hgr (fun q hq => (HO4.out.ownBlock q hq).1) HSt4.out.size))
      have HO6 := Lib.hid hown
      have hQl : Q.length = N := by rw [← HQ.out, List.length_append, List.length_take, blanks_length, ← HLn.out, HK.out]; omega
      obtain ⟨a6, c6, he6, hin6, -, hnil6, hcap6, hmx6⟩ := hown.shape
      rw [hQl] at he6 hin6 hcap6
      subst he6
      have z0 := HSt6.out.q.c0
      have z1 := HSt6.out.q.c1
      have z2 := HSt6.out.q.fr 0
      have z3 := HSt6.out.q.fr 1
      have HM := Lib.hid (refMend_any a6 N c6 Q w6 hin6 (by omega))
      clear hown hgr hin6 hfld
      go_wp2_with fail
      refine HM.out.mono ?_
      rintro e w9 ⟨v9, rfl, hO9, hb9⟩
      have HSt9 := Lib.hid (HSt6.out.more (hb9.mono HSt6.out.size))
      obtain ⟨a9, c9, he9, -⟩ := hO9.shape
      obtain ⟨n9, hn9⟩ : ∃ n9, (mend Q).length = n9 := ⟨_, rfl⟩
      rw [hn9] at he9
      subst he9
      have HO9 : Hid (OwnC .i64 107 (rb + 2) (.slice a9 n9 c9) (mend Q) w9) := Lib.hid (hO9.weaken HSt6.out.size)
      have x0 := HSt9.out.q.c0
      have x1 := HSt9.out.q.c1
      have f0 := HSt9.out.q.fr 0
      have f1 := HSt9.out.q.fr 1
      clear hO9 hb9 hn9 HM
      go_wp2_with fail
      refine bodyPost_ret (v := .agg #[.slice a9 n9 c9, .bool false]) (by rw [results_cell (fn := Tryd.f103) rfl]; go_simp <;> rfl) rfl ?_
      rw [← HP.out]
      exact RowPost.ret (T := 107) ⟨_, rfl, (HO9.out.set2 (Nat.lt_succ_self (rb + 1)) _ _).weaken (by omega), below_set2 HSt9.out.below (by omega)⟩ _ _
    · go_wp2_with (at_builtin; refine wpList_append_cells refT rfl _ _ rfl rfl (rb + 2) _ [] (some ad) m c (l.take m) rfl rfl HO2.out HI3.out (fun e => by cases e) (by simp) (by rw [List.length_take]; omega) (by simp; omega) ?_)
      intro v3 w3 hown hgr
      have hb3 : Below (rb + 2) w2 w3 := below_grew ((Below.refl _ _).alloc HSt.out.size _) hgr (fun q hq => by have := (HO2.out.ownBlock q hq).1; omega) (by simp; omega)
      have hown : OwnC .i64 107 (rb + 2) v3 (l.take m) w3 := by simpa using hown
      obtain ⟨a3, c3, he3, -⟩ := hown.shape
      rw [show (l.take m).length = m by rw [List.length_take, ← HLn.out]; omega] at he3
      subst he3
      have HSt3 := Lib.hid (HSt.out.more hb3)
      have HO3 := Lib.hid hown
      clear hown hgr hb3
      have HBl := Lib.hid (refBlank_any ((N : Int) - (m : Int)) 0 w3)
      rw [show nearN ((N : Int) - (m : Int)) = K by have := HK.out; unfold nearN; omega] at HBl
      have hsz3 : rb + 2 ≤ w3.heap.size := HSt3.out.size
      go_wp2_with fail
      refine HBl.out.mono ?_
      rintro e w4 ⟨v4, rfl, hO4, hb4⟩
      obtain ⟨a4, c4, he4, hin4, -, hnil4, -, hmx4⟩ := hO4.shape
      rw [blanks_length] at he4 hin4
      subst he4
      have HSt4 := Lib.hid (HSt3.out.more (hb4.mono HSt3.out.size))
      have HO4 := Lib.hid (HO3.out.belowAll hb4)
      have HIn4 := Lib.hid hin4
      have HNil4 := Lib.hid hnil4
      clear hO4 hb4 hin4 hnil4 HBl
      have hfld := run_field_row w4 (.slice a4 K c4) false
      go_wp2_with (at_builtin; go_loud (refine wpList_append_cells refT rfl _ _ rfl rfl (rb + 2) _ (l.take m) a4 K c4 (blanks K 0) rfl rfl HO4.out HIn4.out HNil4.out (by rw [List.length_take]; omega) (by have := HK.out; rw [blanks_length]; omega) HSt4.out.size ?_))
      intro v6 w6 hown hgr
      have hown : OwnC .i64 107 (rb + 2) v6 Q w6 := by rw [← HQ.out]; simpa using hown
      have HSt6 := Lib.hid (HSt4.out.more (below_grew (Below.refl _ _) hgr (fun q hq => (HO4.out.ownBlock q hq).1) HSt4.out.size))
      have HO6 := Lib.hid hown
      have hQl : Q.length = N := by rw [← HQ.out, List.length_append, List.length_take, blanks_length, ← HLn.out, HK.out]; omega
      obtain ⟨a6, c6, he6, hin6, -, hnil6, hcap6, hmx6⟩ := hown.shape
      rw [hQl] at he6 hin6 hcap6
      subst he6
      have z0 := HSt6.out.q.c0
      have z1 := HSt6.out.q.c1
      have z2 := HSt6.out.q.fr 0
      have z3 := HSt6.out.q.fr 1
      have HM := Lib.hid (refMend_any a6 N c6 Q w6 hin6 (by omega))
      clear hown hgr hin6 hfld
      go_wp2_with fail
      refine HM.out.mono ?_
      rintro e w9 ⟨v9, rfl, hO9, hb9⟩
      have HSt9 := Lib.hid (HSt6.out.more (hb9.mono HSt6.out.size))
      obtain ⟨a9, c9, he9, -⟩ := hO9.shape
      obtain ⟨n9, hn9⟩ : ∃ n9, (mend Q).length = n9 := ⟨_, rfl⟩
      rw [hn9] at he9
      subst he9
      have HO9 : Hid (OwnC .i64 107 (rb + 2) (.slice a9 n9 c9) (mend Q) w9) := Lib.hid (hO9.weaken HSt6.out.size)
      have x0 := HSt9.out.q.c0
      have x1 := HSt9.out.q.c1
      have f0 := HSt9.out.q.fr 0
      have f1 := HSt9.out.q.fr 1
      clear hO9 hb9 hn9 HM
      go_wp2_with fail
      refine bodyPost_ret (v := .agg #[.slice a9 n9 c9, .bool false]) (by rw [results_cell (fn := Tryd.f103) rfl]; go_simp <;> rfl) rfl ?_
      rw [← HP.out]
      exact RowPost.ret (T := 107) ⟨_, rfl, (HO9.out.set2 (Nat.lt_succ_self (rb + 1)) _ _).weaken (by omega), below_set2 HSt9.out.below (by omega)⟩ _ _

end Go.Proofs.YtkggmcnocpgnbaaDoor.K
