/- The contracts of the document's Erase and Fill. -/
import Derived.Test.YtkggmcnocpgnbaaDoorKMend
import Derived.Test.YtkggmcnocpgnbaaDoorMerged3
namespace Go.Proofs.YtkggmcnocpgnbaaDoor.K
open Go.RowKit

/-- a row that was handed in, boxed, and one for the answer -/
structure St0 (t t2 : TypeId) (rb : Nat) (v : Value) (b : Bool) (w w2 : World) : Prop where
  below : Below rb w w2
  r : RoB t rb v b w2
  q : RoB t2 (rb + 1) (.slice none 0 0) false w2
  size : rb + 2 ≤ w2.heap.size
theorem St0.start (t t2 : TypeId) (w : World) (v : Value) (b : Bool) : St0 t t2 w.heap.size v b w ((w.alloc (.cells #[v, .bool b] t)).alloc (.cells #[.slice none 0 0, .bool false] t2)) := by
  have h1 := RoB.new t w v b
  have h2 := RoB.new t2 (w.alloc (.cells #[v, .bool b] t)) (.slice none 0 0) false
  rw [World.size_alloc] at h2
  exact ⟨((Below.refl _ _).alloc (Nat.le_refl _) _).alloc (by simp) _, h1.belowAll ((Below.refl _ _).alloc (Nat.le_refl _) _), h2, by simp⟩
theorem St0.more {t t2 : TypeId} {rb : Nat} {v : Value} {b : Bool} {w w2 w3 : World} (h : St0 t t2 rb v b w w2) (hb : Below (rb + 2) w2 w3) : St0 t t2 rb v b w w3 :=
  ⟨h.below.trans (hb.mono (by omega)), h.r.below hb (by omega), h.q.below hb (by omega), Nat.le_trans h.size hb.size⟩
/-- append upon a new one -/
theorem below_grew {base B : Nat} {T : TypeId} {v v' : Value} {n : Nat} {out : List Value} {w0 w w' : World} (h : Below B w0 w) (g : U.Grew base T 3 v n out w v' w') (hown : ∀ q, v.ownBlock = some q → B ≤ q) (hs : B ≤ w.heap.size) : Below B w0 w' := h.grown g.grown hs hown
def erF (a b s : Int) (i : Nat) (c : Cel) : Cel := if a ≤ (i : Int) ∧ (i : Int) < b then blk s else c
def eraseJ (l : List Cel) (a b s : Int) (j : Nat) : List Cel := (l.mapIdx (erF a b s)).take j ++ l.drop j
theorem eraseJ_zero (l : List Cel) (a b s : Int) : eraseJ l a b s 0 = l := by simp [eraseJ]
theorem eraseJ_length (l : List Cel) (a b s : Int) (j : Nat) : (eraseJ l a b s j).length = l.length := by
  unfold eraseJ; rw [List.length_append, List.length_take, List.length_mapIdx, List.length_drop]; omega
theorem eraseJ_all (l : List Cel) (a b s : Int) : mend (eraseJ l a b s l.length) = eraseS l a b s := by
  unfold eraseJ eraseS
  rw [List.drop_length, List.append_nil, List.take_of_length_le (by rw [List.length_mapIdx]; exact Nat.le_refl _)]
  rfl
theorem eraseJ_succ (l : List Cel) (a b s : Int) (j : Nat) (h : j < l.length) : eraseJ l a b s (j + 1) = (eraseJ l a b s j).set j (erF a b s j l[j]) := by
  unfold eraseJ
  have hm : j < (l.mapIdx (erF a b s)).length := by rw [List.length_mapIdx]; exact h
  have h1 : ((l.mapIdx (erF a b s)).take j).length = j := by rw [List.length_take]; omega
  rw [List.take_succ_eq_append_getElem hm, List.getElem_mapIdx, List.set_append_right _ _ (by omega), h1, Nat.sub_self, List.drop_eq_getElem_cons h, List.set_cons_zero, List.append_assoc]
  rfl
theorem eraseJ_out (l : List Cel) (a b s : Int) (j : Nat) (h : j < l.length) (hn : ¬ (a ≤ (j : Int) ∧ (j : Int) < b)) : eraseJ l a b s (j + 1) = eraseJ l a b s j := by
  unfold eraseJ
  have hm : j < (l.mapIdx (erF a b s)).length := by rw [List.length_mapIdx]; exact h
  have he : erF a b s j l[j] = l[j] := by unfold erF; rw [if_neg hn]
  rw [List.take_succ_eq_append_getElem hm, List.getElem_mapIdx, List.drop_eq_getElem_cons h, List.append_assoc, he]
  rfl
theorem eraseJ_in (l : List Cel) (a b s : Int) (j : Nat) (h : j < l.length) (hn : a ≤ (j : Int) ∧ (j : Int) < b) : eraseJ l a b s (j + 1) = (eraseJ l a b s j).set j (blk s) := by
  rw [eraseJ_succ l a b s j h]; unfold erF; rw [if_pos hn]

set_option maxRecDepth 100000 in
set_option maxHeartbeats 8000000 in
theorem refErase_any (a : Option Addr) (n c : Nat) (wr0 : Bool) (l : List Cel) (fr ut s : Int) (w : World) (hI : CelsIn .i64 a n l w) (hnil : a = none → c = 0) (hn : (n : Int) ≤ 1000000) : Calls Tryd.prog 96 #[.agg #[.slice a n c, .bool wr0], .int .i64 fr, .int .i64 ut, .int .i64 s] w (RowPost .i64 107 w.heap.size (eraseS l fr ut s) false w) := by
  obtain ⟨rb, hrb⟩ : ∃ rb, w.heap.size = rb := ⟨_, rfl⟩
  rw [hrb]
  obtain ⟨P, hP⟩ : ∃ P, RowPost .i64 107 rb (eraseS l fr ut s) false w = P := ⟨_, rfl⟩
  rw [hP]
  have HP := Lib.hid hP
  have hln := hI.len
  have hst := St0.start 38 38 w (.slice a n c) wr0
  obtain ⟨w2, hw2⟩ : ∃ w2, (w.alloc (.cells #[.slice a n c, .bool wr0] 38)).alloc (.cells #[.slice none 0 0, .bool false] 38) = w2 := ⟨_, rfl⟩
  rw [hw2, hrb] at hst
  have c0 := hst.r.c0
  have hsz2 : rb + 2 ≤ w2.heap.size := hst.size
  have hrb2 : rb < w2.heap.size := by omega
  have HSt := Lib.hid hst
  have HO2 := Lib.hid (OwnC.lit .i64 107 w2 (rb + 2) hst.size)
  have hI2 : CelsIn .i64 a n l (w2.alloc (.cells #[] 107)) := hI.belowAll (by rw [hrb]; exact hst.below.alloc (by have := hst.size; omega) _)
  have HI2 := Lib.hid hI2
  have HNil := Lib.hid hnil
  have HW2 := Lib.hid hw2
  have HRb := Lib.hid hrb
  have HLn := Lib.hid hln
  have HLz : Hid ((l.length : Int) ≤ 1000000) := Lib.hid (by rw [← hln]; exact hn)
  clear hP hst hI hI2 hnil hw2 hrb hln
  go_enter Tryd.func96, Tryd.ntmps96
  go_upto_region 1 with fail
  rw [HW2.out, HRb.out]
  go_wp2_with (at_builtin; refine wpList_append_cells refT rfl _ _ rfl rfl (rb + 2) _ [] a n c l rfl rfl HO2.out HI2.out HNil.out (by simp) HLz.out (by have := HSt.out.size; simp; omega) ?_)
  intro v3 w3 hown hgr
  have hb3 : Below (rb + 2) w2 w3 := below_grew ((Below.refl _ _).alloc HSt.out.size _) hgr (fun q hq => by have := (HO2.out.ownBlock q hq).1; omega) (by have := HSt.out.size; simp; omega)
  obtain ⟨a3, c3, he3, hin3, hblk3, -, hle3, hmx3⟩ := hown.shape
  rw [← HLn.out] at he3 hin3 hle3
  subst he3
  have HSt3 := Lib.hid (HSt.out.more hb3)
  have HO3 : Hid (OwnC .i64 107 (rb + 2) (.slice a3 n c3) (eraseJ l fr ut s 0) w3) := Lib.hid (by rw [eraseJ_zero]; exact hown)
  have HBlk3 := Lib.hid hblk3
  have HIn3 := Lib.hid hin3
  clear hown hgr hb3 hin3 hblk3 c0
  go_wp2_with fail
  go_loopw [17] (fun i wr => ∃ j : Nat, i = .int .i64 (j : Int) ∧ j ≤ n ∧ Hid (St0 38 38 rb (.slice a n c) wr0 w wr ∧ OwnC .i64 107 (rb + 2) (.slice a3 n c3) (eraseJ l fr ut s j) wr)) (fun i _ => n - (intOf i).toNat)
  case atStart => exact ⟨0, rfl, by omega, Lib.hid ⟨HSt3.out, HO3.out⟩⟩
  case round =>
    obtain ⟨j, rfl, hj, HF⟩ := hrel
    by_cases hlt : j < n
    · have hd : decide (j < n) = true := by simp; omega
      have hjl : j < l.length := by rw [← HLn.out]; exact hlt
      obtain ⟨b3, o3, rfl, hb3, -⟩ := HIn3.out.at_.resolve_left (by intro e; rw [e] at hjl; simp at hjl)
      obtain ⟨hb31, hb32, rfl⟩ := HBlk3.out b3 o3 rfl
      by_cases hin : fr ≤ (j : Int) ∧ (j : Int) < ut
      · have d1 : decide (fr ≤ (j : Int)) = true := by simp; omega
        have d2 : decide ((j : Int) < ut) = true := by simp; omega
        have HE := Lib.hid (eraseJ_in l fr ut s j hjl hin)
        have HOn : Hid (OwnC .i64 107 (rb + 2) (.slice (some ⟨b3, 0, none⟩) (eraseJ l fr ut s j).length c3) (eraseJ l fr ut s j) wr) := Lib.hid (by rw [eraseJ_length, ← HLn.out]; exact HF.out.2)
        have HJl : Hid (j < (eraseJ l fr ut s j).length) := Lib.hid (by rw [eraseJ_length]; exact hjl)
        clear hin
        go_wp2_with (refine wpList_store_cell refT rfl rfl _ _ rfl (rb + 2) b3 c3 (eraseJ l fr ut s j) j (blk s) rfl rfl HOn.out HJl.out ?_)
        intro w5 h5 hg5
        have HF5 : Hid (St0 38 38 rb (.slice a n c) wr0 w w5 ∧ OwnC .i64 107 (rb + 2) (.slice (some ⟨b3, 0, none⟩) n c3) (eraseJ l fr ut s (j + 1)) w5) := Lib.hid ⟨HF.out.1.more ((Below.refl _ _).grown hg5 HF.out.1.size (fun q hq => by cases hq; exact hb31)), by rw [HE.out]; rw [eraseJ_length, ← HLn.out] at h5; exact h5⟩
        clear h5 hg5
        go_wp2
        go_roundw
        case rel => exact ⟨j + 1, by go_num, by omega, HF5⟩
        case measure => simp [intOf]; omega
      · have hdd : decide (fr ≤ (j : Int)) = false ∨ (decide (fr ≤ (j : Int)) = true ∧ decide ((j : Int) < ut) = false) := by
          by_cases h : fr ≤ (j : Int)
          · right; exact ⟨by simp; omega, by simp; omega⟩
          · left; simp; omega
        have HF5 : Hid (St0 38 38 rb (.slice a n c) wr0 w wr ∧ OwnC .i64 107 (rb + 2) (.slice (some ⟨b3, 0, none⟩) n c3) (eraseJ l fr ut s (j + 1)) wr) := Lib.hid (by rw [eraseJ_out l fr ut s j hjl hin]; exact HF.out)
        clear hin
        rcases hdd with d1 | ⟨d1, d2⟩
        all_goals
          go_wp2
          go_roundw
          case rel => exact ⟨j + 1, by go_num, by omega, HF5⟩
          case measure => simp [intOf]; omega
    · obtain rfl : j = n := by omega
      have hd : decide ((j : Int) < (j : Int)) = false := by simp
      obtain ⟨a4, c4, he4, hin4, -⟩ := HF.out.2.shape
      rw [eraseJ_length, ← HLn.out] at he4 hin4
      obtain ⟨rfl, rfl⟩ : a3 = a4 ∧ c3 = c4 := by injection he4 with h1 h2 h3; exact ⟨h1, h3⟩
      have hm := refMend_any a3 j c3 (eraseJ l fr ut s j) wr hin4 hn
      have hme : mend (eraseJ l fr ut s j) = eraseS l fr ut s := by rw [HLn.out]; exact eraseJ_all l fr ut s
      rw [hme] at hm
      have HM := Lib.hid hm
      clear hm hme
      have q0 := HF.out.1.q.c0
      have hlw := HF.out.1.size
      have hrbw : rb + 1 < wr.heap.size := by omega
      clear he4 hin4
      go_wp2_with fail
      refine HM.out.mono ?_
      rintro e w5 ⟨v5, rfl, hO5, hb5⟩
      have HSt5 := Lib.hid (HF.out.1.more (hb5.mono HF.out.1.size))
      obtain ⟨a5, c5, he5, -⟩ := hO5.shape
      obtain ⟨n5, hn5⟩ : ∃ n5, (eraseS l fr ut s).length = n5 := ⟨_, rfl⟩
      rw [hn5] at he5
      subst he5
      have HO5 : Hid (OwnC .i64 107 (rb + 2) (.slice a5 n5 c5) (eraseS l fr ut s) w5) := Lib.hid (hO5.weaken HF.out.1.size)
      have x0 := HSt5.out.q.c0
      have x1 := HSt5.out.q.c1
      have f0 := HSt5.out.q.fr 0
      have f1 := HSt5.out.q.fr 1
      clear hO5 hb5 hn5 HM q0
      go_wp2_with fail
      refine bodyPost_ret (v := .agg #[.slice a5 n5 c5, .bool false]) (by rw [results_cell (fn := Tryd.f96) rfl]; go_simp <;> rfl) rfl ?_
      rw [← HP.out]
      exact ⟨_, rfl, (HO5.out.set2 (Nat.lt_succ_self (rb + 1)) _ _).weaken (by omega), below_set2 HSt5.out.below (by omega)⟩
end Go.Proofs.YtkggmcnocpgnbaaDoor.K

/- The contracts of the program's cells and Put. -/
namespace Go.Proofs.YtkggmcnocpgnbaaDoor.K
open Go.RowKit

/-- what a rune stands in -/
def putL (k : Nat) (x s : Int) : List Cel := if k = 1 then [⟨x, s, 0⟩] else if k = 2 then [⟨x, s, 1⟩, ⟨x, s, 2⟩] else []
theorem putL_length {k : Nat} (h : k ≤ 2) (x s : Int) : (putL k x s).length = k := by
  unfold putL
  rcases (by omega : k = 0 ∨ k = 1 ∨ k = 2) with rfl | rfl | rfl <;> rfl
theorem OwnC.lits (rk : IntKind) (T : TypeId) (w : World) (l : List Cel) (n : Nat) (cells : Array Value) (hc : cells.toList = flatC rk l) (hl : l.length = n) (hn : (n : Int) ≤ 1000000) : OwnC rk T w.heap.size (.slice (some ⟨w.heap.size, 0, none⟩) n n) l (w.alloc (.cells cells T)) := by
  unfold OwnC
  rw [hl, ← hc]
  exact World.ownsRow_lit w cells n (Nat.le_refl _) (by unfold maxLen; omega) (by rw [← Array.length_toList, hc, flatC_len, hl])
set_option maxRecDepth 100000 in
set_option maxHeartbeats 4000000 in
theorem cells_any (x s : Int) (w : World) (hT : W.Tab w) : Calls Tryd.prog 83 #[.int .i32 x, .int .i64 s] w (CelPost 105 w.heap.size (putL (W.ofS x) x s) w) := by
  obtain ⟨P, hP⟩ : ∃ P, CelPost 105 w.heap.size (putL (W.ofS x) x s) w = P := ⟨_, rfl⟩
  rw [hP]
  have HP := Lib.hid hP
  have HOf := Lib.hid (W.of_any x w hT)
  have hle := W.ofS_le x
  obtain ⟨k, hk⟩ : ∃ k, W.ofS x = k := ⟨_, rfl⟩
  rw [hk] at HOf HP hle
  clear hP hk hT
  rcases (by omega : k = 0 ∨ k = 1 ∨ k = 2) with rfl | rfl | rfl
  all_goals
    go_enter Tryd.func83, Tryd.ntmps83
    go_wp2_with (go_at_call 108; refine HOf.out.mono ?_; rintro e w1 ⟨rfl, hb1⟩)
  · rw [← HP.out]
    exact ⟨_, rfl, OwnC.nil _ _ _ _, hb1⟩
  · rw [← HP.out]
    exact ⟨_, rfl, (OwnC.lits .i32 105 w1 [⟨x, s, 0⟩] 1 _ rfl rfl (by decide)).weaken hb1.size, hb1.alloc hb1.size _⟩
  · rw [← HP.out]
    exact ⟨_, rfl, (OwnC.lits .i32 105 w1 [⟨x, s, 1⟩, ⟨x, s, 2⟩] 2 _ rfl rfl (by decide)).weaken hb1.size, hb1.alloc hb1.size _⟩
/-- Put, as the program does it -/
def putC (k : Nat) (l : List Cel) (at_ x s : Int) : List Cel :=
  if at_ < 0 ∨ (l.length : Int) - k < at_ then mend l else mend (l.take at_.toNat ++ putL k x s ++ l.drop (at_.toNat + k))
theorem mendG_cons (p : Bool) (e : Cel) (L : List Cel) : mendG p (e :: L) = fixC p e L :: mendG (decide ((fixC p e L).part = 1)) L := rfl
theorem mendG_blk : ∀ (a : List Cel) (p : Bool) (c d : Cel) (t : List Cel), c.part = 1 → d.part ≠ 2 → mendG p (a ++ c :: d :: t) = mendG p (a ++ blk c.style :: d :: t)
  | [], p, c, d, t, h1, h2 => by
    have hb : badC p c (d :: t) = true := by unfold badC; rw [if_pos h1]; simpa using h2
    have e1 : fixC p c (d :: t) = blk c.style := by unfold fixC; rw [hb]; rfl
    have e2 : fixC p (blk c.style) (d :: t) = blk c.style := fix_zero rfl
    simp only [List.nil_append, mendG]
    rw [e1, e2]
  | [e], p, c, d, t, h1, h2 => by
    have ih := fun q => mendG_blk [] q c d t h1 h2
    simp only [List.nil_append] at ih
    have hb : badC p e (c :: d :: t) = badC p e (blk c.style :: d :: t) := by
      unfold badC
      simp [h1, blk]
    have hf : fixC p e (c :: d :: t) = fixC p e (blk c.style :: d :: t) := by unfold fixC; rw [hb]
    show mendG p (e :: c :: d :: t) = mendG p (e :: blk c.style :: d :: t)
    rw [mendG_cons p e (c :: d :: t), mendG_cons p e (blk c.style :: d :: t), hf, ih]
  | e :: f :: a, p, c, d, t, h1, h2 => by
    have ih := fun q => mendG_blk (f :: a) q c d t h1 h2
    have hb : badC p e (f :: a ++ c :: d :: t) = badC p e (f :: a ++ blk c.style :: d :: t) := by unfold badC; rfl
    have hf : fixC p e (f :: a ++ c :: d :: t) = fixC p e (f :: a ++ blk c.style :: d :: t) := by unfold fixC; rw [hb]
    show mendG p (e :: (f :: a ++ c :: d :: t)) = mendG p (e :: (f :: a ++ blk c.style :: d :: t))
    rw [mendG_cons p e (f :: a ++ c :: d :: t), mendG_cons p e (f :: a ++ blk c.style :: d :: t), hf, ih]
theorem split_one {l : List Cel} {A : Nat} (h : A < l.length) : l = l.take A ++ l[A] :: l.drop (A + 1) := by
  rw [← List.drop_eq_getElem_cons h, List.take_append_drop]
theorem set_mid (a t : List Cel) (u v : Cel) : (a ++ u :: t).set a.length v = a ++ v :: t := by
  rw [List.set_append_right _ _ (Nat.le_refl _), Nat.sub_self, List.set_cons_zero]
theorem put_one {l : List Cel} {A : Nat} (h : A < l.length) (c : Cel) : l.set A c = l.take A ++ [c] ++ l.drop (A + 1) := by
  have ha : (l.take A).length = A := by rw [List.length_take]; omega
  have h1 := set_mid (l.take A) (l.drop (A + 1)) l[A] c
  rw [ha, ← split_one h] at h1
  rw [h1]
  simp
theorem put_two {l : List Cel} {A : Nat} {x s : Int} (h : A + 2 ≤ l.length) : (l.set A ⟨x, s, 1⟩).set (A + 1) ⟨x, s, 2⟩ = l.take A ++ [⟨x, s, 1⟩, ⟨x, s, 2⟩] ++ l.drop (A + 2) := by
  have h0 : A < l.length := by omega
  have h1 : A + 1 < l.length := by omega
  have ha : (l.take A ++ [(⟨x, s, 1⟩ : Cel)]).length = A + 1 := by rw [List.length_append, List.length_take]; simp; omega
  rw [put_one h0, List.drop_eq_getElem_cons h1]
  have := set_mid (l.take A ++ [⟨x, s, 1⟩]) (l.drop (A + 1 + 1)) l[A + 1] ⟨x, s, 2⟩
  rw [ha] at this
  rw [this]
  simp
theorem putC_S {k : Nat} (hk : k ≤ 2) (l : List Cel) (at_ x s : Int) : putC k l at_ x s = putS k l at_ x s := by
  by_cases h : at_ < 0 ∨ (l.length : Int) - k < at_
  · have h1 : putC k l at_ x s = mend l := by unfold putC; rw [if_pos h]
    have h2 : putS k l at_ x s = mend l := by unfold putS; rw [if_pos (.inr h)]
    rw [h1, h2]
  · have h1 : putC k l at_ x s = mend (l.take at_.toNat ++ putL k x s ++ l.drop (at_.toNat + k)) := by unfold putC; rw [if_neg h]
    rw [h1]
    obtain ⟨A, rfl⟩ : ∃ A : Nat, at_ = (A : Int) := ⟨at_.toNat, by omega⟩
    have hA : A + k ≤ l.length := by omega
    simp only [Int.toNat_natCast]
    rcases (by omega : k = 0 ∨ k = 1 ∨ k = 2) with rfl | rfl | rfl
    · have h2 : putS 0 l A x s = mend l := by unfold putS; rw [if_pos (.inl rfl)]
      rw [h2]
      simp [putL]
    · have h2 : putS 1 l A x s = mend (l.set A ⟨x, s, 0⟩) := by
        unfold putS
        rw [if_neg (by rintro (h0 | h0); · omega
                       · exact h h0), if_neg (by omega)]
        rfl
      rw [h2, put_one (by omega)]
      rfl
    · have hp : putL 2 x s = [⟨x, s, 1⟩, ⟨x, s, 2⟩] := rfl
      rw [hp, ← put_two hA]
      unfold putS
      rw [if_neg (by rintro (h0 | h0); · omega
                     · exact h h0), if_pos rfl]
      simp only [Int.toNat_natCast]
      split
      · rename_i hc
        obtain ⟨B, rfl⟩ : ∃ B, A = B + 1 := ⟨A - 1, by omega⟩
        have hB : B < l.length := by omega
        have hgd : l.getD (B + 1 - 1) (blk 0) = l[B] := by rw [Nat.add_sub_cancel, List.getD_eq_getElem?_getD, List.getElem?_eq_getElem hB]; rfl
        rw [hgd] at hc ⊢
        rw [put_two hA, List.take_succ_eq_append_getElem hB, Nat.add_sub_cancel]
        have hlen : (l.take B).length = B := by rw [List.length_take]; omega
        have e1 : (l.take B ++ [l[B]] ++ [⟨x, s, 1⟩, ⟨x, s, 2⟩] ++ l.drop (B + 1 + 2)) = l.take B ++ l[B] :: (⟨x, s, 1⟩ :: ⟨x, s, 2⟩ :: l.drop (B + 1 + 2)) := by simp only [List.append_assoc, List.cons_append, List.nil_append]
        have e2 := set_mid (l.take B) (⟨x, s, 1⟩ :: ⟨x, s, 2⟩ :: l.drop (B + 1 + 2)) l[B] (blk l[B].style)
        rw [hlen] at e2
        rw [e1, e2]
        exact mendG_blk _ false _ _ _ hc.2 (by simp)
      · rfl
theorem putC_flat {rk : IntKind} {l p : List Cel} {A k : Nat} : flatC rk (l.take A ++ p ++ l.drop (A + k)) = (flatC rk l).take (A * 3) ++ flatC rk p ++ (flatC rk l).drop ((A + k) * 3) := by
  rw [flatC_append, flatC_append, flatC_take, flatC_drop]
end Go.Proofs.YtkggmcnocpgnbaaDoor.K
