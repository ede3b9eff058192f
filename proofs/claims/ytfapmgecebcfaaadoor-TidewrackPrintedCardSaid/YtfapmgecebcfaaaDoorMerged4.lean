/- The contract of seq's Feed. -/
import Derived.Test.YtfapmgecebcfaaaDoorQTake
import Derived.Test.YtfapmgecebcfaaaDoorWInts
import Derived.Deep.QuietTactic
import Derived.BigQuiet
namespace Go.Proofs.YtfapmgecebcfaaaDoor.Q
open Go.RowKit
open Go.Proofs.YtfapmgecebcfaaaDoor.W (OwnI OwnR IntsIn RunesIn wpList_append_ints)
open Go.Proofs.YtfapmgecebcfaaaDoor.Y (Tab)

set_option maxRecDepth 100000 in
set_option maxHeartbeats 8000000 in
theorem feed_any (k : Nat) (p : PS) (s : ByteArray) (hs : (s.size : Int) ≤ 1000) (w : World) (hB : PBlk k p w) (hok : Ok p) (hT : Tab w) (hk : 0 ≠ k) :
    Calls Tryd.prog 13 #[.pointer (some ⟨k, 0, none⟩), .string s] w (MPost w.heap.size k (feedS p s.data.toList).1 (feedS p s.data.toList).2 w) := by
  obtain ⟨P, hP⟩ : ∃ P, MPost w.heap.size k (feedS p s.data.toList).1 (feedS p s.data.toList).2 w = P := ⟨_, rfl⟩
  rw [hP]
  have HP := Lib.hid hP
  obtain ⟨base, hbase⟩ : ∃ base, w.heap.size = base := ⟨_, rfl⟩
  have HBs := Lib.hid hbase
  rw [hbase] at HP
  have hkb : k < base := by rw [← hbase]; exact hB.lt
  have h0 : 0 < base := by rw [← hbase]; exact hT.pos
  have hbw : base ≤ w.heap.size := Nat.le_of_eq hbase.symm
  have HB := Lib.hid hB
  have HT := Lib.hid hT
  have HOk := Lib.hid hok
  have HH0 := Lib.hid h0
  clear hP hbase hB hT hok h0
  go_enter Tryd.func13, Tryd.ntmps13
  go_wp2_with fail
  go_loopw [5, 9] (fun v i wr => ∃ j : Nat, i = .int .i64 (j : Int) ∧ j ≤ s.size ∧ base ≤ wr.heap.size ∧ Hid (OwnA base v (feedS p (s.data.toList.take j)).2 wr ∧ PBlk k (feedS p (s.data.toList.take j)).1 wr ∧ Kept base k w wr)) (fun _ i _ => s.size - (intOf i).toNat)
  case atStart => exact ⟨0, rfl, by omega, hbw, Lib.hid ⟨OwnA.nil _ _, HB.out, Kept.refl _ _ _⟩⟩
  case round =>
    rename_i wr
    obtain ⟨j, rfl, hj, hsz, HF⟩ := hrel
    by_cases hlt : j < s.size
    · have hts : s.data.toList.take (j + 1) = s.data.toList.take j ++ [s[j]] := by
        rw [List.take_succ_eq_append_getElem (by simpa using hlt)]; rfl
      have hsn := feedS_snoc (s.data.toList.take j) s[j] p
      rw [← hts] at hsn
      have hcount := feed_count (s.data.toList.take j) p
      have hok := feed_ok (s.data.toList.take j) p HOk.out
      have htl : (s.data.toList.take j).length ≤ j := List.length_take_le _ _
      obtain ⟨hO, hB, hK⟩ := HF.out
      obtain ⟨⟨p2, l2⟩, hx⟩ : ∃ x, feedS p (s.data.toList.take j) = x := ⟨_, rfl⟩
      rw [hx] at hsn hcount hok hO hB
      simp only at hsn hcount hok hO hB
      have hE : Env base k p2 _ l2 wr := ⟨hO, hB, hkb, hsz, hok, by omega⟩
      have HTk := Lib.hid (take_any base k p2 _ l2 s[j] wr hE (tab_kept HT.out hK HH0.out hk) HH0.out hk)
      have HK := Lib.hid hK
      have HSn := Lib.hid hsn
      clear hts hsn hcount hok htl hO hB hK hx hE HF
      go_wp2_with fail
      refine HTk.out.mono ?_
      rintro e w2 ⟨v', rfl, h1, h2, h3⟩
      have HR : Hid (OwnA base v' (feedS p (s.data.toList.take (j + 1))).2 w2 ∧ PBlk k (feedS p (s.data.toList.take (j + 1))).1 w2 ∧ Kept base k w w2) := Lib.hid ⟨by rw [HSn.out]; exact h1, by rw [HSn.out]; exact h2, HK.out.trans h3⟩
      have hsz2 : base ≤ w2.heap.size := Nat.le_trans hsz h3.size
      clear h1 h2 h3 HTk
      go_wp2
      go_roundw
      case rel => exact ⟨j + 1, by go_num, by omega, hsz2, HR⟩
      case measure => simp [intOf]; omega
    · obtain rfl : j = s.size := by omega
      have hta : s.data.toList.take s.size = s.data.toList := List.take_of_length_le (Nat.le_refl _)
      rw [hta] at HF
      clear hta
      go_wp2
      rw [← HP.out]
      exact ⟨_, rfl, HF.out⟩

end Go.Proofs.YtfapmgecebcfaaaDoor.Q

/- Same: of two lists of numbers. -/
namespace Go.Proofs.YtfapmgecebcfaaaDoor.Q
open Go.RowKit
open Go.Proofs.YtfapmgecebcfaaaDoor.W (IntsIn)

theorem drewN_below {B : Nat} {a w : World} (h : Below B a w) (n : Nat) : Below B a (w.drewN n) := h.trans ⟨rfl, rfl, rfl, Nat.le_refl _, fun _ _ => rfl⟩
theorem same_step {zs ys : List Int} {j : Nat} (h1 : j < zs.length) (h2 : j < ys.length) (h : zs.take j = ys.take j) (he : zs.getD j 0 = ys.getD j 0) : zs.take (j + 1) = ys.take (j + 1) := by
  rw [List.take_succ_eq_append_getElem h1, List.take_succ_eq_append_getElem h2, h]
  simp [h1, h2] at he
  rw [he]
theorem same_not {zs ys : List Int} {j : Nat} (he : ¬ zs.getD j 0 = ys.getD j 0) : zs ≠ ys := fun e => he (by rw [e])
set_option maxRecDepth 100000 in
set_option maxHeartbeats 1000000 in
theorem same_any (a b : Option Addr) (la lb ca cb : Nat) (zs ys : List Int) (w : World) (h : IntsIn a la zs w) (k : IntsIn b lb ys w) (hla : (la : Int) ≤ 1000000) :
    Calls Tryd.prog 20 #[.slice a la ca, .slice b lb cb] w fun en w' => en = .returned (.bool (decide (zs = ys))) ∧ Below w.heap.size w w' := by
  obtain ⟨R, hR⟩ : ∃ R, decide (zs = ys) = R := ⟨_, rfl⟩
  rw [hR]
  obtain ⟨hl, hz⟩ := h
  obtain ⟨hk, hy⟩ := k
  by_cases hne : la = lb
  · have hlz : zs.length = ys.length := by omega
    have HZ := Lib.hid hz
    have HY := Lib.hid hy
    have HR := Lib.hid hR
    have HL := Lib.hid hl
    have HK := Lib.hid hk
    have HLz := Lib.hid hlz
    subst hne
    clear hz hy hR hl hk hlz
    go_enter Tryd.func20, Tryd.ntmps20
    go_wp2
    go_loopw [5, 13] (fun _ i wr => ∃ j : Nat, j ≤ la ∧ i = .int .i64 j ∧ Hid (zs.take j = ys.take j) ∧ Hid (Below w.heap.size w wr)) (fun _ i _ => la - (intOf i).toNat)
    case atStart => exact ⟨0, by omega, rfl, Lib.hid rfl, Lib.hid (Below.refl _ _)⟩
    case round =>
      obtain ⟨j, hj, rfl, hF, hB⟩ := hrel
      by_cases hlt : j < la
      · have hjz : j < zs.length := by rw [← HL.out]; exact hlt
        have hjy : j < ys.length := by rw [← HK.out]; exact hlt
        obtain ⟨b1, o1, rfl, hb1, hI1⟩ := HZ.out.resolve_left (by intro e; rw [e] at hjz; simp at hjz)
        obtain ⟨b2, o2, rfl, hb2, hI2⟩ := HY.out.resolve_left (by intro e; rw [e] at hjy; simp at hjy)
        have hc1 := (hB.out.cell (p := ⟨b1, o1 + j, none⟩) hb1).trans (hI1 j hjz)
        have hc2 := (hB.out.cell (p := ⟨b2, o2 + j, none⟩) hb2).trans (hI2 j hjy)
        have HSt := Lib.hid (same_step hjz hjy hF.out)
        have HNo := Lib.hid (same_not (zs := zs) (ys := ys) (j := j))
        obtain ⟨x, hx⟩ : ∃ x, zs.getD j 0 = x := ⟨_, rfl⟩
        obtain ⟨y, hy⟩ : ∃ y, ys.getD j 0 = y := ⟨_, rfl⟩
        rw [hx] at hc1
        rw [hy] at hc2
        rw [hx, hy] at HSt HNo
        clear hx hy hI1 hI2 hjz hjy hF
        by_cases hxy : x = y
        · have HT := Lib.hid (HSt.out hxy)
          subst hxy
          clear HSt HNo
          go_wp2_with fail
          go_quiet (fail)
          go_wp2
          go_roundw
          case rel => exact ⟨j + 1, by omega, by go_num, HT, Lib.hid (drewN_below hB.out _)⟩
          case measure => simp [intOf]; omega
        · have HF : Hid (R = false) := Lib.hid (by rw [← HR.out]; exact decide_eq_false (HNo.out hxy))
          have hne : ((x : Int) != y) = true := by rw [bne_iff_ne]; exact hxy
          clear HSt HNo hxy
          go_wp2_with fail
          go_quiet (fail)
          go_wp2
          go_ret
          exact ⟨by rw [HF.out]; rfl, drewN_below hB.out _⟩
      · obtain rfl : j = la := by omega
        have HT : Hid (R = true) := Lib.hid (by
          rw [← HR.out]
          have h := hF.out
          have e1 : zs.take j = zs := by rw [HL.out, List.take_length]
          have e2 : ys.take j = ys := by rw [HK.out, List.take_length]
          rw [e1, e2] at h
          exact decide_eq_true h)
        clear hF
        go_wp2
        go_ret
        exact ⟨by rw [HT.out]; rfl, hB.out⟩
  · have HF : Hid (R = false) := Lib.hid (by
      rw [← hR]
      refine decide_eq_false ?_
      intro e
      rw [e] at hl
      omega)
    have hne2 : ((la : Int) != lb) = true := by rw [bne_iff_ne]; omega
    clear hR hne hl hk hz hy
    go_enter Tryd.func20, Tryd.ntmps20
    go_wp2
    go_ret
    exact ⟨by rw [HF.out]; rfl, Below.refl _ _⟩
end Go.Proofs.YtfapmgecebcfaaaDoor.Q

/- What was said, as it is read. -/
namespace Go.Proofs.YtfapmgecebcfaaaDoor.Q
open Go.RowKit
open Go.Proofs.YtfapmgecebcfaaaDoor.W (OwnI OwnR IntsIn RunesIn)

/-- An action in a row. -/
structure ActAt (w : World) (g o : Nat) (s : Say) (nv : Value) : Prop where
  c0 : w.cell? ⟨g, o, none⟩ = some (.int .i64 (s.kind : Int))
  c1 : w.cell? ⟨g, o + 1, none⟩ = some (.int .i32 (s.rune : Int))
  c2 : w.cell? ⟨g, o + 2, none⟩ = some (.int .u8 (s.byte : Int))
  c3 : w.cell? ⟨g, o + 3, none⟩ = some (.bool s.priv)
  c4 : w.cell? ⟨g, o + 4, none⟩ = some nv
  c5 : w.cell? ⟨g, o + 5, none⟩ = some (strV s.text)
theorem ActAt.below {w w' : World} {g o B : Nat} {s : Say} {nv : Value} (h : ActAt w g o s nv) (hb : Below B w w') (hg : g < B) : ActAt w' g o s nv :=
  ⟨(hb.cell (p := ⟨g, o, none⟩) hg).trans h.c0, (hb.cell (p := ⟨g, o + 1, none⟩) hg).trans h.c1, (hb.cell (p := ⟨g, o + 2, none⟩) hg).trans h.c2, (hb.cell (p := ⟨g, o + 3, none⟩) hg).trans h.c3, (hb.cell (p := ⟨g, o + 4, none⟩) hg).trans h.c4, (hb.cell (p := ⟨g, o + 5, none⟩) hg).trans h.c5⟩
theorem flat_get : ∀ (rows : List (Say × Value)) (i c : Nat) (r : Say × Value), rows[i]? = some r → c < 6 → (flat rows)[i * 6 + c]? = (aCells r)[c]?
  | [], i, c, r, h, _ => by simp at h
  | x :: rows, 0, c, r, h, hc => by
    simp at h
    subst h
    unfold flat
    rw [List.flatMap_cons, Nat.zero_mul, Nat.zero_add, List.getElem?_append_left (by simp [aCells]; omega)]
  | x :: rows, i + 1, c, r, h, hc => by
    have ih := flat_get rows i c r (by simpa using h) hc
    unfold flat at ih ⊢
    rw [List.flatMap_cons, List.getElem?_append_right (by simp [aCells]; omega)]
    rw [← ih]
    congr 1
    simp [aCells]
    omega
/-- the slice of what was said, where something was -/
theorem OwnA.shape {base : Nat} {v : Value} {l : List Say} {w : World} (h : OwnA base v l w) :
    (l = [] ∧ ∃ a c, v = .slice a 0 c ∧ (a = none → c = 0)) ∨ ∃ g cap, v = .slice (some ⟨g, 0, none⟩) l.length cap ∧ l ≠ [] ∧ base ≤ g ∧ g < w.heap.size ∧ l.length ≤ cap ∧ (cap : Int) ≤ 9223372036854775807 ∧ ∀ i s, l[i]? = some s → ∃ nv, ActAt w g (i * 6) s nv ∧ OwnI base nv s.nums w := by
  obtain ⟨rows, h1, h2, h3⟩ := h.rows
  rcases h2.2 with ⟨rfl, h0⟩ | ⟨g, cap, cur, rfl, hbase, hg, hc, hm, hs, ht⟩
  · exact .inl ⟨List.length_eq_zero_iff.1 h0, none, 0, rfl, fun _ => rfl⟩
  · by_cases hl : l = []
    · subst hl
      exact .inl ⟨rfl, _, _, rfl, fun e => by cases e⟩
    · refine .inr ⟨g, cap, rfl, hl, hbase, (Array.getElem?_eq_some_iff.1 hg).1, hc, by unfold maxLen at hm; omega, fun i s hi => ?_⟩
      have hlr : rows.length = l.length := by rw [← h1, List.length_map]
      obtain ⟨r, hr, rfl⟩ : ∃ r, rows[i]? = some r ∧ r.1 = s := by
        rw [← h1, List.getElem?_map] at hi
        obtain ⟨r, hr, e⟩ := Option.map_eq_some_iff.1 hi
        exact ⟨r, hr, e⟩
      have hil : i < l.length := by have := (List.getElem?_eq_some_iff.1 hr).1; omega
      have hcell : ∀ c, c < 6 → w.cell? ⟨g, i * 6 + c, none⟩ = (aCells r)[c]? := fun c hc6 => by
        rw [World.ownsRow.cellAt h2 (i * 6 + c) (by omega), flat_get rows i c r hr hc6]
      exact ⟨r.2, ⟨hcell 0 (by decide), hcell 1 (by decide), hcell 2 (by decide), hcell 3 (by decide), hcell 4 (by decide), hcell 5 (by decide)⟩, h3 r (List.mem_of_getElem? hr)⟩
end Go.Proofs.YtfapmgecebcfaaaDoor.Q
