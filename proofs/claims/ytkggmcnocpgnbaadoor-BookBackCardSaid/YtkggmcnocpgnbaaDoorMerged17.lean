/- A line out of bytes, as the program and the document read it. -/
import Derived.Test.YtkggmcnocpgnbaaDoorMerged11
import Derived.Test.YtkggmcnocpgnbaaDoorMerged14
import Derived.Test.YtkggmcnocpgnbaaDoorMerged15
namespace Go.Proofs.YtkggmcnocpgnbaaDoor.K
open Go.RowKit Go.Proofs.YtkggmcnocpgnbaaDoor.I

theorem numS_back (z : Int) (r : List UInt8) : numS (digs (clipN z) ++ r) 0 = ((r, 0), clipN z) := by
  unfold numS
  rw [first_digs _ _ (clipN_le z)]
  simp

/-- what is left, and the error -/
abbrev Sta := List UInt8 × Nat
/-- a number of at most m -/
def atS (st : Sta) (m : Nat) : Sta × Nat := if (numS st.1 st.2).2 ≤ m then numS st.1 st.2 else (failS (numS st.1 st.2).1.1 (numS st.1 st.2).1.2 1, 0)
theorem atS_le (st : Sta) (m : Nat) : (atS st m).2 ≤ m := by
  unfold atS
  split
  · assumption
  · exact Nat.zero_le _
theorem atS_back {z m : Nat} (h : z ≤ m) (hm : m ≤ top) (r : List UInt8) : atS (digs z ++ r, 0) m = ((r, 0), z) := by
  have h1 := numS_back (z : Int) r
  have h2 : clipN (z : Int) = z := by unfold clipN; omega
  rw [h2] at h1
  unfold atS
  rw [h1, if_pos h]
/-- a glyph -/
def gS (st : Sta) : Sta × (Int × Int) := ((atS (atS st 1114111).1 647).1, (((atS st 1114111).2 : Int), ((atS (atS st 1114111).1 647).2 : Int)))
def rdN : Nat → Sta → Sta × List (Int × Int)
  | 0, st => (st, [])
  | n + 1, st => ((gS (rdN n st).1).1, (rdN n st).2 ++ [(gS (rdN n st).1).2])
theorem rdN_len : ∀ (n : Nat) (st : Sta), (rdN n st).2.length = n
  | 0, _ => rfl
  | n + 1, st => by show ((rdN n st).2 ++ [_]).length = _; rw [List.length_append, rdN_len n st]; rfl
/-- a line -/
def readS (st : Sta) : Sta × List (Int × Int) := ((rdN (atS st 1024).2 (atS st 1024).1).1, if (rdN (atS st 1024).2 (atS st 1024).1).1.2 = 0 then (rdN (atS st 1024).2 (atS st 1024).1).2 else [])
/-- may it be a line? -/
def MayL (l : List (Int × Int)) : Prop := ∀ g ∈ l, (0 ≤ g.1 ∧ g.1 ≤ 1114111) ∧ 0 ≤ g.2 ∧ g.2 ≤ 647
theorem gS_back {g : Int × Int} (h : (0 ≤ g.1 ∧ g.1 ≤ 1114111) ∧ 0 ≤ g.2 ∧ g.2 ≤ 647) (r : List UInt8) : gS (gBytes g ++ r, 0) = ((r, 0), g) := by
  obtain ⟨x, s⟩ := g
  obtain ⟨⟨h1, h2⟩, h3, h4⟩ := h
  simp only at h1 h2 h3 h4
  obtain ⟨x, rfl⟩ := Int.eq_ofNat_of_zero_le h1
  obtain ⟨s, rfl⟩ := Int.eq_ofNat_of_zero_le h3
  have hx : clipN (x : Int) = x := by unfold clipN; have : (1114111 : Nat) ≤ top := by decide
                                      omega
  have hs : clipN (s : Int) = s := by unfold clipN; have : (1114111 : Nat) ≤ top := by decide
                                      omega
  unfold gS gBytes
  simp only
  rw [hx, hs, List.append_assoc, atS_back (by omega) (by decide), atS_back (by omega) (by decide)]
theorem rdN_back {l : List (Int × Int)} (h : MayL l) (r : List UInt8) : ∀ j, j ≤ l.length → rdN j (l.flatMap gBytes ++ r, 0) = (((l.drop j).flatMap gBytes ++ r, 0), l.take j)
  | 0, _ => by simp [rdN]
  | j + 1, hj => by
    have hjl : j < l.length := by omega
    have ih := rdN_back h r j (by omega)
    show ((gS (rdN j _).1).1, (rdN j _).2 ++ [(gS (rdN j _).1).2]) = _
    rw [ih]
    simp only
    rw [List.drop_eq_getElem_cons hjl, List.flatMap_cons, List.append_assoc, gS_back (h _ (List.getElem_mem hjl)), List.take_succ_eq_append_getElem hjl]
theorem readS_back {l : List (Int × Int)} (h : MayL l) (hl : l.length ≤ 1024) (r : List UInt8) : readS (packG l ++ r, 0) = ((r, 0), l) := by
  have h1 : atS (packG l ++ r, 0) 1024 = ((l.flatMap gBytes ++ r, 0), l.length) := by
    unfold packG
    rw [show clipN (l.length : Int) = l.length by unfold clipN; have : (1024 : Nat) ≤ top := by decide
                                                  omega, List.append_assoc]
    exact atS_back hl (by decide) _
  unfold readS
  rw [h1]
  simp only
  rw [rdN_back h r l.length (Nat.le_refl _), List.drop_of_length_le (Nat.le_refl _), List.take_of_length_le (Nat.le_refl _)]
  simp
end Go.Proofs.YtkggmcnocpgnbaaDoor.K

/- The contract of book.Read: a line out of bytes. -/
namespace Go.Proofs.YtkggmcnocpgnbaaDoor.K
open Go.RowKit Go.Proofs.YtkggmcnocpgnbaaDoor.I

set_option maxHeartbeats 2000000 in
theorem matmost_any (p : Nat) (st : Sta) (m : Nat) (hm : m ≤ 2000000) (w : World) (h : InSt p st.1 st.2 w) : Calls Tryd.prog 53 #[.pointer (some ⟨p, 0, none⟩), .int .i64 (m : Int)] w (Took p (.int .i64 ((atS st m).2 : Nat)) (atS st m).1 w) := by
  have HN := Lib.hid (innum_any p st.1 st.2 w h)
  obtain ⟨P, hP⟩ : ∃ P, Took p (.int .i64 ((atS st m).2 : Nat)) (atS st m).1 w = P := ⟨_, rfl⟩
  rw [hP]
  have HP := Lib.hid hP
  obtain ⟨⟨⟨l1, e1⟩, v⟩, hn⟩ : ∃ q, numS st.1 st.2 = q := ⟨_, rfl⟩
  have ha : atS st m = if v ≤ m then ((l1, e1), v) else (failS l1 e1 1, 0) := by unfold atS; rw [hn]
  rw [hn] at HN
  have HAt := Lib.hid ha
  clear hP h hn ha
  go_enter Tryd.func53, Tryd.ntmps53
  go_wp2_with fail
  refine HN.out.mono ?_
  rintro e w2 ⟨rfl, h2, hg2⟩
  by_cases hv : v ≤ m
  · have d1 : decide ((v : Int) > (m : Int)) = false := decide_eq_false (by omega)
    have d2 : decide (m < v) = false := decide_eq_false (by omega)
    have d3 : decide (v > m) = false := decide_eq_false (by omega)
    have hend : Hid (P (.returned (.int .i64 (v : Int))) w2) := Lib.hid (by rw [← HP.out, HAt.out, if_pos hv]; exact ⟨rfl, h2, hg2⟩)
    clear h2 hg2 HN hv
    go_wp2_with fail
    exact hend.out
  · have d1 : decide ((v : Int) > (m : Int)) = true := decide_eq_true (by omega)
    have d2 : decide (m < v) = true := decide_eq_true (by omega)
    have d3 : decide (v > m) = true := decide_eq_true (by omega)
    have HF := Lib.hid (fail_any p l1 e1 1 w2 h2)
    have HG := Lib.hid hg2
    have HV := Lib.hid hv
    clear h2 hg2 HN hv
    go_wp2_with fail
    refine HF.out.mono ?_
    rintro e w3 ⟨rfl, h3, hg3⟩
    have hend : Hid (P (.returned (.int .i64 0)) w3) := Lib.hid (by rw [← HP.out, HAt.out, if_neg HV.out]; exact ⟨rfl, h3, grown_trans HG.out hg3⟩)
    clear h3 hg3
    go_wp2_with fail
    exact hend.out
/-- what Read leaves -/
def RdPost (p : Nat) (st : Sta) (w : World) (e : Ending) (w' : World) : Prop := ∃ v, e = .returned v ∧ OwnP .i32 61 w.heap.size v (readS st).2 w' ∧ InSt p (readS st).1.1 (readS st).1.2 w' ∧ w.grownBy w' (some p)
theorem OwnP.grown {rk : IntKind} {T : TypeId} {base p : Nat} {v : Value} {l : List (Int × Int)} {w w' : World} (h : OwnP rk T base v l w) (hg : w.grownBy w' (some p)) (hp : p < base) : OwnP rk T base v l w' := h.kept hg (fun q hq e => by have := (h.ownBlock q hq).1; have := Option.some.inj e; omega)
set_option maxRecDepth 100000 in
set_option maxHeartbeats 8000000 in
theorem bread_any (p : Nat) (st : Sta) (w : World) (h : InSt p st.1 st.2 w) : Calls Tryd.prog 23 #[.pointer (some ⟨p, 0, none⟩)] w (RdPost p st w) := by
  obtain ⟨P, hP⟩ : ∃ P, RdPost p st w = P := ⟨_, rfl⟩
  rw [hP]
  have HP := Lib.hid hP
  obtain ⟨rb, hrb⟩ : ∃ rb, w.heap.size = rb := ⟨_, rfl⟩
  have HRb := Lib.hid hrb
  have hpl : p < rb := by obtain ⟨s, hb, -⟩ := h; rw [← hrb]; exact hb.lt
  have ha := matmost_any p st 1024 (by decide) w h
  rw [show ((1024 : Nat) : Int) = 1024 from rfl] at ha
  obtain ⟨⟨s0, n⟩, hat⟩ : ∃ q, atS st 1024 = q := ⟨_, rfl⟩
  rw [hat] at ha
  have hn : n ≤ 1024 := by have := atS_le st 1024; rw [hat] at this; exact this
  have hrd : readS st = ((rdN n s0).1, if (rdN n s0).1.2 = 0 then (rdN n s0).2 else []) := by unfold readS; rw [hat]
  have HA := Lib.hid ha
  have HRd := Lib.hid hrd
  have HPl := Lib.hid hpl
  have hnI : (n : Int) ≤ 1024 := by omega
  clear hP hrb h ha hat hrd hpl
  go_enter Tryd.func23, Tryd.ntmps23
  go_wp2_with fail
  refine HA.out.mono ?_
  rintro e w2 ⟨rfl, h2, hg2⟩
  have H2 : Hid (InSt p s0.1 s0.2 w2 ∧ w.grownBy w2 (some p)) := Lib.hid ⟨h2, hg2⟩
  clear h2 hg2 HA
  go_wp2_with fail
  go_loopw [3, 7] (fun u i wr => ∃ j : Nat, i = .int .i64 (j : Int) ∧ j ≤ n ∧ Hid (OwnP .i32 61 rb u (rdN j s0).2 wr ∧ InSt p (rdN j s0).1.1 (rdN j s0).1.2 wr ∧ w.grownBy wr (some p))) (fun _ i _ => n - (intOf i).toNat)
  case atStart => exact ⟨0, rfl, Nat.zero_le _, Lib.hid ⟨OwnP.nil _ _ _ _, H2.out.1, H2.out.2⟩⟩
  case round =>
    obtain ⟨j, rfl, hj, HF⟩ := hrel
    by_cases hlt : j < n
    · have hd : decide (j < n) = true := decide_eq_true hlt
      have hjI : (j : Int) < n := by omega
      obtain ⟨sj, hsj⟩ : ∃ s, (rdN j s0).1 = s := ⟨_, rfl⟩
      obtain ⟨lj, hlj⟩ : ∃ l, (rdN j s0).2 = l := ⟨_, rfl⟩
      have hlen : lj.length = j := by rw [← hlj, rdN_len]
      have hnx : rdN (j + 1) s0 = ((gS sj).1, lj ++ [(gS sj).2]) := by show ((gS (rdN j s0).1).1, (rdN j s0).2 ++ [(gS (rdN j s0).1).2]) = _; rw [hsj, hlj]
      rw [hsj, hlj] at HF
      have ha := matmost_any p sj 1114111 (by decide) wr HF.out.2.1
      rw [show ((1114111 : Nat) : Int) = 1114111 from rfl] at ha
      obtain ⟨⟨sa, x⟩, hat⟩ : ∃ q, atS sj 1114111 = q := ⟨_, rfl⟩
      rw [hat] at ha
      have hx : x ≤ 1114111 := by have := atS_le sj 1114111; rw [hat] at this; exact this
      have HA := Lib.hid ha
      have HX := Lib.hid hat
      have HLen := Lib.hid hlen
      have HNx := Lib.hid hnx
      have hxI : (x : Int) ≤ 1114111 := by omega
      have hwr : IntKind.i32.wrap (x : Int) = (x : Int) := by rw [IntKind.wrap_i32]; omega
      obtain ⟨ua, uc, rfl, -⟩ := HF.out.1.shape
      rw [HLen.out] at HF ⊢
      clear ha hat hlen hnx hsj hlj
      go_wp2_with fail
      refine HA.out.mono ?_
      rintro e w4 ⟨rfl, h4, hg4⟩
      have hb := matmost_any p sa 647 (by decide) w4 h4
      rw [show ((647 : Nat) : Int) = 647 from rfl] at hb
      obtain ⟨⟨sb, y⟩, hbt⟩ : ∃ q, atS sa 647 = q := ⟨_, rfl⟩
      rw [hbt] at hb
      have hg : gS sj = (sb, ((x : Int), (y : Int))) := by unfold gS; rw [HX.out]; simp only; rw [hbt]
      have HG := Lib.hid hg
      have HB := Lib.hid hb
      have H4 : Hid (OwnP .i32 61 rb (.slice ua j uc) lj w4 ∧ w.grownBy w4 (some p)) := Lib.hid ⟨HF.out.1.grown hg4 HPl.out, grown_trans HF.out.2.2 hg4⟩
      clear h4 hg4 hb hbt hg HA HF HX
      go_wp2_with fail
      refine HB.out.mono ?_
      rintro e w5 ⟨rfl, h5, hg5⟩
      have H5 : Hid (OwnP .i32 61 rb (.slice ua j uc) lj w5 ∧ w.grownBy w5 (some p)) := Lib.hid ⟨H4.out.1.grown hg5 HPl.out, grown_trans H4.out.2 hg5⟩
      have HI5 := Lib.hid h5
      have HS5 : Hid (rb ≤ w5.heap.size) := Lib.hid (by have := H5.out.2.size; have := HRb.out; omega)
      obtain ⟨g6, hg6⟩ : ∃ g, w5.heap.size = g := ⟨_, rfl⟩
      obtain ⟨w6, hw6⟩ : ∃ w6, w5.alloc (.cells #[.int .i32 (x : Int), .int .i64 (y : Int)] 61) = w6 := ⟨_, rfl⟩
      have hnb : w6.heap[g6]? = some (.cells #[.int .i32 (x : Int), .int .i64 (y : Int)] 61 (0, 0)) := by rw [← hw6, ← hg6]; exact heap_alloc_new w5 _
      have hO6 : OwnP .i32 61 rb (.slice ua j uc) lj w6 := by rw [← hw6]; exact H5.out.1.alloc _
      have hs6 : w6.heap.size = w5.heap.size + 1 := by rw [← hw6, World.size_alloc]
      have hb6 : Below w5.heap.size w5 w6 := by rw [← hw6]; exact (Below.refl _ _).alloc (Nat.le_refl _) _
      have HO6 := Lib.hid hO6
      have HN0 : Hid (w6.cell? ⟨g6, 0, none⟩ = some (.int .i32 (x : Int))) := Lib.hid (by rw [cell_block hnb]; rfl)
      have HN1 : Hid (w6.cell? ⟨g6, 1, none⟩ = some (.int .i64 (y : Int))) := Lib.hid (by rw [cell_block hnb]; rfl)
      have HB6 := Lib.hid hb6
      have HW6 := Lib.hid hw6
      have HG6 := Lib.hid hg6
      have HS6 : Hid (rb ≤ w6.heap.size) := Lib.hid (by have := HS5.out; omega)
      have HLl : Hid ((lj.length : Int) ≤ 1000000) := Lib.hid (by rw [HLen.out]; omega)
      clear h5 hg5 hg6 hw6 hnb hO6 hs6 hb6 HB H4
      go_wp2_with (at_builtin; (try rw [HW6.out, HG6.out]); refine wpList_append_pair gluT rfl _ _ rfl rfl rb _ lj ((x : Int), (y : Int)) g6 rfl rfl HO6.out HN0.out HN1.out HLl.out HS6.out ?_)
      intro v' w' hown hgr
      have HE : Hid (OwnP .i32 61 rb v' (rdN (j + 1) s0).2 w' ∧ InSt p (rdN (j + 1) s0).1.1 (rdN (j + 1) s0).1.2 w' ∧ w.grownBy w' (some p)) := Lib.hid (by
        have hk : Below rb w6 w' := (Below.refl _ _).grown hgr HS6.out (fun q hq => (HO6.out.ownBlock q hq).1)
        have hk5 : Below rb w5 w' := (HB6.out.mono HS5.out).trans hk
        rw [HNx.out, HG.out]
        obtain ⟨s, hb, h1, h2⟩ := HI5.out
        have hg5 := H5.out.2
        refine ⟨hown, ⟨s, (hk5.block p HPl.out).trans hb, h1, h2⟩, hk5.os.trans hg5.os, hk5.tape.trans hg5.tape, hk5.output.trans hg5.output, Nat.le_trans hg5.size hk5.size, fun i hi hn => (hk5.block i (by rw [← HRb.out]; exact hi)).trans (hg5.block i hi hn)⟩)
      clear hown hgr
      go_wp2
      go_roundw
      case rel => exact ⟨j + 1, by go_num, by omega, HE⟩
      case measure => simp [intOf]; omega
    · obtain rfl : j = n := by omega
      have hd : decide (j < j) = false := by simp
      have HEr := Lib.hid (err_any p _ _ wr HF.out.2.1)
      obtain ⟨ua, uc, rfl, -⟩ := HF.out.1.shape
      rw [rdN_len] at HF ⊢
      have hend : (rdN j s0).1.2 = 0 → P (.returned (.slice ua j uc)) wr := fun h0 => by
        rw [← HP.out]
        unfold RdPost
        rw [HRd.out, if_pos h0, HRb.out]
        exact ⟨_, rfl, HF.out.1, HF.out.2.1, HF.out.2.2⟩
      have hend2 : (rdN j s0).1.2 ≠ 0 → P (.returned (.slice none 0 0)) wr := fun h0 => by
        rw [← HP.out]
        unfold RdPost
        rw [HRd.out, if_neg h0]
        exact ⟨_, rfl, OwnP.nil _ _ _ _, HF.out.2.1, HF.out.2.2⟩
      obtain ⟨er, her⟩ : ∃ e, (rdN j s0).1.2 = e := ⟨_, rfl⟩
      rw [her] at HEr hend hend2
      have HE1 := Lib.hid hend
      have HE2 := Lib.hid hend2
      clear hlt HF her hend hend2
      by_cases h0 : er = 0
      · have q1 : ((er : Int) != 0) = false := by rw [bne_eq_false_iff_eq]; omega
        have hE : Hid (P (.returned (.slice ua j uc)) wr) := Lib.hid (HE1.out h0)
        clear h0 HE1 HE2
        go_wp2_with fail
        refine HEr.out.mono ?_
        rintro e w9 ⟨rfl, rfl⟩
        go_wp2_with fail
        exact hE.out
      · have q1 : ((er : Int) != 0) = true := by rw [bne_iff_ne]; omega
        have hE : Hid (P (.returned (.slice none 0 0)) wr) := Lib.hid (HE2.out h0)
        clear h0 HE1 HE2
        go_wp2_with fail
        refine HEr.out.mono ?_
        rintro e w9 ⟨rfl, rfl⟩
        go_wp2_with fail
        exact hE.out
end Go.Proofs.YtkggmcnocpgnbaaDoor.K
