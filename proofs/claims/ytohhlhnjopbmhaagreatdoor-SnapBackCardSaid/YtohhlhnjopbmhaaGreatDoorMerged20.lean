/- The contract of book.Read: a line out of bytes. -/
import Derived.Test.YtohhlhnjopbmhaaGreatDoorMerged1
import Derived.Test.YtohhlhnjopbmhaaGreatDoorMerged18
import Derived.Test.YtohhlhnjopbmhaaGreatDoorNPack
namespace Go.Proofs.YtohhlhnjopbmhaaGreatDoor.K
open Go.RowKit Go.Proofs.YtohhlhnjopbmhaaGreatDoor.I

set_option maxHeartbeats 2000000 in
theorem matmost_any (p : Nat) (st : Sta) (m : Nat) (hm : m ≤ 2000000) (w : World) (h : InSt p st.1 st.2 w) : Calls Tryz.prog 88 #[.pointer (some ⟨p, 0, none⟩), .int .i64 (m : Int)] w (Took p (.int .i64 ((atS st m).2 : Nat)) (atS st m).1 w) := by
  have HN := Lib.hid (innum_any p st.1 st.2 w h)
  obtain ⟨P, hP⟩ : ∃ P, Took p (.int .i64 ((atS st m).2 : Nat)) (atS st m).1 w = P := ⟨_, rfl⟩
  rw [hP]
  have HP := Lib.hid hP
  obtain ⟨⟨⟨l1, e1⟩, v⟩, hn⟩ : ∃ q, numS st.1 st.2 = q := ⟨_, rfl⟩
  have ha : atS st m = if v ≤ m then ((l1, e1), v) else (failS l1 e1 1, 0) := by unfold atS; rw [hn]
  rw [hn] at HN
  have HAt := Lib.hid ha
  clear hP h hn ha
  go_enter Tryz.func88, Tryz.ntmps88
  go_wp2_with fail
  refine HN.out.mono ?_
  rintro e w2 ⟨rfl, h2, hg2⟩
  by_cases hv : v ≤ m
  · have d1 : decide ((v : Int) > (m : Int)) = false := decide_eq_false (by omega)
    have d2 : decide (m < v) = false := decide_eq_false (by omega)
    have d3 : decide (v > m) = false := decide_eq_false (by omega)
    have hend : Hid (P (.returned (.int .i64 (v : Int))) w2) := Lib.hid (by rw [← HP.out, HAt.out, if_pos hv]; exact ⟨rfl, h2, hg2⟩)
    clear h2 hg2 HN hv
    go_wp2_with fail
    exact hend.out
  · have d1 : decide ((v : Int) > (m : Int)) = true := decide_eq_true (by omega)
    have d2 : decide (m < v) = true := decide_eq_true (by omega)
    have d3 : decide (v > m) = true := decide_eq_true (by omega)
    have HF := Lib.hid (fail_any p l1 e1 1 w2 h2)
    have HG := Lib.hid hg2
    have HV := Lib.hid hv
    clear h2 hg2 HN hv
    go_wp2_with fail
    refine HF.out.mono ?_
    rintro e w3 ⟨rfl, h3, hg3⟩
    have hend : Hid (P (.returned (.int .i64 0)) w3) := Lib.hid (by rw [← HP.out, HAt.out, if_neg HV.out]; exact ⟨rfl, h3, grown_trans HG.out hg3⟩)
    clear h3 hg3
    go_wp2_with fail
    exact hend.out
/-- what Read leaves -/
def RdPost (p : Nat) (st : Sta) (w : World) (e : Ending) (w' : World) : Prop := ∃ v, e = .returned v ∧ OwnP .i32 86 w.heap.size v (readS st).2 w' ∧ InSt p (readS st).1.1 (readS st).1.2 w' ∧ w.grownBy w' (some p)
theorem OwnP.grown {rk : IntKind} {T : TypeId} {base p : Nat} {v : Value} {l : List (Int × Int)} {w w' : World} (h : OwnP rk T base v l w) (hg : w.grownBy w' (some p)) (hp : p < base) : OwnP rk T base v l w' := h.kept hg (fun q hq e => by have := (h.ownBlock q hq).1; have := Option.some.inj e; omega)
set_option maxRecDepth 100000 in
set_option maxHeartbeats 8000000 in
theorem bread_any (p : Nat) (st : Sta) (w : World) (h : InSt p st.1 st.2 w) : Calls Tryz.prog 72 #[.pointer (some ⟨p, 0, none⟩)] w (RdPost p st w) := by
  obtain ⟨P, hP⟩ : ∃ P, RdPost p st w = P := ⟨_, rfl⟩
  rw [hP]
  have HP := Lib.hid hP
  obtain ⟨rb, hrb⟩ : ∃ rb, w.heap.size = rb := ⟨_, rfl⟩
  have HRb := Lib.hid hrb
  have hpl : p < rb := by obtain ⟨s, hb, -⟩ := h; rw [← hrb]; exact hb.lt
  have ha := matmost_any p st 1024 (by decide) w h
  rw [show ((1024 : Nat) : Int) = 1024 from rfl] at ha
  obtain ⟨⟨s0, n⟩, hat⟩ : ∃ q, atS st 1024 = q := ⟨_, rfl⟩
  rw [hat] at ha
  have hn : n ≤ 1024 := by have := atS_le st 1024; rw [hat] at this; exact this
  have hrd : readS st = ((rdN n s0).1, if (rdN n s0).1.2 = 0 then (rdN n s0).2 else []) := by unfold readS; rw [hat]
  have HA := Lib.hid ha
  have HRd := Lib.hid hrd
  have HPl := Lib.hid hpl
  have hnI : (n : Int) ≤ 1024 := by omega
  clear hP hrb h ha hat hrd hpl
  go_enter Tryz.func72, Tryz.ntmps72
  go_wp2_with fail
  refine HA.out.mono ?_
  rintro e w2 ⟨rfl, h2, hg2⟩
  have H2 : Hid (InSt p s0.1 s0.2 w2 ∧ w.grownBy w2 (some p)) := Lib.hid ⟨h2, hg2⟩
  clear h2 hg2 HA
  go_wp2_with fail
  go_loopw [3, 7] (fun u i wr => ∃ j : Nat, i = .int .i64 (j : Int) ∧ j ≤ n ∧ Hid (OwnP .i32 86 rb u (rdN j s0).2 wr ∧ InSt p (rdN j s0).1.1 (rdN j s0).1.2 wr ∧ w.grownBy wr (some p))) (fun _ i _ => n - (intOf i).toNat)
  case atStart => exact ⟨0, rfl, Nat.zero_le _, Lib.hid ⟨OwnP.nil _ _ _ _, H2.out.1, H2.out.2⟩⟩
  case round =>
    obtain ⟨j, rfl, hj, HF⟩ := hrel
    by_cases hlt : j < n
    · have hd : decide (j < n) = true := decide_eq_true hlt
      have hjI : (j : Int) < n := by omega
      obtain ⟨sj, hsj⟩ : ∃ s, (rdN j s0).1 = s := ⟨_, rfl⟩
      obtain ⟨lj, hlj⟩ : ∃ l, (rdN j s0).2 = l := ⟨_, rfl⟩
      have hlen : lj.length = j := by rw [← hlj, rdN_len]
      have hnx : rdN (j + 1) s0 = ((gS sj).1, lj ++ [(gS sj).2]) := by show ((gS (rdN j s0).1).1, (rdN j s0).2 ++ [(gS (rdN j s0).1).2]) = _; rw [hsj, hlj]
      rw [hsj, hlj] at HF
      have ha := matmost_any p sj 1114111 (by decide) wr HF.out.2.1
      rw [show ((1114111 : Nat) : Int) = 1114111 from rfl] at ha
      obtain ⟨⟨sa, x⟩, hat⟩ : ∃ q, atS sj 1114111 = q := ⟨_, rfl⟩
      rw [hat] at ha
      have hx : x ≤ 1114111 := by have := atS_le sj 1114111; rw [hat] at this; exact this
      have HA := Lib.hid ha
      have HX := Lib.hid hat
      have HLen := Lib.hid hlen
      have HNx := Lib.hid hnx
      have hxI : (x : Int) ≤ 1114111 := by omega
      have hwr : IntKind.i32.wrap (x : Int) = (x : Int) := by rw [IntKind.wrap_i32]; omega
      obtain ⟨ua, uc, rfl, -⟩ := HF.out.1.shape
      rw [HLen.out] at HF ⊢
      clear ha hat hlen hnx hsj hlj
      go_wp2_with fail
      refine HA.out.mono ?_
      rintro e w4 ⟨rfl, h4, hg4⟩
      have hb := matmost_any p sa 647 (by decide) w4 h4
      rw [show ((647 : Nat) : Int) = 647 from rfl] at hb
      obtain ⟨⟨sb, y⟩, hbt⟩ : ∃ q, atS sa 647 = q := ⟨_, rfl⟩
      rw [hbt] at hb
      have hg : gS sj = (sb, ((x : Int), (y : Int))) := by unfold gS; rw [HX.out]; simp only; rw [hbt]
      have HG := Lib.hid hg
      have HB := Lib.hid hb
      have H4 : Hid (OwnP .i32 86 rb (.slice ua j uc) lj w4 ∧ w.grownBy w4 (some p)) := Lib.hid ⟨HF.out.1.grown hg4 HPl.out, grown_trans HF.out.2.2 hg4⟩
      clear h4 hg4 hb hbt hg HA HF HX
      go_wp2_with fail
      refine HB.out.mono ?_
      rintro e w5 ⟨rfl, h5, hg5⟩
      have H5 : Hid (OwnP .i32 86 rb (.slice ua j uc) lj w5 ∧ w.grownBy w5 (some p)) := Lib.hid ⟨H4.out.1.grown hg5 HPl.out, grown_trans H4.out.2 hg5⟩
      have HI5 := Lib.hid h5
      have HS5 : Hid (rb ≤ w5.heap.size) := Lib.hid (by have := H5.out.2.size; have := HRb.out; omega)
      obtain ⟨g6, hg6⟩ : ∃ g, w5.heap.size = g := ⟨_, rfl⟩
      obtain ⟨w6, hw6⟩ : ∃ w6, w5.alloc (.cells #[.int .i32 (x : Int), .int .i64 (y : Int)] 86) = w6 := ⟨_, rfl⟩
      have hnb : w6.heap[g6]? = some (.cells #[.int .i32 (x : Int), .int .i64 (y : Int)] 86 (0, 0)) := by rw [← hw6, ← hg6]; exact heap_alloc_new w5 _
      have hO6 : OwnP .i32 86 rb (.slice ua j uc) lj w6 := by rw [← hw6]; exact H5.out.1.alloc _
      have hs6 : w6.heap.size = w5.heap.size + 1 := by rw [← hw6, World.size_alloc]
      have hb6 : Below w5.heap.size w5 w6 := by rw [← hw6]; exact (Below.refl _ _).alloc (Nat.le_refl _) _
      have HO6 := Lib.hid hO6
      have HN0 : Hid (w6.cell? ⟨g6, 0, none⟩ = some (.int .i32 (x : Int))) := Lib.hid (by rw [cell_block hnb]; rfl)
      have HN1 : Hid (w6.cell? ⟨g6, 1, none⟩ = some (.int .i64 (y : Int))) := Lib.hid (by rw [cell_block hnb]; rfl)
      have HB6 := Lib.hid hb6
      have HW6 := Lib.hid hw6
      have HG6 := Lib.hid hg6
      have HS6 : Hid (rb ≤ w6.heap.size) := Lib.hid (by have := HS5.out; omega)
      have HLl : Hid ((lj.length : Int) ≤ 1000000) := Lib.hid (by rw [HLen.out]; omega)
      clear h5 hg5 hg6 hw6 hnb hO6 hs6 hb6 HB H4
      go_wp2_with (at_builtin; (try rw [HW6.out, HG6.out]); refine wpList_append_pair gluT rfl _ _ rfl rfl rb _ lj ((x : Int), (y : Int)) g6 rfl rfl HO6.out HN0.out HN1.out HLl.out HS6.out ?_)
      intro v' w' hown hgr
      have HE : Hid (OwnP .i32 86 rb v' (rdN (j + 1) s0).2 w' ∧ InSt p (rdN (j + 1) s0).1.1 (rdN (j + 1) s0).1.2 w' ∧ w.grownBy w' (some p)) := Lib.hid (by
        have hk : Below rb w6 w' := (Below.refl _ _).grown hgr HS6.out (fun q hq => (HO6.out.ownBlock q hq).1)
        have hk5 : Below rb w5 w' := (HB6.out.mono HS5.out).trans hk
        rw [HNx.out, HG.out]
        obtain ⟨s, hb, h1, h2⟩ := HI5.out
        have hg5 := H5.out.2
        refine ⟨hown, ⟨s, (hk5.block p HPl.out).trans hb, h1, h2⟩, hk5.os.trans hg5.os, hk5.tape.trans hg5.tape, hk5.output.trans hg5.output, Nat.le_trans hg5.size hk5.size, fun i hi hn => (hk5.block i (by rw [← HRb.out]; exact hi)).trans (hg5.block i hi hn)⟩)
      clear hown hgr
      go_wp2
      go_roundw
      case rel => exact ⟨j + 1, by go_num, by omega, HE⟩
      case measure => simp [intOf]; omega
    · obtain rfl : j = n := by omega
      have hd : decide (j < j) = false := by simp
      have HEr := Lib.hid (err_any p _ _ wr HF.out.2.1)
      obtain ⟨ua, uc, rfl, -⟩ := HF.out.1.shape
      rw [rdN_len] at HF ⊢
      have hend : (rdN j s0).1.2 = 0 → P (.returned (.slice ua j uc)) wr := fun h0 => by
        rw [← HP.out]
        unfold RdPost
        rw [HRd.out, if_pos h0, HRb.out]
        exact ⟨_, rfl, HF.out.1, HF.out.2.1, HF.out.2.2⟩
      have hend2 : (rdN j s0).1.2 ≠ 0 → P (.returned (.slice none 0 0)) wr := fun h0 => by
        rw [← HP.out]
        unfold RdPost
        rw [HRd.out, if_neg h0]
        exact ⟨_, rfl, OwnP.nil _ _ _ _, HF.out.2.1, HF.out.2.2⟩
      obtain ⟨er, her⟩ : ∃ e, (rdN j s0).1.2 = e := ⟨_, rfl⟩
      rw [her] at HEr hend hend2
      have HE1 := Lib.hid hend
      have HE2 := Lib.hid hend2
      clear hlt HF her hend hend2
      by_cases h0 : er = 0
      · have q1 : ((er : Int) != 0) = false := by rw [bne_eq_false_iff_eq]; omega
        have hE : Hid (P (.returned (.slice ua j uc)) wr) := Lib.hid (HE1.out h0)
        clear h0 HE1 HE2
        go_wp2_with fail
        refine HEr.out.mono ?_
        rintro e w9 ⟨rfl, rfl⟩
        go_wp2_with fail
        exact hE.out
      · have q1 : ((er : Int) != 0) = true := by rw [bne_iff_ne]; omega
        have hE : Hid (P (.returned (.slice none 0 0)) wr) := Lib.hid (HE2.out h0)
        clear h0 HE1 HE2
        go_wp2_with fail
        refine HEr.out.mono ?_
        rintro e w9 ⟨rfl, rfl⟩
        go_wp2_with fail
        exact hE.out
end Go.Proofs.YtohhlhnjopbmhaaGreatDoor.K

/- The contracts of snap's atMost and readRun. -/
namespace Go.Proofs.YtohhlhnjopbmhaaGreatDoor.K
open Go.RowKit Go.Proofs.YtohhlhnjopbmhaaGreatDoor.I

set_option maxHeartbeats 2000000 in
theorem natmost_any (p : Nat) (st : Sta) (m : Nat) (hm : m ≤ 2000000) (w : World) (h : InSt p st.1 st.2 w) : Calls Tryz.prog 70 #[.pointer (some ⟨p, 0, none⟩), .int .i64 (m : Int)] w (Took p (.int .i64 ((atS st m).2 : Nat)) (atS st m).1 w) := by
  have HN := Lib.hid (innum_any p st.1 st.2 w h)
  obtain ⟨P, hP⟩ : ∃ P, Took p (.int .i64 ((atS st m).2 : Nat)) (atS st m).1 w = P := ⟨_, rfl⟩
  rw [hP]
  have HP := Lib.hid hP
  obtain ⟨⟨⟨l1, e1⟩, v⟩, hn⟩ : ∃ q, numS st.1 st.2 = q := ⟨_, rfl⟩
  have ha : atS st m = if v ≤ m then ((l1, e1), v) else (failS l1 e1 1, 0) := by unfold atS; rw [hn]
  rw [hn] at HN
  have HAt := Lib.hid ha
  clear hP h hn ha
  go_enter Tryz.func70, Tryz.ntmps70
  go_wp2_with fail
  refine HN.out.mono ?_
  rintro e w2 ⟨rfl, h2, hg2⟩
  by_cases hv : v ≤ m
  · have d1 : decide ((v : Int) > (m : Int)) = false := decide_eq_false (by omega)
    have d2 : decide (m < v) = false := decide_eq_false (by omega)
    have d3 : decide (v > m) = false := decide_eq_false (by omega)
    have hend : Hid (P (.returned (.int .i64 (v : Int))) w2) := Lib.hid (by rw [← HP.out, HAt.out, if_pos hv]; exact ⟨rfl, h2, hg2⟩)
    clear h2 hg2 HN hv
    go_wp2_with fail
    exact hend.out
  · have d1 : decide ((v : Int) > (m : Int)) = true := decide_eq_true (by omega)
    have d2 : decide (m < v) = true := decide_eq_true (by omega)
    have d3 : decide (v > m) = true := decide_eq_true (by omega)
    have HF := Lib.hid (fail_any p l1 e1 1 w2 h2)
    have HG := Lib.hid hg2
    have HV := Lib.hid hv
    clear h2 hg2 HN hv
    go_wp2_with fail
    refine HF.out.mono ?_
    rintro e w3 ⟨rfl, h3, hg3⟩
    have hend : Hid (P (.returned (.int .i64 0)) w3) := Lib.hid (by rw [← HP.out, HAt.out, if_neg HV.out]; exact ⟨rfl, h3, grown_trans HG.out hg3⟩)
    clear h3 hg3
    go_wp2_with fail
    exact hend.out
theorem grown_setNew {w w' : World} {p rb : Nat} (h : w.grownBy w' (some p)) (hr : w.heap.size ≤ rb) (o : Nat) (v : Value) : w.grownBy (w'.setCell ⟨rb, o, none⟩ v) (some p) :=
  ⟨h.os, h.tape, h.output, Nat.le_trans h.size (KeepsWalks.setCell w' _ v).size, fun i hi hn => (Below.heap_setCell _ _ _ i (fun e => by have : i = rb := e; omega)).trans (h.block i hi hn)⟩
theorem inst_setOther {p rb : Nat} {l : List UInt8} {e : Nat} {w : World} (h : InSt p l e w) (hne : p ≠ rb) (o : Nat) (v : Value) : InSt p l e (w.setCell ⟨rb, o, none⟩ v) := by
  obtain ⟨s, hb, hl, hs⟩ := h
  exact ⟨s, (Below.heap_setCell w ⟨rb, o, none⟩ v p hne).trans hb, hl, hs⟩
set_option maxRecDepth 100000 in
set_option maxHeartbeats 8000000 in
theorem readRun_any (p : Nat) (st : Sta) (m : Nat) (hm : m ≤ 2000000) (w : World) (h : InSt p st.1 st.2 w) : Calls Tryz.prog 90 #[.pointer (some ⟨p, 0, none⟩), .int .i64 (m : Int)] w (Took p (.agg #[.int .i64 (((runS st m).2.1 : Nat) : Int), .int .i32 (runS st m).2.2.rune, .int .i64 (runS st m).2.2.style, .int .i64 (runS st m).2.2.part]) (runS st m).1 w) := by
  obtain ⟨rb, hrb⟩ : ∃ rb, w.heap.size = rb := ⟨_, rfl⟩
  obtain ⟨P, hP⟩ : ∃ P, Took p (.agg #[.int .i64 (((runS st m).2.1 : Nat) : Int), .int .i32 (runS st m).2.2.rune, .int .i64 (runS st m).2.2.style, .int .i64 (runS st m).2.2.part]) (runS st m).1 w = P := ⟨_, rfl⟩
  rw [hP]
  have HP := Lib.hid hP
  have hpl : p < rb := by obtain ⟨s, hb, -⟩ := h; rw [← hrb]; exact hb.lt
  obtain ⟨w1, hw1⟩ : ∃ w1, w.alloc (.cells #[.int .i64 0, .int .i32 0, .int .i64 0, .int .i64 0] 121) = w1 := ⟨_, rfl⟩
  have hbk : w1.heap[rb]? = some (.cells #[.int .i64 0, .int .i32 0, .int .i64 0, .int .i64 0] 121 (0, 0)) := by rw [← hw1, ← hrb]; exact heap_alloc_new w _
  have h1 : InSt p st.1 st.2 w1 := by rw [← hw1]; exact h.alloc _
  have hg1 : w.grownBy w1 (some p) := by rw [← hw1]; exact World.grownBy_alloc w _ _
  have HA := Lib.hid (natmost_any p st m hm w1 h1)
  obtain ⟨⟨s0, n⟩, hat⟩ : ∃ q, atS st m = q := ⟨_, rfl⟩
  rw [hat] at HA
  have hr1 : r1 st m = (s0, n) := hat
  have HR1 := Lib.hid hr1
  have HRb := Lib.hid hrb
  have HW1 := Lib.hid hw1
  have HBk0 := Lib.hid hbk
  have HG0 := Lib.hid hg1
  have HNe : Hid (p ≠ rb) := Lib.hid (by omega)
  have HRs : Hid (w.heap.size ≤ rb) := Lib.hid (by omega)
  clear hP hrb h hpl hw1 hbk h1 hg1 hat hr1
  go_enter Tryz.func90, Tryz.ntmps90
  go_upto_region 1 with fail
  rw [HW1.out, HRb.out]
  go_wp2_with fail
  refine HA.out.mono ?_
  rintro e w2 ⟨rfl, h2, hg2⟩
  have hbk2 : w2.heap[rb]? = some (.cells #[.int .i64 0, .int .i32 0, .int .i64 0, .int .i64 0] 121 (0, 0)) := (hg2.block rb (Array.getElem?_eq_some_iff.1 HBk0.out).1 (fun e => HNe.out (Option.some.inj e).symm)).trans HBk0.out
  have HBk := Lib.hid hbk2
  have HG1 := Lib.hid (grown_trans HG0.out hg2)
  have HLt : Hid (rb < w2.heap.size) := Lib.hid (Array.getElem?_eq_some_iff.1 hbk2).1
  clear hbk2 hg2 HA
  by_cases hn : n = 0
  · subst hn
    have HF := Lib.hid (fail_any p s0.1 s0.2 1 w2 h2)
    obtain ⟨sz, hsz⟩ : ∃ sz : Sta, failS s0.1 s0.2 1 = sz := ⟨_, rfl⟩
    have hz : zeroF (r1 st m).1 (r1 st m).2 = sz := by rw [HR1.out]; unfold zeroF; rw [if_pos rfl]; exact hsz
    have HZ := Lib.hid hz
    rw [hsz] at HF
    clear h2 hsz hz
    go_wp2_with fail
    refine HF.out.mono ?_
    rintro e w3 ⟨rfl, h3, hg3⟩
    obtain ⟨⟨s1, vx⟩, hx⟩ : ∃ q, atS sz 1114111 = q := ⟨_, rfl⟩
    obtain ⟨⟨s2, vs⟩, hs⟩ : ∃ q, atS s1 647 = q := ⟨_, rfl⟩
    obtain ⟨⟨s4, vp⟩, hp⟩ : ∃ q, atS s2 3 = q := ⟨_, rfl⟩
    have hvx : vx ≤ 1114111 := by have := atS_le sz 1114111; rw [hx] at this; exact this
    have HRun : Hid (runS st m = (s4, (0, ⟨(vx : Int), (vs : Int), (vp : Int)⟩))) := Lib.hid (by
      unfold runS
      rw [r4_def, r3_def, r2_def, HZ.out, HR1.out, hx]
      simp only
      rw [hs]
      simp only
      rw [hp])
    have hX := natmost_any p sz 1114111 (by decide) w3 h3
    rw [hx] at hX
    have HX := Lib.hid hX
    have hlt3 := Nat.lt_of_lt_of_le HLt.out hg3.size
    have b3 := (hg3.block rb HLt.out (fun e => HNe.out (Option.some.inj e).symm)).trans HBk.out
    have HG3 := Lib.hid (grown_trans HG1.out hg3)
    have HB3 := Lib.hid b3
    have HS0 := Lib.hid hs
    have HP0 := Lib.hid hp
    clear h3 hg3 hlt3 b3 hX hx hs hp
    go_wp2_with fail
    refine HX.out.mono ?_
    rintro e w4 ⟨rfl, h4, hg4⟩
    have HG4 := Lib.hid (grown_trans HG3.out hg4)
    have HB4 : Hid (w4.heap[rb]? = some (.cells #[.int .i64 0, .int .i32 0, .int .i64 0, .int .i64 0] 121 (0, 0))) := Lib.hid ((hg4.block rb (Array.getElem?_eq_some_iff.1 HB3.out).1 (fun e => HNe.out (Option.some.inj e).symm)).trans HB3.out)
    have hS := natmost_any p s1 647 (by decide) w4 h4
    rw [HS0.out] at hS
    have HS := Lib.hid hS
    have hwx : IntKind.i32.wrap (vx : Int) = (vx : Int) := by rw [IntKind.wrap_i32]; omega
    clear h4 hg4 HX hS
    go_wp2_with fail
    refine HS.out.mono ?_
    rintro e w5 ⟨rfl, h5, hg5⟩
    have HG5 := Lib.hid (grown_trans HG4.out hg5)
    have HB5 : Hid (w5.heap[rb]? = some (.cells #[.int .i64 0, .int .i32 0, .int .i64 0, .int .i64 0] 121 (0, 0))) := Lib.hid ((hg5.block rb (Array.getElem?_eq_some_iff.1 HB4.out).1 (fun e => HNe.out (Option.some.inj e).symm)).trans HB4.out)
    have hPt := natmost_any p s2 3 (by decide) w5 h5
    rw [HP0.out] at hPt
    have HPt := Lib.hid hPt
    clear h5 hg5 HS hPt
    go_wp2_with fail
    refine HPt.out.mono ?_
    rintro e w6 ⟨rfl, h6, hg6⟩
    have HG6 := Lib.hid (grown_trans HG5.out hg6)
    have hB6 : w6.heap[rb]? = some (.cells #[.int .i64 0, .int .i32 0, .int .i64 0, .int .i64 0] 121 (0, 0)) := (hg6.block rb (Array.getElem?_eq_some_iff.1 HB5.out).1 (fun e => HNe.out (Option.some.inj e).symm)).trans HB5.out
    have q0 : w6.cell? ⟨rb, 0, none⟩ = some (.int .i64 0) := by rw [cell_block hB6]; rfl
    have q1 : w6.cell? ⟨rb, 1, none⟩ = some (.int .i32 0) := by rw [cell_block hB6]; rfl
    have q2 : w6.cell? ⟨rb, 2, none⟩ = some (.int .i64 0) := by rw [cell_block hB6]; rfl
    have q3 : w6.cell? ⟨rb, 3, none⟩ = some (.int .i64 0) := by rw [cell_block hB6]; rfl
    have f0 := frozen_block hB6 0
    have f1 := frozen_block hB6 1
    have f2 := frozen_block hB6 2
    have f3 := frozen_block hB6 3
    have hend : Hid (P (.returned (.agg #[.int .i64 0, .int .i32 (vx : Int), .int .i64 (vs : Int), .int .i64 (vp : Int)])) ((((w6.setCell ⟨rb, 0, none⟩ (.int .i64 0)).setCell ⟨rb, 1, none⟩ (.int .i32 (vx : Int))).setCell ⟨rb, 2, none⟩ (.int .i64 (vs : Int))).setCell ⟨rb, 3, none⟩ (.int .i64 (vp : Int)))) := Lib.hid (by
      rw [← HP.out]
      have e1 := HRun.out
      refine ⟨?_, ?_, grown_setNew (grown_setNew (grown_setNew (grown_setNew HG6.out HRs.out _ _) HRs.out _ _) HRs.out _ _) HRs.out _ _⟩
      · rw [e1]; try rfl
      · rw [e1]
        exact inst_setOther (inst_setOther (inst_setOther (inst_setOther h6 HNe.out _ _) HNe.out _ _) HNe.out _ _) HNe.out _ _)
    clear h6 hg6 hB6 HPt
    go_wp2_with fail
    refine bodyPost_ret (v := .agg #[.int .i64 0, .int .i32 (vx : Int), .int .i64 (vs : Int), .int .i64 (vp : Int)]) (by rw [results_cell rfl]; go_simp) rfl ?_
    exact hend.out
  · have q : ((n : Int) == 0) = false := by rw [beq_eq_false_iff_ne]; omega
    have hz : zeroF (r1 st m).1 (r1 st m).2 = s0 := by rw [HR1.out]; unfold zeroF; rw [if_neg hn]
    have HZ := Lib.hid hz
    have h3 := h2
    have hg3 : w2.grownBy w2 (some p) := grown_refl _ _
    clear h2 hn hz
    obtain ⟨⟨s1, vx⟩, hx⟩ : ∃ q, atS s0 1114111 = q := ⟨_, rfl⟩
    obtain ⟨⟨s2, vs⟩, hs⟩ : ∃ q, atS s1 647 = q := ⟨_, rfl⟩
    obtain ⟨⟨s4, vp⟩, hp⟩ : ∃ q, atS s2 3 = q := ⟨_, rfl⟩
    have hvx : vx ≤ 1114111 := by have := atS_le s0 1114111; rw [hx] at this; exact this
    have HRun : Hid (runS st m = (s4, (n, ⟨(vx : Int), (vs : Int), (vp : Int)⟩))) := Lib.hid (by
      unfold runS
      rw [r4_def, r3_def, r2_def, HZ.out, HR1.out, hx]
      simp only
      rw [hs]
      simp only
      rw [hp])
    have hX := natmost_any p s0 1114111 (by decide) w2 h3
    rw [hx] at hX
    have HX := Lib.hid hX
    have hlt3 := Nat.lt_of_lt_of_le HLt.out hg3.size
    have b3 := (hg3.block rb HLt.out (fun e => HNe.out (Option.some.inj e).symm)).trans HBk.out
    have HG3 := Lib.hid (grown_trans HG1.out hg3)
    have HB3 := Lib.hid b3
    have HS0 := Lib.hid hs
    have HP0 := Lib.hid hp
    clear h3 hg3 hlt3 b3 hX hx hs hp
    go_wp2_with fail
    refine HX.out.mono ?_
    rintro e w4 ⟨rfl, h4, hg4⟩
    have HG4 := Lib.hid (grown_trans HG3.out hg4)
    have HB4 : Hid (w4.heap[rb]? = some (.cells #[.int .i64 0, .int .i32 0, .int .i64 0, .int .i64 0] 121 (0, 0))) := Lib.hid ((hg4.block rb (Array.getElem?_eq_some_iff.1 HB3.out).1 (fun e => HNe.out (Option.some.inj e).symm)).trans HB3.out)
    have hS := natmost_any p s1 647 (by decide) w4 h4
    rw [HS0.out] at hS
    have HS := Lib.hid hS
    have hwx : IntKind.i32.wrap (vx : Int) = (vx : Int) := by rw [IntKind.wrap_i32]; omega
    clear h4 hg4 HX hS
    go_wp2_with fail
    refine HS.out.mono ?_
    rintro e w5 ⟨rfl, h5, hg5⟩
    have HG5 := Lib.hid (grown_trans HG4.out hg5)
    have HB5 : Hid (w5.heap[rb]? = some (.cells #[.int .i64 0, .int .i32 0, .int .i64 0, .int .i64 0] 121 (0, 0))) := Lib.hid ((hg5.block rb (Array.getElem?_eq_some_iff.1 HB4.out).1 (fun e => HNe.out (Option.some.inj e).symm)).trans HB4.out)
    have hPt := natmost_any p s2 3 (by decide) w5 h5
    rw [HP0.out] at hPt
    have HPt := Lib.hid hPt
    clear h5 hg5 HS hPt
    go_wp2_with fail
    refine HPt.out.mono ?_
    rintro e w6 ⟨rfl, h6, hg6⟩
    have HG6 := Lib.hid (grown_trans HG5.out hg6)
    have hB6 : w6.heap[rb]? = some (.cells #[.int .i64 0, .int .i32 0, .int .i64 0, .int .i64 0] 121 (0, 0)) := (hg6.block rb (Array.getElem?_eq_some_iff.1 HB5.out).1 (fun e => HNe.out (Option.some.inj e).symm)).trans HB5.out
    have q0 : w6.cell? ⟨rb, 0, none⟩ = some (.int .i64 0) := by rw [cell_block hB6]; rfl
    have q1 : w6.cell? ⟨rb, 1, none⟩ = some (.int .i32 0) := by rw [cell_block hB6]; rfl
    have q2 : w6.cell? ⟨rb, 2, none⟩ = some (.int .i64 0) := by rw [cell_block hB6]; rfl
    have q3 : w6.cell? ⟨rb, 3, none⟩ = some (.int .i64 0) := by rw [cell_block hB6]; rfl
    have f0 := frozen_block hB6 0
    have f1 := frozen_block hB6 1
    have f2 := frozen_block hB6 2
    have f3 := frozen_block hB6 3
    have hend : Hid (P (.returned (.agg #[.int .i64 (n : Int), .int .i32 (vx : Int), .int .i64 (vs : Int), .int .i64 (vp : Int)])) ((((w6.setCell ⟨rb, 0, none⟩ (.int .i64 (n : Int))).setCell ⟨rb, 1, none⟩ (.int .i32 (vx : Int))).setCell ⟨rb, 2, none⟩ (.int .i64 (vs : Int))).setCell ⟨rb, 3, none⟩ (.int .i64 (vp : Int)))) := Lib.hid (by
      rw [← HP.out]
      have e1 := HRun.out
      refine ⟨?_, ?_, grown_setNew (grown_setNew (grown_setNew (grown_setNew HG6.out HRs.out _ _) HRs.out _ _) HRs.out _ _) HRs.out _ _⟩
      · rw [e1]; try rfl
      · rw [e1]
        exact inst_setOther (inst_setOther (inst_setOther (inst_setOther h6 HNe.out _ _) HNe.out _ _) HNe.out _ _) HNe.out _ _)
    clear h6 hg6 hB6 HPt
    go_wp2_with fail
    refine bodyPost_ret (v := .agg #[.int .i64 (n : Int), .int .i32 (vx : Int), .int .i64 (vs : Int), .int .i64 (vp : Int)]) (by rw [results_cell rfl]; go_simp) rfl ?_
    exact hend.out
end Go.Proofs.YtohhlhnjopbmhaaGreatDoor.K
