/- The contract of the document's Read of a line. -/
import Derived.Test.YtjlljkdlgkociaaMerged1
import Derived.Test.YtjlljkdlgkociaaIRefs
import Derived.Test.YtjlljkdlgkociaaMerged10
namespace Go.Proofs.Ytjlljkdlgkociaa.K
open Go.RowKit Go.Proofs.Ytjlljkdlgkociaa.I

theorem numS_err {l : List UInt8} {e : Nat} (h : (numS l e).1.2 ≠ 0) (he : e = 0) : (numS l e).2 = 0 := by
  subst he
  unfold numS at h ⊢
  split
  · rename_i h2; rw [if_pos h2] at h; exact absurd rfl h
  · rfl
structure RdI (rb : Nat) (s : ByteArray) (e : Nat) (w wr : World) : Prop where
  below : Below rb w wr
  i : wr.heap[rb]? = some (.cells #[.string s, .int .i64 (e : Int)] 65 (0, 0))
  o : wr.heap[rb + 1]? = some (.cells #[.string ⟨#[]⟩, .int .i64 0] 65 (0, 0))
section
variable {rb : Nat} {s s' : ByteArray} {e e' : Nat} {w wr w' : World}
theorem RdI.size (h : RdI rb s e w wr) : rb + 2 ≤ wr.heap.size := (Array.getElem?_eq_some_iff.1 h.o).1
theorem RdI.more (h : RdI rb s e w wr) (hb : Below (rb + 2) wr w') : RdI rb s e w w' :=
  ⟨h.below.trans (hb.mono (by omega)), (hb.block rb (by omega)).trans h.i, (hb.block (rb + 1) (by omega)).trans h.o⟩
theorem RdI.set (h : RdI rb s e w wr) (s' : ByteArray) (e' : Nat) : RdI rb s' e' w ((wr.setCell ⟨rb, 0, none⟩ (.string s')).setCell ⟨rb, 1, none⟩ (.int .i64 (e' : Int))) := by
  refine ⟨(h.below.setCell (p := ⟨rb, 0, none⟩) (Nat.le_refl _) _).setCell (p := ⟨rb, 1, none⟩) (Nat.le_refl _) _, by simp [World.setCell, Array.getElem?_modify, h.i], ?_⟩
  rw [Below.heap_setCell _ _ _ _ (by show rb + 1 ≠ rb; omega), Below.heap_setCell _ _ _ _ (by show rb + 1 ≠ rb; omega)]
  exact h.o
theorem RdI.outB (h : RdI rb s e w wr) (v v' : Value) : Below rb w ((wr.setCell ⟨rb + 1, 0, none⟩ v).setCell ⟨rb + 1, 1, none⟩ v') := (h.below.setCell (p := ⟨rb + 1, 0, none⟩) (by show rb ≤ rb + 1; omega) _).setCell (p := ⟨rb + 1, 1, none⟩) (by show rb ≤ rb + 1; omega) _
theorem OwnP.setTwo {rk : IntKind} {T : TypeId} {base p : Nat} {v : Value} {l : List (Int × Int)} {u : World} (h : OwnP rk T base v l u) (hp : p < base) (x y : Value) : OwnP rk T base v l ((u.setCell ⟨p, 0, none⟩ x).setCell ⟨p, 1, none⟩ y) := by
  have g1 : ∀ (u : World) (o : Nat) (x : Value), u.grownBy (u.setCell ⟨p, o, none⟩ x) (some p) := fun u o x => ⟨rfl, rfl, rfl, (KeepsWalks.setCell u _ x).size, fun i _ hi => Below.heap_setCell _ _ _ i (fun e => hi (by rw [e]))⟩
  have hne : ∀ q, v.ownBlock = some q → some p ≠ some q := fun q hq e => by have := (h.ownBlock q hq).1; have := Option.some.inj e; omega
  exact OwnP.kept (OwnP.kept h (g1 u 0 x) hne) (g1 _ 1 y) hne
end
theorem lineT : PairT .i64 33 93 16 := ⟨Try.underlying33, by kernel_rfl, by decide⟩
/-- what it leaves -/
def RefRd (rb : Nat) (st : Sta) (w : World) (e : Ending) (w' : World) : Prop := ∃ (t : ByteArray) (v : Value), e = .returned (.tuple #[.agg #[.string t, .int .i64 ((readS st).1.2 : Int)], v]) ∧ t.data.toList = (readS st).1.1 ∧ (t.size : Int) ≤ 1000000 ∧ OwnP .i64 93 rb v (readS st).2 w' ∧ Below rb w w'
theorem atS_over {st : Sta} {m : Nat} {l1 : List UInt8} {v : Nat} (hn : numS st.1 st.2 = ((l1, 0), v)) (h : ¬ v ≤ m) : atS st m = (([], 1), 0) := by
  unfold atS
  rw [hn]
  rw [if_neg h]
  unfold failS
  rw [if_neg (by simp)]
theorem atS_in {st : Sta} {m : Nat} {s1 : Sta} {v : Nat} (hn : numS st.1 st.2 = (s1, v)) (h : v ≤ m) : atS st m = (s1, v) := by
  unfold atS
  rw [hn, if_pos h]
set_option maxRecDepth 100000 in
set_option maxHeartbeats 16000000 in
theorem refRead_any (s : ByteArray) (hs : (s.size : Int) ≤ 1000000) (w : World) : Calls Try.prog 28 #[.agg #[.string s, .int .i64 0]] w (RefRd w.heap.size (s.data.toList, 0) w) := by
  obtain ⟨rb, hrb⟩ : ∃ rb, w.heap.size = rb := ⟨_, rfl⟩
  rw [hrb]
  obtain ⟨P, hP⟩ : ∃ P, RefRd rb (s.data.toList, 0) w = P := ⟨_, rfl⟩
  rw [hP]
  have HP := Lib.hid hP
  obtain ⟨st, hst⟩ : ∃ st : Sta, (s.data.toList, 0) = st := ⟨_, rfl⟩
  rw [hst] at HP
  obtain ⟨w2, hw2⟩ : ∃ w2, (w.alloc (.cells #[.string s, .int .i64 0] 65)).alloc (.cells #[.string ⟨#[]⟩, .int .i64 0] 65) = w2 := ⟨_, rfl⟩
  have hi2 : RdI rb s 0 w w2 := by
    rw [← hw2, ← hrb]
    have b1 : Below w.heap.size w (w.alloc (.cells #[.string s, .int .i64 0] 65)) := (Below.refl _ _).alloc (Nat.le_refl _) _
    refine ⟨b1.alloc (by rw [World.size_alloc]; omega) _, ?_, ?_⟩
    · rw [Below.heap_alloc _ _ _ (by rw [World.size_alloc]; omega)]
      exact heap_alloc_new w _
    · have h := heap_alloc_new (w.alloc (.cells #[.string s, .int .i64 0] 65)) (.cells #[.string ⟨#[]⟩, .int .i64 0] 65)
      rw [World.size_alloc] at h
      exact h
  have HI2 := Lib.hid hi2
  have HW2 := Lib.hid hw2
  have HRb := Lib.hid hrb
  have HR := Lib.hid (refread_any s hs 0 (fun h => absurd rfl h) w2)
  have HSt := Lib.hid hst
  have c0 : w2.cell? ⟨rb, 0, none⟩ = some (.string s) := by simp [World.cell?, hi2.i]
  have c1 : w2.cell? ⟨rb, 1, none⟩ = some (.int .i64 0) := by simp [World.cell?, hi2.i]
  clear hP hst hi2 hw2 hrb
  go_enter Try.func28, Try.ntmps28
  go_upto_region 2 with fail
  rw [HW2.out, HRb.out]
  obtain ⟨⟨⟨l1, e1⟩, v⟩, hn1⟩ : ∃ q, numS s.data.toList 0 = q := ⟨_, rfl⟩
  rw [hn1] at HR
  unfold inV at HR
  have HN1 : Hid (numS st.1 st.2 = ((l1, e1), v)) := Lib.hid (by rw [← HSt.out]; exact hn1)
  have HOk0 : Hid (InOk (l1, e1)) := Lib.hid (by have h := numS_inv (l := s.data.toList) (e := 0) (fun h => absurd rfl h); rw [hn1] at h; exact h)
  have HEr1 : Hid (e1 ≠ 0 → v = 0) := Lib.hid (fun h => by have h2 := numS_err (l := s.data.toList) (e := 0) (by rw [hn1]; exact h) rfl; rw [hn1] at h2; exact h2)
  clear hn1
  go_wp2_with fail
  refine HR.out.mono ?_
  rintro e w3 ⟨t3, rfl, ht3, hz3, hb3⟩
  have hi3 := (HI2.out.more (hb3.mono HI2.out.size)).set t3 e1
  have s0 : w3.cell? ⟨rb, 0, none⟩ = some (.string s) := by simp [World.cell?, (HI2.out.more (hb3.mono HI2.out.size)).i]
  have s1 : w3.cell? ⟨rb, 1, none⟩ = some (.int .i64 0) := by simp [World.cell?, (HI2.out.more (hb3.mono HI2.out.size)).i]
  have f0 : w3.frozen? ⟨rb, 0, none⟩ = false := by simp [World.frozen?, (HI2.out.more (hb3.mono HI2.out.size)).i]
  have f1 : w3.frozen? ⟨rb, 1, none⟩ = false := by simp [World.frozen?, (HI2.out.more (hb3.mono HI2.out.size)).i]
  obtain ⟨w4, hw4⟩ : ∃ w4, (w3.setCell ⟨rb, 0, none⟩ (.string t3)).setCell ⟨rb, 1, none⟩ (.int .i64 (e1 : Int)) = w4 := ⟨_, rfl⟩
  rw [hw4] at hi3
  have c10 : w4.cell? ⟨rb, 0, none⟩ = some (.string t3) := by simp [World.cell?, hi3.i]
  have c11 : w4.cell? ⟨rb, 1, none⟩ = some (.int .i64 (e1 : Int)) := by simp [World.cell?, hi3.i]
  have o10 : w4.cell? ⟨rb + 1, 0, none⟩ = some (.string ⟨#[]⟩) := by simp [World.cell?, hi3.o]
  have o11 : w4.cell? ⟨rb + 1, 1, none⟩ = some (.int .i64 0) := by simp [World.cell?, hi3.o]
  have g10 : w4.frozen? ⟨rb + 1, 0, none⟩ = false := by simp [World.frozen?, hi3.o]
  have g11 : w4.frozen? ⟨rb + 1, 1, none⟩ = false := by simp [World.frozen?, hi3.o]
  have HI4 := Lib.hid hi3
  have HT3 : Hid (t3.data.toList = l1 ∧ (t3.size : Int) ≤ 1000000) := Lib.hid ⟨ht3, hz3⟩
  have HW4 := Lib.hid hw4
  clear ht3 hz3 hb3 hi3 hw4 HR HI2 c0 c1
  go_upto_region 3 with fail
  rw [HW4.out]
  clear s0 s1 f0 f1
  by_cases hov : e1 = 0 ∧ ¬ v ≤ 1024
  · obtain ⟨rfl, hv⟩ := hov
    have d1 : decide ((v : Int) > 1024) = true := decide_eq_true (by omega)
    have hend : Hid (P (.returned (.tuple #[.agg #[.string ⟨#[]⟩, .int .i64 1], .slice none 0 0])) ((w4.setCell ⟨rb + 1, 0, none⟩ (.string ⟨#[]⟩)).setCell ⟨rb + 1, 1, none⟩ (.int .i64 1))) := Lib.hid (by
      have hrd : readS st = ((([], 1) : Sta), []) := by unfold readS; rw [atS_over HN1.out hv]; rfl
      rw [← HP.out]
      unfold RefRd
      rw [hrd]
      exact ⟨_, _, rfl, rfl, by decide, OwnP.nil _ _ _ _, HI4.out.outB _ _⟩)
    clear hv
    go_wp2_with fail
    refine bodyPost_ret (v := .tuple #[.agg #[.string ⟨#[]⟩, .int .i64 1], .slice none 0 0]) (by rw [results_cell_tmp rfl]; go_simp) rfl ?_
    exact hend.out
  · have hv : v ≤ 1024 := by
      by_cases h0 : e1 = 0
      · exact Decidable.not_not.1 (fun h => hov ⟨h0, h⟩)
      · have := HEr1.out h0; omega
    have hat : atS st 1024 = ((l1, e1), v) := atS_in HN1.out hv
    have hrd : readS st = ((rdN v (l1, e1)).1, if (rdN v (l1, e1)).1.2 = 0 then (rdN v (l1, e1)).2 else []) := by unfold readS; rw [hat]
    have HRd := Lib.hid hrd
    have hvI : (v : Int) ≤ 1024 := by omega
    have d1 : decide ((v : Int) > 1024) = false := decide_eq_false (by omega)
    have hway : ((e1 : Int) == 0) = true ∨ ((e1 : Int) == 0) = false := by cases (e1 : Int) == 0 <;> simp
    obtain ⟨w5, hw5⟩ : ∃ w5, w4.alloc (.cells #[] 93) = w5 := ⟨_, rfl⟩
    have hb5 : Below w4.heap.size w4 w5 := by rw [← hw5]; exact (Below.refl _ _).alloc (Nat.le_refl _) _
    have HI5 : Hid (RdI rb t3 e1 w w5) := Lib.hid (HI4.out.more (hb5.mono HI4.out.size))
    obtain ⟨g5, hg5⟩ : ∃ g, w4.heap.size = g := ⟨_, rfl⟩
    have HO5 : Hid (OwnP .i64 93 (rb + 2) (.slice (some ⟨g5, 0, none⟩) 0 0) [] w5) := Lib.hid (by rw [← hw5, ← hg5]; exact OwnP.lit _ _ w4 (rb + 2) HI4.out.size)
    have HW5 := Lib.hid hw5
    have HG5 := Lib.hid hg5
    have H11 : Hid (e1 = 0 ∨ e1 ≠ 0) := Lib.hid (by omega)
    clear hov hv hat hrd hb5 hw5 hg5
    rcases hway with hq | hq
    all_goals
      go_upto_region 6 with fail
      rw [HW5.out, HG5.out]
      clear c10 c11 o10 o11 g10 g11
      go_wp2_with fail
      go_loopw [5, 6] (fun u i wr => ∃ j : Nat, i = .int .i64 (j : Int) ∧ j ≤ v ∧ Hid (∃ t, RdI rb t (rdN j (l1, e1)).1.2 w wr ∧ t.data.toList = (rdN j (l1, e1)).1.1 ∧ (t.size : Int) ≤ 1000000 ∧ OwnP .i64 93 (rb + 2) u (rdN j (l1, e1)).2 wr)) (fun _ i _ => v - (intOf i).toNat)
      case atStart => exact ⟨0, rfl, Nat.zero_le _, Lib.hid ⟨t3, HI5.out, HT3.out.1, HT3.out.2, HO5.out⟩⟩
      case round =>
        obtain ⟨j, rfl, hj, HF⟩ := hrel
        obtain ⟨tj, hij, htj, hzj, hoj⟩ := HF.out
        obtain ⟨⟨lj, ej⟩, hsj⟩ : ∃ q, (rdN j (l1, e1)).1 = q := ⟨_, rfl⟩
        obtain ⟨gj, hgj⟩ : ∃ g, (rdN j (l1, e1)).2 = g := ⟨_, rfl⟩
        have hlen : gj.length = j := by rw [← hgj, rdN_len]
        have hokj : InOk (lj, ej) := by rw [← hsj]; exact rdN_ok j HOk0.out
        rw [hsj] at hij htj
        rw [hgj] at hoj
        simp only at hij htj
        obtain ⟨ua, uc, rfl, -⟩ := hoj.shape
        rw [hlen] at hoj ⊢
        have HIj := Lib.hid hij
        have HTj : Hid (tj.data.toList = lj ∧ (tj.size : Int) ≤ 1000000) := Lib.hid ⟨htj, hzj⟩
        have HOj := Lib.hid hoj
        have HSj := Lib.hid hsj
        have HGj := Lib.hid hgj
        have HLj := Lib.hid hlen
        have HKj := Lib.hid hokj
        have c0 : wr.cell? ⟨rb, 0, none⟩ = some (.string tj) := by simp [World.cell?, hij.i]
        have c1 : wr.cell? ⟨rb, 1, none⟩ = some (.int .i64 (ej : Int)) := by simp [World.cell?, hij.i]
        have o0 : wr.cell? ⟨rb + 1, 0, none⟩ = some (.string ⟨#[]⟩) := by simp [World.cell?, hij.o]
        have o1 : wr.cell? ⟨rb + 1, 1, none⟩ = some (.int .i64 0) := by simp [World.cell?, hij.o]
        have g0 : wr.frozen? ⟨rb + 1, 0, none⟩ = false := by simp [World.frozen?, hij.o]
        have g1 : wr.frozen? ⟨rb + 1, 1, none⟩ = false := by simp [World.frozen?, hij.o]
        clear hij htj hzj hoj hsj hgj hlen hokj HF hq
        by_cases hlt : j < v
        · have hd : decide (j < v) = true := decide_eq_true hlt
          have hjI : (j : Int) < v := by omega
          by_cases he0 : ej = 0
          · subst he0
            clear o0 o1 g0 g1
            obtain ⟨⟨⟨la, ea⟩, x⟩, hn5⟩ : ∃ q, numS tj.data.toList 0 = q := ⟨_, rfl⟩
            have HN5 := Lib.hid hn5
            have HN5' : Hid (numS ((lj, 0) : Sta).1 ((lj, 0) : Sta).2 = ((la, ea), x)) := Lib.hid (by rw [HTj.out.1] at hn5; exact hn5)
            have HK5 : Hid (InOk (la, ea)) := Lib.hid (by have h := numS_inv (l := tj.data.toList) (e := 0) (fun h => absurd rfl h); rw [hn5] at h; exact h)
            have HE5 : Hid (ea ≠ 0 → x = 0) := Lib.hid (fun h => by have h2 := numS_err (l := tj.data.toList) (e := 0) (by rw [hn5]; exact h) rfl; rw [hn5] at h2; exact h2)
            clear hn5
            have HR5 := Lib.hid (refread_any tj HTj.out.2 0 (fun h => absurd rfl h) wr)
            rw [HN5.out] at HR5
            unfold inV at HR5
            go_wp2_with fail
            refine HR5.out.mono ?_
            rintro e wA5 ⟨tA5, rfl, htA5, hzA5, hbA5⟩
            have hm5 := HIj.out.more (hbA5.mono HIj.out.size)
            have a0 : wA5.cell? ⟨rb, 0, none⟩ = some (.string tj) := by simp [World.cell?, hm5.i]
            have a1 : wA5.cell? ⟨rb, 1, none⟩ = some (.int .i64 (0 : Int)) := by simp [World.cell?, hm5.i]
            have b0 : wA5.frozen? ⟨rb, 0, none⟩ = false := by simp [World.frozen?, hm5.i]
            have b1 : wA5.frozen? ⟨rb, 1, none⟩ = false := by simp [World.frozen?, hm5.i]
            have hi5 := hm5.set tA5 ea
            have ho5 := (HOj.out.belowAll (hbA5)).setTwo (p := rb) (by omega) (.string tA5) (.int .i64 (ea : Int))
            obtain ⟨wB5, hwB5⟩ : ∃ w', (wA5.setCell ⟨rb, 0, none⟩ (.string tA5)).setCell ⟨rb, 1, none⟩ (.int .i64 (ea : Int)) = w' := ⟨_, rfl⟩
            rw [hwB5] at hi5 ho5
            have HI5 := Lib.hid hi5
            have HO5 := Lib.hid ho5
            have HT5 : Hid (tA5.data.toList = la ∧ (tA5.size : Int) ≤ 1000000) := Lib.hid ⟨htA5, hzA5⟩
            have HW5 := Lib.hid hwB5
            have c0 : wB5.cell? ⟨rb, 0, none⟩ = some (.string tA5) := by simp [World.cell?, hi5.i]
            have c1 : wB5.cell? ⟨rb, 1, none⟩ = some (.int .i64 (ea : Int)) := by simp [World.cell?, hi5.i]
            have o0 : wB5.cell? ⟨rb + 1, 0, none⟩ = some (.string ⟨#[]⟩) := by simp [World.cell?, hi5.o]
            have o1 : wB5.cell? ⟨rb + 1, 1, none⟩ = some (.int .i64 0) := by simp [World.cell?, hi5.o]
            have g0 : wB5.frozen? ⟨rb + 1, 0, none⟩ = false := by simp [World.frozen?, hi5.o]
            have g1 : wB5.frozen? ⟨rb + 1, 1, none⟩ = false := by simp [World.frozen?, hi5.o]
            clear htA5 hzA5 hbA5 hm5 hi5 ho5 hwB5 HR5
            go_upto_region 12 with fail
            rw [HW5.out]
            clear a0 a1 b0 b1
            by_cases hov : ea = 0 ∧ ¬ x ≤ 1114111
            · obtain ⟨rfl, hx⟩ := hov
              have d1 : decide ((x : Int) > 1114111) = true := decide_eq_true (by omega)
              have hend : Hid (P (.returned (.tuple #[.agg #[.string ⟨#[]⟩, .int .i64 1], .slice none 0 0])) ((wB5.setCell ⟨rb + 1, 0, none⟩ (.string ⟨#[]⟩)).setCell ⟨rb + 1, 1, none⟩ (.int .i64 1))) := Lib.hid (by
                have hg : (rdN (j + 1) (l1, e1)).1 = (([], 1) : Sta) := by
                  show (gS (rdN j (l1, e1)).1).1 = _
                  rw [HSj.out]
                  unfold gS
                  simp only
                  rw [atS_over HN5'.out hx]
                  rfl
                have hv : (rdN v (l1, e1)).1 = (([], 1) : Sta) := by rw [rdN_stuck HOk0.out (j + 1) v (by omega) (by rw [hg]; decide), hg]
                have hrd : readS st = ((([], 1) : Sta), []) := by rw [HRd.out, hv]; rfl
                rw [← HP.out]
                unfold RefRd
                rw [hrd]
                exact ⟨_, _, rfl, rfl, by decide, OwnP.nil _ _ _ _, HI5.out.outB _ _⟩)
              go_wp2_with fail
              refine bodyPost_ret (v := .tuple #[.agg #[.string ⟨#[]⟩, .int .i64 1], .slice none 0 0]) (by rw [results_cell_tmp rfl]; go_simp) rfl ?_
              exact hend.out
            · have hx : x ≤ 1114111 := by
                by_cases h0 : ea = 0
                · exact Decidable.not_not.1 (fun h => hov ⟨h0, h⟩)
                · have := HE5.out h0; omega
              have d1 : decide ((x : Int) > 1114111) = false := decide_eq_false (by omega)
              have HA5 : Hid (atS (lj, 0) 1114111 = ((la, ea), x)) := Lib.hid (atS_in HN5'.out hx)
              have hway5 : ((ea : Int) == 0) = true ∨ ((ea : Int) == 0) = false := by cases (ea : Int) == 0 <;> simp
              have hxI : (x : Int) ≤ 1114111 := by omega
              obtain ⟨⟨⟨lb, eb⟩, y⟩, hn6⟩ : ∃ q, numS tA5.data.toList ea = q := ⟨_, rfl⟩
              have HN6 := Lib.hid hn6
              have HN6' : Hid (numS ((la, ea) : Sta).1 ((la, ea) : Sta).2 = ((lb, eb), y)) := Lib.hid (by rw [HT5.out.1] at hn6; exact hn6)
              have HE6 : Hid (eb ≠ 0 → y = 0) := Lib.hid (fun h => by
                by_cases h0 : ea = 0
                · have h2 := numS_err (l := tA5.data.toList) (e := ea) (by rw [hn6]; exact h) h0; rw [hn6] at h2; exact h2
                · have hl : tA5.data.toList = [] := by rw [HT5.out.1]; exact HK5.out h0
                  rw [hl, numS_stuck ea h0] at hn6
                  exact (congrArg Prod.snd hn6).symm)
              clear hn6 hov hx
              clear o0 o1 g0 g1
              rcases hway5 with hq5 | hq5
              all_goals
                have HR6 := Lib.hid (refread_any tA5 HT5.out.2 ea (fun h => by rw [HT5.out.1]; exact HK5.out h) wB5)
                rw [HN6.out] at HR6
                unfold inV at HR6
                go_wp2_with fail
                refine HR6.out.mono ?_
                rintro e wA6 ⟨tA6, rfl, htA6, hzA6, hbA6⟩
                have hm6 := HI5.out.more (hbA6.mono HI5.out.size)
                have a0 : wA6.cell? ⟨rb, 0, none⟩ = some (.string tA5) := by simp [World.cell?, hm6.i]
                have a1 : wA6.cell? ⟨rb, 1, none⟩ = some (.int .i64 (ea : Int)) := by simp [World.cell?, hm6.i]
                have b0 : wA6.frozen? ⟨rb, 0, none⟩ = false := by simp [World.frozen?, hm6.i]
                have b1 : wA6.frozen? ⟨rb, 1, none⟩ = false := by simp [World.frozen?, hm6.i]
                have hi6 := hm6.set tA6 eb
                have ho6 := (HO5.out.belowAll (hbA6)).setTwo (p := rb) (by omega) (.string tA6) (.int .i64 (eb : Int))
                obtain ⟨wB6, hwB6⟩ : ∃ w', (wA6.setCell ⟨rb, 0, none⟩ (.string tA6)).setCell ⟨rb, 1, none⟩ (.int .i64 (eb : Int)) = w' := ⟨_, rfl⟩
                rw [hwB6] at hi6 ho6
                have HI6 := Lib.hid hi6
                have HO6 := Lib.hid ho6
                have HT6 : Hid (tA6.data.toList = lb ∧ (tA6.size : Int) ≤ 1000000) := Lib.hid ⟨htA6, hzA6⟩
                have HW6 := Lib.hid hwB6
                have c0 : wB6.cell? ⟨rb, 0, none⟩ = some (.string tA6) := by simp [World.cell?, hi6.i]
                have c1 : wB6.cell? ⟨rb, 1, none⟩ = some (.int .i64 (eb : Int)) := by simp [World.cell?, hi6.i]
                have o0 : wB6.cell? ⟨rb + 1, 0, none⟩ = some (.string ⟨#[]⟩) := by simp [World.cell?, hi6.o]
                have o1 : wB6.cell? ⟨rb + 1, 1, none⟩ = some (.int .i64 0) := by simp [World.cell?, hi6.o]
                have g0 : wB6.frozen? ⟨rb + 1, 0, none⟩ = false := by simp [World.frozen?, hi6.o]
                have g1 : wB6.frozen? ⟨rb + 1, 1, none⟩ = false := by simp [World.frozen?, hi6.o]
                clear htA6 hzA6 hbA6 hm6 hi6 ho6 hwB6 HR6
                go_upto_region 15 with fail
                rw [HW6.out]
                clear a0 a1 b0 b1
                by_cases hov : eb = 0 ∧ ¬ y ≤ 647
                · obtain ⟨rfl, hy⟩ := hov
                  have d2 : decide ((y : Int) > 647) = true := decide_eq_true (by omega)
                  have hend : Hid (P (.returned (.tuple #[.agg #[.string ⟨#[]⟩, .int .i64 1], .slice none 0 0])) ((wB6.setCell ⟨rb + 1, 0, none⟩ (.string ⟨#[]⟩)).setCell ⟨rb + 1, 1, none⟩ (.int .i64 1))) := Lib.hid (by
                    have hg : (rdN (j + 1) (l1, e1)).1 = (([], 1) : Sta) := by
                      show (gS (rdN j (l1, e1)).1).1 = _
                      rw [HSj.out]
                      unfold gS
                      simp only
                      rw [HA5.out]
                      simp only
                      rw [atS_over HN6'.out hy]
                    have hv : (rdN v (l1, e1)).1 = (([], 1) : Sta) := by rw [rdN_stuck HOk0.out (j + 1) v (by omega) (by rw [hg]; decide), hg]
                    have hrd : readS st = ((([], 1) : Sta), []) := by rw [HRd.out, hv]; rfl
                    rw [← HP.out]
                    unfold RefRd
                    rw [hrd]
                    exact ⟨_, _, rfl, rfl, by decide, OwnP.nil _ _ _ _, HI6.out.outB _ _⟩)
                  go_wp2_with fail
                  refine bodyPost_ret (v := .tuple #[.agg #[.string ⟨#[]⟩, .int .i64 1], .slice none 0 0]) (by rw [results_cell_tmp rfl]; go_simp) rfl ?_
                  exact hend.out
                · have hy : y ≤ 647 := by
                    by_cases h0 : eb = 0
                    · exact Decidable.not_not.1 (fun h => hov ⟨h0, h⟩)
                    · have := HE6.out h0; omega
                  have d2 : decide ((y : Int) > 647) = false := decide_eq_false (by omega)
                  have hyI : (y : Int) ≤ 647 := by omega
                  have hway6 : ((eb : Int) == 0) = true ∨ ((eb : Int) == 0) = false := by cases (eb : Int) == 0 <;> simp
                  have HNx : Hid (rdN (j + 1) (l1, e1) = (((lb, eb) : Sta), gj ++ [((x : Int), (y : Int))])) := Lib.hid (by
                    show ((gS (rdN j (l1, e1)).1).1, (rdN j (l1, e1)).2 ++ [(gS (rdN j (l1, e1)).1).2]) = _
                    rw [HSj.out, HGj.out]
                    unfold gS
                    simp only
                    rw [HA5.out]
                    simp only
                    rw [atS_in HN6'.out hy])
                  have HLl : Hid ((gj.length : Int) ≤ 1000000) := Lib.hid (by rw [HLj.out]; omega)
                  obtain ⟨g9, hg9⟩ : ∃ g, wB6.heap.size = g := ⟨_, rfl⟩
                  obtain ⟨w9, hw9⟩ : ∃ w', wB6.alloc (.cells #[.int .i64 (x : Int), .int .i64 (y : Int)] 93) = w' := ⟨_, rfl⟩
                  have hnb : w9.heap[g9]? = some (.cells #[.int .i64 (x : Int), .int .i64 (y : Int)] 93 (0, 0)) := by rw [← hw9, ← hg9]; exact World.alloc_heap_new wB6 _
                  have hb9 : Below wB6.heap.size wB6 w9 := by rw [← hw9]; exact (Below.refl _ _).alloc (Nat.le_refl _) _
                  have HI9 : Hid (RdI rb tA6 eb w w9) := Lib.hid (HI6.out.more (hb9.mono HI6.out.size))
                  have HO9 : Hid (OwnP .i64 93 (rb + 2) (.slice ua j uc) gj w9) := Lib.hid (HO6.out.belowAll hb9)
                  have HC0 : Hid (w9.cell? ⟨g9, 0, none⟩ = some (.int .i64 (x : Int))) := Lib.hid (by simp [World.cell?, hnb])
                  have HC1 : Hid (w9.cell? ⟨g9, 1, none⟩ = some (.int .i64 (y : Int))) := Lib.hid (by simp [World.cell?, hnb])
                  have HS9 : Hid (rb + 2 ≤ w9.heap.size) := Lib.hid HI9.out.size
                  have HW9 := Lib.hid hw9
                  have HG9 := Lib.hid hg9
                  clear hov hy hg9 hw9 hnb hb9
                  rcases hway6 with hq6 | hq6
                  all_goals
                    go_upto_region 17 with fail
                    clear c0 c1 o0 o1 g0 g1
                    go_wp2_with (at_builtin; (try rw [HW9.out, HG9.out]); refine wpList_append_pair lineT rfl _ _ rfl rfl (rb + 2) _ gj ((x : Int), (y : Int)) g9 rfl rfl HO9.out HC0.out HC1.out HLl.out HS9.out ?_)
                    intro v' w' hown hgr
                    have HE : Hid (∃ t, RdI rb t (rdN (j + 1) (l1, e1)).1.2 w w' ∧ t.data.toList = (rdN (j + 1) (l1, e1)).1.1 ∧ (t.size : Int) ≤ 1000000 ∧ OwnP .i64 93 (rb + 2) v' (rdN (j + 1) (l1, e1)).2 w') := Lib.hid (by
                      have hk : Below (rb + 2) w9 w' := (Below.refl _ _).grown hgr HS9.out (fun q hq => (HO9.out.ownBlock q hq).1)
                      rw [HNx.out]
                      exact ⟨tA6, HI9.out.more hk, HT6.out.1, HT6.out.2, hown⟩)
                    clear hown hgr
                    go_wp2
                    go_roundw
                    case rel => exact ⟨j + 1, by go_num, by omega, HE⟩
                    case measure => simp [intOf]; omega
          · have q1 : ((ej : Int) == 0) = false := by rw [beq_eq_false_iff_ne]; omega
            have q2 : ((ej : Int) != 0) = true := by rw [bne_iff_ne]; omega
            have hend : Hid (P (.returned (.tuple #[.agg #[.string tj, .int .i64 (ej : Int)], .slice none 0 0])) ((wr.setCell ⟨rb + 1, 0, none⟩ (.string tj)).setCell ⟨rb + 1, 1, none⟩ (.int .i64 (ej : Int)))) := Lib.hid (by
              have hv : (rdN v (l1, e1)).1 = ((lj, ej) : Sta) := by rw [rdN_stuck HOk0.out j v hj (by rw [HSj.out]; exact he0), HSj.out]
              have hrd : readS st = (((lj, ej) : Sta), []) := by rw [HRd.out, hv]; simp only; rw [if_neg he0]
              rw [← HP.out]
              unfold RefRd
              rw [hrd]
              exact ⟨_, _, rfl, HTj.out.1, HTj.out.2, OwnP.nil _ _ _ _, HIj.out.outB _ _⟩)
            clear he0
            go_wp2_with fail
            refine bodyPost_ret (v := .tuple #[.agg #[.string tj, .int .i64 (ej : Int)], .slice none 0 0]) (by rw [results_cell_tmp rfl]; go_simp) rfl ?_
            exact hend.out
        · obtain rfl : j = v := by omega
          have hd : decide (j < j) = false := by simp
          by_cases he0 : ej = 0
          · have q2 : ((ej : Int) != 0) = false := by rw [bne_eq_false_iff_eq]; omega
            have hend : Hid (P (.returned (.tuple #[.agg #[.string tj, .int .i64 (ej : Int)], .slice ua j uc])) ((wr.setCell ⟨rb + 1, 0, none⟩ (.string tj)).setCell ⟨rb + 1, 1, none⟩ (.int .i64 (ej : Int)))) := Lib.hid (by
              have hrd : readS st = (((lj, ej) : Sta), gj) := by rw [HRd.out, HSj.out, HGj.out]; simp only; rw [if_pos he0]
              rw [← HP.out]
              unfold RefRd
              rw [hrd]
              exact ⟨_, _, rfl, HTj.out.1, HTj.out.2, (HOj.out.setTwo (p := rb + 1) (by omega) _ _).weaken (by omega), HIj.out.outB _ _⟩)
            clear he0
            go_wp2_with fail
            refine bodyPost_ret (v := .tuple #[.agg #[.string tj, .int .i64 (ej : Int)], .slice ua j uc]) (by rw [results_cell_tmp rfl]; go_simp) rfl ?_
            exact hend.out
          · have q2 : ((ej : Int) != 0) = true := by rw [bne_iff_ne]; omega
            have hend : Hid (P (.returned (.tuple #[.agg #[.string tj, .int .i64 (ej : Int)], .slice none 0 0])) ((wr.setCell ⟨rb + 1, 0, none⟩ (.string tj)).setCell ⟨rb + 1, 1, none⟩ (.int .i64 (ej : Int)))) := Lib.hid (by
              have hrd : readS st = (((lj, ej) : Sta), []) := by rw [HRd.out, HSj.out]; simp only; rw [if_neg he0]
              rw [← HP.out]
              unfold RefRd
              rw [hrd]
              exact ⟨_, _, rfl, HTj.out.1, HTj.out.2, OwnP.nil _ _ _ _, HIj.out.outB _ _⟩)
            clear he0
            go_wp2_with fail
            refine bodyPost_ret (v := .tuple #[.agg #[.string tj, .int .i64 (ej : Int)], .slice none 0 0]) (by rw [results_cell_tmp rfl]; go_simp) rfl ?_
            exact hend.out
end Go.Proofs.Ytjlljkdlgkociaa.K
