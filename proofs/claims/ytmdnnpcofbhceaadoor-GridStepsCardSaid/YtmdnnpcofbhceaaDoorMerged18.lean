/- The contract of the document's Glyphs. -/
import Derived.Test.YtmdnnpcofbhceaaDoorMerged11
import Derived.Test.YtmdnnpcofbhceaaDoorKFill
import Derived.Test.YtmdnnpcofbhceaaDoorMerged15
import Derived.Test.YtmdnnpcofbhceaaDoorMerged17
import Derived.Test.YtmdnnpcofbhceaaDoorMerged12
import Derived.Lib.QuietBelow
import Derived.BigQuiet
namespace Go.Proofs.YtmdnnpcofbhceaaDoor.K
open Go.RowKit

/-- what the document's Glyphs answers -/
def GlyRPost (base : Nat) (gs : List (Int × Int)) (w : World) (e : Ending) (w' : World) : Prop := ∃ a n c, e = .returned (.slice a n c) ∧ PairsIn .i64 a n c gs w' ∧ Below base w w'
set_option maxRecDepth 100000 in
set_option maxHeartbeats 8000000 in
theorem refGlyphs_any (a : Option Addr) (n c : Nat) (wr0 : Bool) (l : List Cel) (w : World) (hI : CelsIn .i64 a n l w) (hn : (n : Int) ≤ 1000000) (hfit : n ≤ c) (hmx : (c : Int) ≤ 9223372036854775807) :
    Calls Tryd.prog 86 #[.agg #[.slice a n c, .bool wr0]] w (GlyRPost w.heap.size (glyphs ⟨l, wr0⟩) w) := by
  obtain ⟨rb, hrb⟩ : ∃ rb, w.heap.size = rb := ⟨_, rfl⟩
  rw [hrb]
  obtain ⟨P, hP⟩ : ∃ P, GlyRPost rb (glyphs ⟨l, wr0⟩) w = P := ⟨_, rfl⟩
  rw [hP]
  have HP := Lib.hid hP
  have HLn := Lib.hid hI.len
  have HI0 := Lib.hid hI
  obtain ⟨w1, hw1⟩ : ∃ w1, w.alloc (.cells #[.slice a n c, .bool wr0] 30) = w1 := ⟨_, rfl⟩
  have hb1 : Below rb w w1 := by rw [← hw1, ← hrb]; exact (Below.refl _ _).alloc (Nat.le_refl _) _
  have hr1 : RoB 30 rb (.slice a n c) wr0 w1 := by rw [← hw1, ← hrb]; exact RoB.new _ _ _ _
  have hs1 : w1.heap.size = rb + 1 := by rw [← hw1, World.size_alloc, hrb]
  have c0 := hr1.c0
  have c1 := hr1.c1
  have HB1 := Lib.hid hb1
  have HR1 := Lib.hid hr1
  have HS1 := Lib.hid hs1
  have HW1 := Lib.hid hw1
  have HRb := Lib.hid hrb
  clear hP hI hw1 hb1 hr1 hs1 hrb
  go_enter Tryd.func86, Tryd.ntmps86
  go_upto_region 1 with fail
  rw [HW1.out, HRb.out]
  go_wp2_with fail
  go_loopw [3] (fun i wr => ∃ j : Nat, i = .int .i64 (j : Int) ∧ j ≤ n ∧ wr = w1 ∧ Hid (trimS ⟨l.take j, wr0⟩ = trimS ⟨l, wr0⟩)) (fun i _ => (intOf i).toNat)
  case atStart => exact ⟨n, rfl, Nat.le_refl _, rfl, Lib.hid (by rw [HLn.out, List.take_length])⟩
  case round =>
    obtain ⟨j, rfl, hj, rfl, HF⟩ := hrel
    by_cases hgo : 0 < j ∧ wr0 = false ∧ l[j - 1]? = some (blk 0)
    · obtain ⟨hj0, rfl, hb⟩ := hgo
      obtain ⟨k, rfl⟩ : ∃ k, j = k + 1 := ⟨j - 1, by omega⟩
      have hkl : k < l.length := by rw [← HLn.out]; omega
      obtain ⟨b, off, rfl, hbl, hAt⟩ := HI0.out.at_.resolve_left (by intro e; rw [e] at hkl; simp at hkl)
      rw [HRb.out] at hbl
      have hat := (hAt k _ (by simpa using hb)).block (HB1.out.block b hbl)
      have k0 := hat.c0
      have k1 := hat.c1
      have k2 := hat.c2
      have hs := take_last l k hkl
      have hlk : l[k] = blk 0 := by
        have := hb
        rw [Nat.add_sub_cancel, List.getElem?_eq_getElem hkl] at this
        exact Option.some.inj this
      rw [hlk] at hs
      have HF2 : Hid (trimS ⟨l.take k, false⟩ = trimS ⟨l, false⟩) := Lib.hid (by rw [← HF.out, hs, trimS_blank])
      simp only [blk] at k0 k1 k2
      have hsub : ((k + 1 : Nat) : Int) - 1 = (k : Int) := by omega
      have hd : decide (0 < k + 1) = true := by simp
      clear hAt hat hs hlk hb
      go_wp2
      go_roundw
      case rel => exact ⟨k, by go_num, by omega, True.intro, HF2⟩
      case measure => simp [intOf]
    · have hstop : trimS ⟨l, wr0⟩ = l.take j := by
        rw [← HF.out]
        cases hw : wr0
        · by_cases hj0 : j = 0
          · subst hj0; exact trimS_nil _
          · obtain ⟨k, rfl⟩ : ∃ k, j = k + 1 := ⟨j - 1, by omega⟩
            have hkl : k < l.length := by rw [← HLn.out]; omega
            rw [take_last l k hkl]
            exact trimS_stop _ _ (fun e => hgo ⟨by omega, hw, by rw [Nat.add_sub_cancel, List.getElem?_eq_getElem hkl, e]⟩)
        · exact trimS_wrapped _
      have HG : Hid (glyphs ⟨l, wr0⟩ = glF (l.take j)) := Lib.hid (by rw [glyphs_glF, hstop])
      have hwhy : (j = 0) ∨ (0 < j ∧ wr0 = true) ∨ ∃ k b off x s t, j = k + 1 ∧ wr0 = false ∧ a = some ⟨b, off, none⟩ ∧ CelAt .i64 wr b (off + k * 3) ⟨x, s, t⟩ ∧ (x ≠ 32 ∨ (x = 32 ∧ s ≠ 0) ∨ (x = 32 ∧ s = 0 ∧ t ≠ 0)) := by
        by_cases hj0 : j = 0
        · exact .inl hj0
        · refine .inr ?_
          cases hw : wr0
          · refine .inr ?_
            obtain ⟨k, rfl⟩ : ∃ k, j = k + 1 := ⟨j - 1, by omega⟩
            have hkl : k < l.length := by rw [← HLn.out]; omega
            obtain ⟨b, off, rfl, hbl, hAt⟩ := HI0.out.at_.resolve_left (by intro e; rw [e] at hkl; simp at hkl)
            rw [HRb.out] at hbl
            have hat := (hAt k _ (List.getElem?_eq_getElem hkl)).block (HB1.out.block b hbl)
            have hne : l[k] ≠ blk 0 := fun e => hgo ⟨by omega, hw, by rw [Nat.add_sub_cancel, List.getElem?_eq_getElem hkl, e]⟩
            obtain ⟨cl, hcl⟩ : ∃ cl, l[k] = cl := ⟨_, rfl⟩
            rw [hcl] at hat hne
            obtain ⟨x, s, t⟩ := cl
            refine ⟨k, b, off, x, s, t, rfl, rfl, rfl, hat, ?_⟩
            by_cases hx : x = 32
            · by_cases hs : s = 0
              · exact .inr (.inr ⟨hx, hs, fun ht => hne (by rw [hx, hs, ht]; rfl)⟩)
              · exact .inr (.inl ⟨hx, hs⟩)
            · exact .inl hx
          · exact .inl ⟨by omega, rfl⟩
      have HStop := Lib.hid hstop
      clear hgo hstop
      refine Or.elim hwhy (fun h => ?_) (fun h => Or.elim h (fun h => ?_) (fun h => ?_))
      case' refine_1 =>
        have d0 : decide (0 < j) = false := decide_eq_false (by omega)
        clear hwhy h
        go_upto_region 4 with fail
      case' refine_2 =>
        obtain ⟨hj0, rfl⟩ := h
        have d0 : decide (0 < j) = true := decide_eq_true hj0
        clear hwhy
        go_upto_region 4 with fail
      case' refine_3 =>
        obtain ⟨k, b, off, x, s, t, rfl, rfl, rfl, hat, h⟩ := h
        have k0 := hat.c0
        have k1 := hat.c1
        have k2 := hat.c2
        simp only at k0 k1 k2
        have hsub : ((k + 1 : Nat) : Int) - 1 = (k : Int) := by omega
        have hd : decide (0 < k + 1) = true := by simp
        clear hat hwhy
        rcases h with hx | ⟨rfl, hs⟩ | ⟨rfl, rfl, ht⟩
        all_goals go_upto_region 4 with fail
        all_goals
          clear k0 k1 k2 hsub hd
          obtain ⟨j, hjk⟩ : ∃ j, k + 1 = j := ⟨_, rfl⟩
          rw [hjk] at hj HG HF HStop ⊢
          clear hjk
      all_goals
        obtain ⟨w2, hw2⟩ : ∃ w2, wr.alloc (.cells #[] 133) = w2 := ⟨_, rfl⟩
        have hO2 : OwnP .i64 133 (rb + 1) (.slice (some ⟨rb + 1, 0, none⟩) 0 0) (glF (l.take 0)) w2 := by
          have h := OwnP.lit .i64 133 wr (rb + 1) (by rw [HS1.out]; exact Nat.le_refl _)
          rw [HS1.out, hw2] at h
          exact h
        have hb2 : Below (rb + 1) wr w2 := by rw [← hw2]; exact (Below.refl _ _).alloc (by rw [HS1.out]; exact Nat.le_refl _) _
        have HO2 := Lib.hid hO2
        have HB2 := Lib.hid hb2
        have HW2 := Lib.hid hw2
        have hjc : (j : Int) ≤ c := by omega
        have hlw2 : rb + 1 ≤ w2.heap.size := by have := HB2.out.size; have := HS1.out; omega
        have x0 := HB2.out.cell (p := ⟨rb, 0, none⟩) (Nat.lt_succ_self rb)
        rw [HR1.out.c0] at x0
        have hjc' : j ≤ c := by omega
        clear hO2 hb2 hw2
        go_upto_region 5 with fail
        rw [HS1.out, HW2.out]
        obtain ⟨wv, hwv⟩ : ∃ wv, wv = wr := ⟨_, rfl⟩
        subst hwv
        go_wp2_with fail
        go_loopw [4, 35] (fun o i wq => ∃ k : Nat, i = .int .i64 (k : Int) ∧ k ≤ j ∧ rb + 1 ≤ wq.heap.size ∧ Hid (OwnP .i64 133 (rb + 1) o (glF (l.take k)) wq ∧ Below (rb + 1) wv wq)) (fun _ i _ => j - (intOf i).toNat)
        case atStart => exact ⟨0, rfl, by omega, hlw2, Lib.hid ⟨HO2.out, HB2.out⟩⟩
        case round =>
          obtain ⟨k, rfl, hk, hlw, HQ⟩ := hrel
          by_cases hlt : k < j
          · have hd9 : decide (k < j) = true := decide_eq_true hlt
            have hkl : k < l.length := by rw [← HLn.out]; omega
            obtain ⟨b9, o9, ha9, hbl9, hAt9⟩ := HI0.out.at_.resolve_left (by intro e; rw [e] at hkl; simp at hkl)
            first
              | subst ha9
              | (have hE := Option.some.inj ha9
                 injection hE with h1 h2
                 have h1' := h1.symm
                 have h2' := h2.symm
                 subst h1' h2')
            rw [HRb.out] at hbl9
            have hat9 := ((hAt9 k _ (List.getElem?_eq_getElem hkl)).block (HB1.out.block b9 hbl9)).block (HQ.out.2.block b9 (by omega))
            have hsn := take_last l k hkl
            obtain ⟨cl, hcl⟩ : ∃ cl, l[k] = cl := ⟨_, rfl⟩
            rw [hcl] at hat9 hsn
            have HSn : Hid (glF (l.take (k + 1)) = glF (l.take k) ++ glF [cl]) := Lib.hid (by rw [hsn, glF_append])
            have HLe : Hid (((glF (l.take k)).length : Int) ≤ 1000000) := Lib.hid (by have := glF_length (l.take k); rw [List.length_take] at this; omega)
            obtain ⟨x9, s9, t9⟩ := cl
            have m0 := hat9.c0
            have m1 := hat9.c1
            have m2 := hat9.c2
            simp only at m0 m1 m2
            obtain ⟨nb, hnb⟩ : ∃ nb, wr.heap.size = nb := ⟨_, rfl⟩
            obtain ⟨w5, hw5⟩ : ∃ w5, wr.alloc (.cells #[.int .i64 x9, .int .i64 s9, .int .i64 t9] 87) = w5 := ⟨_, rfl⟩
            have hblk5 : w5.heap[nb]? = some (.cells #[.int .i64 x9, .int .i64 s9, .int .i64 t9] 87 (0, 0)) := by rw [← hw5, ← hnb]; exact World.alloc_heap_new _ _
            have hb5 : Below (rb + 1) wv w5 := by rw [← hw5]; exact HQ.out.2.alloc hlw _
            have hO5 := HQ.out.1.alloc (.cells #[.int .i64 x9, .int .i64 s9, .int .i64 t9] 87)
            rw [hw5] at hO5
            have hz5 : w5.heap.size = nb + 1 := by rw [← hw5, World.size_alloc, hnb]
            have e0'' : w5.cell? ⟨nb, 0, none⟩ = some (.int .i64 x9) := by simp [World.cell?, hblk5]
            have e1'' : w5.cell? ⟨nb, 1, none⟩ = some (.int .i64 s9) := by simp [World.cell?, hblk5]
            have e2'' : w5.cell? ⟨nb, 2, none⟩ = some (.int .i64 t9) := by simp [World.cell?, hblk5]
            have HW5 := Lib.hid hw5
            have HNb := Lib.hid hnb
            have HO5 := Lib.hid hO5
            have HB5 := Lib.hid hb5
            have hlw5 : rb + 1 ≤ w5.heap.size := by omega
            clear hAt9 hat9 hsn hcl hblk5 hb5 hO5 hz5 hw5 hnb
            by_cases hp : t9 = 0 ∨ t9 = 1
            · have HSy : Hid (glF (l.take (k + 1)) = glF (l.take k) ++ [(x9, s9)]) := Lib.hid (by rw [HSn.out, glF_yes _ hp])
              rcases hp with rfl | rfl
              all_goals
                go_upto_region 8 with fail
                rw [HW5.out, HNb.out]
                clear m0 m1 m2
                go_wp2_with (at_builtin; refine wpList_append_pair refGluT rfl _ _ rfl rfl (rb + 1) _ (glF (l.take k)) (x9, s9) w5.heap.size rfl rfl (HO5.out.alloc _) (by rw [World.cell?_alloc_new]; rfl) (by rw [World.cell?_alloc_new]; rfl) HLe.out (by rw [World.size_alloc]; omega) ?_)
                intro v' w' hown hgr
                have hbel := (HB5.out.alloc hlw5 _).grown hgr (by rw [World.size_alloc]; omega) (fun q hq => (HO5.out.ownBlock q hq).1)
                have hlw' : rb + 1 ≤ w'.heap.size := by have := hgr.size; rw [World.size_alloc] at this; omega
                rw [← HSy.out] at hown
                have HI' : Hid (OwnP .i64 133 (rb + 1) v' (glF (l.take (k + 1))) w' ∧ Below (rb + 1) wv w') := Lib.hid ⟨hown, hbel⟩
                clear hown hbel hgr
                go_wp2
                go_roundw
                case rel => exact ⟨k + 1, by go_num, by omega, hlw', HI'⟩
                case measure => simp [intOf]; omega
            · have HI' : Hid (OwnP .i64 133 (rb + 1) u4 (glF (l.take (k + 1))) w5 ∧ Below (rb + 1) wv w5) := Lib.hid ⟨by rw [HSn.out, glF_no _ hp, List.append_nil]; exact HO5.out, HB5.out⟩
              have p0 : (t9 == 0) = false := by simp; exact fun e => hp (.inl e)
              have p1 : (t9 == 1) = false := by simp; exact fun e => hp (.inr e)
              clear hp
              go_upto_region 8 with fail
              rw [HW5.out, HNb.out]
              clear m0 m1 m2 HW5 HNb
              go_wp2_with fail
              go_roundw
              case rel => exact ⟨k + 1, by go_num, by omega, hlw5, HI'⟩
              case measure => simp [intOf]; omega
          · obtain rfl : k = j := by omega
            have hd9 : decide ((k : Int) < (k : Int)) = false := by simp
            have hd8 : decide (k < k) = false := by simp
            obtain ⟨a5, c5, he5, hP5, -⟩ := HQ.out.1.shape
            obtain ⟨n5, hn5⟩ : ∃ n5, (glF (l.take k)).length = n5 := ⟨_, rfl⟩
            rw [hn5] at he5 hP5
            subst he5
            have HFin : Hid (PairsIn .i64 a5 n5 c5 (glF (l.take k)) wr ∧ Below rb w wr) := Lib.hid ⟨hP5, HB1.out.trans (HQ.out.2.mono (by omega))⟩
            clear hP5 hn5 HQ
            go_wp2_with fail
            rw [← HP.out, HG.out]
            exact ⟨a5, n5, c5, rfl, HFin.out.1, HFin.out.2⟩

end Go.Proofs.YtmdnnpcofbhceaaDoor.K

/- The document's grid: the text of a row; the law's small and Rows. -/
namespace Go.Proofs.YtmdnnpcofbhceaaDoor.K
open Go.RowKit

theorem txt_eq {S : ByteArray} {r : Ro} (h : S.data.toList = (runesR r).flatMap Y.encS) : S = txt r := by
  have h2 := Y.runesBytes_enc (runesR r)
  unfold txt
  cases S with
  | mk d =>
    rcases hR : runesBytes (runesR r) with ⟨e⟩
    rw [hR] at h2
    have h3 : d.toList = e.toList := by rw [h, h2]
    have : d = e := by
      cases d; cases e
      congr
    rw [this]
theorem encS_le (z : Int) : (Y.encS z).length ≤ 4 := by
  unfold Y.encS Y.encN
  rw [List.length_map]
  split
  · simp
  · split
    · simp
    · split <;> simp
set_option maxRecDepth 100000 in
set_option maxHeartbeats 4000000 in
theorem refText_any {p : Rv} {r : Ro} (w : World) (hp : RowV .i64 p.val r w) (hrn : r.l.length ≤ 1000) :
    Calls Tryd.prog 71 #[p.val] w fun e w' => e = .returned (.string (txt r)) ∧ Below w.heap.size w w' := by
  obtain ⟨pa, pn, pc, pb⟩ := p
  unfold Rv.val at hp ⊢
  simp only at hp ⊢
  obtain ⟨rb, hrb⟩ : ∃ rb, w.heap.size = rb := ⟨_, rfl⟩
  obtain ⟨w1, hw1⟩ : ∃ w1, w.alloc (.cells #[.slice pa pn pc, .bool pb] 30) = w1 := ⟨_, rfl⟩
  have hb1 : Below w.heap.size w w1 := by rw [← hw1]; exact (Below.refl _ _).alloc (Nat.le_refl _) _
  have hr1 : RoB 30 rb (.slice pa pn pc) pb w1 := by rw [← hw1, ← hrb]; exact RoB.new _ _ _ _
  obtain ⟨hpb, hce, -, hfit, hmx, hpn⟩ := (hp.belowAll hb1).of
  have hgl := refGlyphs_any pa pn pc pb r.l w1 hce (by omega) hfit hmx
  have hre : (⟨r.l, pb⟩ : Ro) = r := by rw [hpb]
  rw [hre] at hgl
  have hgn : (glyphs r).length ≤ 1000 := Nat.le_trans (glyphs_le r) hrn
  obtain ⟨gs, hgs⟩ : ∃ gs, glyphs r = gs := ⟨_, rfl⟩
  rw [hgs] at hgl hgn
  have r0 := hr1.c0
  have r1 := hr1.c1
  obtain ⟨P, hP⟩ : ∃ P : Ending → World → Prop, (fun e w' => e = .returned (.string (txt r)) ∧ Below w.heap.size w w') = P := ⟨_, rfl⟩
  rw [hP]
  have HP := Lib.hid hP
  have HGl := Lib.hid hgl
  have HGs := Lib.hid hgs
  have HB1 := Lib.hid hb1
  have HW1 := Lib.hid hw1
  have HRb := Lib.hid hrb
  clear hP hgl hgs hb1 hw1 hr1 hp hpb hce hfit hmx hpn hre hrb
  go_enter Tryd.func71, Tryd.ntmps71
  go_upto_region 1 with fail
  rw [HW1.out, HRb.out]
  go_wp2_with fail
  refine HGl.out.mono ?_
  rintro e w2 ⟨ga, gn, gc, rfl, hG, hb2⟩
  have HLg := Lib.hid hG.len
  have HG := Lib.hid hG
  have HB2 : Hid (Below w.heap.size w w2) := Lib.hid (HB1.out.trans (hb2.mono HB1.out.size))
  have hgn2 : gn ≤ 1000 := by have := HLg.out; omega
  clear hG hb2 HGl r0 r1
  go_wp2_with fail
  go_loopw [3, 9] (fun s i wr => ∃ (j : Nat) (S : ByteArray), i = .int .i64 (j : Int) ∧ s = .string S ∧ j ≤ gn ∧ (S.size : Int) ≤ 4 * j ∧ Hid (S.data.toList = ((gs.take j).map Prod.fst).flatMap Y.encS ∧ Below w2.heap.size w2 wr)) (fun _ i _ => gn - (intOf i).toNat)
  case atStart => exact ⟨0, ⟨#[]⟩, rfl, rfl, by omega, by decide, Lib.hid ⟨rfl, Below.refl _ _⟩⟩
  case round =>
    obtain ⟨j, S, rfl, rfl, hj, hS, HF⟩ := hrel
    by_cases hlt : j < gn
    · have hd : decide (j < gn) = true := decide_eq_true hlt
      have hjg : j < gs.length := by rw [← HLg.out]; exact hlt
      obtain ⟨b, off, rfl, hb, hA⟩ := (HG.out.belowAll HF.out.2).at_.resolve_left (by intro e; rw [e] at hjg; simp at hjg)
      have hk := hA j gs[j] (List.getElem?_eq_getElem hjg)
      have htk := take_last gs j hjg
      obtain ⟨⟨z, sty⟩, hge⟩ : ∃ k, gs[j] = k := ⟨_, rfl⟩
      rw [hge] at hk htk
      obtain ⟨k0, k1⟩ := hk
      simp only at k0 k1
      obtain ⟨w3, hw3⟩ : ∃ w3, wr.alloc (.cells #[.int .i64 z, .int .i64 sty] 133) = w3 := ⟨_, rfl⟩
      have hb3 : Below wr.heap.size wr w3 := by rw [← hw3]; exact (Below.refl _ _).alloc (Nat.le_refl _) _
      have HEnc := Lib.hid (Y.refEnc_any z w3)
      have HTk := Lib.hid htk
      have HW3 := Lib.hid hw3
      have HB3 := Lib.hid hb3
      clear hA hjg htk hge hw3 hb3 hb
      go_wp2_with fail
      rw [HW3.out]
      refine HEnc.out.mono ?_
      rintro e w4 ⟨⟨u, rfl, hu⟩, hb4⟩
      have hu4 : u.size ≤ 4 := by rw [← ByteArray.size_data, ← Array.length_toList, hu]; exact encS_le z
      have hSu : (S ++ u).size = S.size + u.size := ByteArray.size_append
      have HN : Hid ((S ++ u).data.toList = ((gs.take (j + 1)).map Prod.fst).flatMap Y.encS ∧ Below w2.heap.size w2 w4) := Lib.hid ⟨by
        rw [HTk.out, List.map_append, List.flatMap_append, List.map_cons, List.map_nil, List.flatMap_cons, List.flatMap_nil, List.append_nil, ← hu, ← HF.out.1]
        simp, HF.out.2.trans ((HB3.out.trans (hb4.mono HB3.out.size)).mono HF.out.2.size)⟩
      have HSz := Lib.hid (show ((S ++ u).size : Int) ≤ 4 * (j + 1 : Nat) by rw [hSu]; omega)
      clear hu hSu hb4 HEnc
      go_wp2_with fail
      go_roundw
      case rel => exact ⟨j + 1, S ++ u, by go_num, rfl, by omega, HSz.out, HN⟩
      case measure => simp [intOf]; omega
    · obtain rfl : j = gn := by omega
      have hd : decide (j < j) = false := by simp
      have hd' : decide ((j : Int) < (j : Int)) = false := by simp
      go_wp2
      rw [← HP.out]
      have h := HF.out.1
      rw [List.take_of_length_le (by rw [← HLg.out]; exact Nat.le_refl _), ← HGs.out] at h
      exact ⟨by rw [txt_eq h]; rfl, HB2.out.trans (HF.out.2.mono HB2.out.size)⟩
/-! ## the law's own -/
def smallN (n : Int) : Int := if 12 < n ∧ n < 1000 then 12 else min n 12
theorem small_any (n : Int) (w : World) : Calls Tryd.prog 31 #[.int .i64 n] w fun e w' => e = .returned (.int .i64 (smallN n)) ∧ w = w' := by
  unfold smallN
  obtain ⟨M, hM⟩ : ∃ M, min n 12 = M := ⟨_, rfl⟩
  rw [hM]
  by_cases h1 : 12 < n
  · by_cases h2 : n < 1000
    · rw [if_pos ⟨h1, h2⟩]
      have d1 : decide (12 < n) = true := decide_eq_true h1
      have d2 : decide (n < 1000) = true := decide_eq_true h2
      clear h1 h2
      go_enter Tryd.func31, Tryd.ntmps31
      go_wp2
      go_ret
      exact ⟨rfl, rfl⟩
    · rw [if_neg (fun h => h2 h.2)]
      have d1 : decide (12 < n) = true := decide_eq_true h1
      have d2 : decide (n < 1000) = false := decide_eq_false h2
      clear h1 h2
      go_enter Tryd.func31, Tryd.ntmps31
      go_wp2
      go_ret
      exact ⟨rfl, rfl⟩
  · rw [if_neg (fun h => h1 h.1)]
    have d1 : decide (12 < n) = false := decide_eq_false h1
    clear h1
    go_enter Tryd.func31, Tryd.ntmps31
    go_wp2
    go_ret
    exact ⟨rfl, rfl⟩
set_option maxRecDepth 100000 in
set_option maxHeartbeats 4000000 in
theorem lawRows_any {L L2 : List Nat} {a1 a2 : Option Addr} {n1 c1 n2 c2 : Nat} {rs1 rs2 : List Ro} (w : World) (h1 : RowsL .i32 L a1 n1 c1 rs1 w) (h2 : RowsL .i64 L2 a2 n2 c2 rs2 w) (hg : ∀ r ∈ rs1, AllC Rng r.l) (hl1 : ∀ r ∈ rs1, r.l.length ≤ 1000) (hl2 : ∀ r ∈ rs2, r.l.length ≤ 1000) (hn1 : n1 ≤ 1000) (hn2 : n2 ≤ 1000) :
    Calls Tryd.prog 40 #[.slice a1 n1 c1, .slice a2 n2 c2] w fun e w' => e = .returned (.bool (decide (rs1 = rs2))) ∧ Below w.heap.size w w' := by
  have hm1 := h1.len
  have hm2 := h2.len
  obtain ⟨us1, i1, v1, -⟩ := h1.ex
  obtain ⟨us2, i2, v2, -⟩ := h2.ex
  obtain ⟨rb, hrb⟩ : ∃ rb, w.heap.size = rb := ⟨_, rfl⟩
  rw [hrb]
  obtain ⟨D, hD⟩ : ∃ D, decide (rs1 = rs2) = D := ⟨_, rfl⟩
  obtain ⟨P, hP⟩ : ∃ P : Ending → World → Prop, (fun e w' => e = .returned (.bool D) ∧ Below rb w w') = P := ⟨_, rfl⟩
  rw [hD, hP]
  have HP := Lib.hid hP
  have HD := Lib.hid hD
  have HL1 := Lib.hid hm1
  have HL2 := Lib.hid hm2
  have H1 := Lib.hid i1
  have H2 := Lib.hid i2
  have HV1 := Lib.hid v1
  have HV2 := Lib.hid v2
  have HR1 := Lib.hid hl1
  have HR2 := Lib.hid hl2
  have HRg := Lib.hid hg
  have HRb := Lib.hid hrb
  by_cases hnn : n1 = n2
  · subst hnn
    have q1 : ((n1 : Int) != (n1 : Int)) = false := by simp
    clear hP hD h1 h2 i1 i2 v1 v2 hl1 hl2 hrb hn2 hm1 hm2 hg
    go_enter Tryd.func40, Tryd.ntmps40
    go_wp2_with fail
    go_loopw [13] (fun i wr => ∃ j : Nat, i = .int .i64 (j : Int) ∧ j ≤ n1 ∧ Hid (rs1.take j = rs2.take j ∧ Below rb w wr)) (fun i _ => n1 - (intOf i).toNat)
    case atStart => exact ⟨0, rfl, by omega, Lib.hid ⟨by simp, Below.refl _ _⟩⟩
    case round =>
      obtain ⟨j, rfl, hj, HF⟩ := hrel
      by_cases hlt : j < n1
      · have hd : decide (j < n1) = true := by simp; omega
        have hj1 : j < rs1.length := by rw [← HL1.out]; exact hlt
        have hj2 : j < rs2.length := by rw [← HL2.out]; exact hlt
        have hu1 : j < us1.length := by rw [HV1.out.1]; exact hj1
        have hu2 : j < us2.length := by rw [HV2.out.1]; exact hj2
        obtain ⟨b1, o1, rfl, hb1, hA1⟩ := H1.out.at_.resolve_left (by intro e; rw [e] at hu1; simp at hu1)
        obtain ⟨b2, o2, rfl, hb2, hA2⟩ := H2.out.at_.resolve_left (by intro e; rw [e] at hu2; simp at hu2)
        have hbw : Below w.heap.size w wr := by rw [HRb.out]; exact HF.out.2
        have hat1 := hA1 j us1[j] (List.getElem?_eq_getElem hu1)
        have hat2 := hA2 j us2[j] (List.getElem?_eq_getElem hu2)
        have hr1 := (HV1.out.2 j us1[j] rs1[j] (List.getElem?_eq_getElem hu1) (List.getElem?_eq_getElem hj1)).belowAll hbw
        have hr2 := (HV2.out.2 j us2[j] rs2[j] (List.getElem?_eq_getElem hu2) (List.getElem?_eq_getElem hj2)).belowAll hbw
        have hs1 := takeR_one rs1 j hj1
        have hs2 := takeR_one rs2 j hj2
        have hm1 := HR1.out rs1[j] (List.getElem_mem hj1)
        have hm2 := HR2.out rs2[j] (List.getElem_mem hj2)
        have hgg := HRg.out rs1[j] (List.getElem_mem hj1)
        obtain ⟨⟨x1, m1, y1, g1⟩, hx1⟩ : ∃ k, us1[j] = k := ⟨_, rfl⟩
        obtain ⟨⟨x2, m2, y2, g2⟩, hx2⟩ : ∃ k, us2[j] = k := ⟨_, rfl⟩
        obtain ⟨r1, hre1⟩ : ∃ k, rs1[j] = k := ⟨_, rfl⟩
        obtain ⟨r2, hre2⟩ : ∃ k, rs2[j] = k := ⟨_, rfl⟩
        rw [hx1] at hat1 hr1
        rw [hx2] at hat2 hr2
        rw [hre1] at hr1 hs1 hm1 hgg
        rw [hre2] at hr2 hs2 hm2
        have p0 : wr.cell? ⟨b1, o1 + j * 2, none⟩ = some (.slice x1 m1 y1) := (World.cell?_of_block (a := ⟨b1, o1 + j * 2, none⟩) (hbw.block b1 hb1)).trans hat1.1
        have p1 : wr.cell? ⟨b1, o1 + j * 2 + 1, none⟩ = some (.bool g1) := (World.cell?_of_block (a := ⟨b1, o1 + j * 2 + 1, none⟩) (hbw.block b1 hb1)).trans hat1.2
        have p2 : wr.cell? ⟨b2, o2 + j * 2, none⟩ = some (.slice x2 m2 y2) := (World.cell?_of_block (a := ⟨b2, o2 + j * 2, none⟩) (hbw.block b2 hb2)).trans hat2.1
        have p3 : wr.cell? ⟨b2, o2 + j * 2 + 1, none⟩ = some (.bool g2) := (World.cell?_of_block (a := ⟨b2, o2 + j * 2 + 1, none⟩) (hbw.block b2 hb2)).trans hat2.2
        unfold Rv.val at hr1 hr2
        simp only at hr1 hr2
        have cS : ∀ d os, Calls Tryd.prog 17 #[.agg #[.slice x1 m1 y1, .bool g1], .agg #[.slice x2 m2 y2, .bool g2]] (Go.Sort.grow (redrawn wr d) os) fun en w'' => en = .returned (.bool (decide (r1 = r2))) ∧ ∃ p : Regrown, w'' = Go.Sort.grow (redrawn wr p.d) p.os := fun d os => by
          have hb := below_regrown wr d os
          exact Calls.regrown_of (isRow_any (hr1.belowAll hb) (hr2.belowAll hb) hgg hm1 hm2)
        have z0 := fun d os => cell_regrown p0 d os
        have z1 := fun d os => cell_regrown p1 d os
        have z2 := fun d os => cell_regrown p2 d os
        have z3 := fun d os => cell_regrown p3 d os
        have HS1 := Lib.hid hs1
        have HS2 := Lib.hid hs2
        have HE1 := Lib.hid hre1
        have HE2 := Lib.hid hre2
        have HBw := Lib.hid hbw
        have hbs : rb ≤ wr.heap.size := by have := hbw.size; have := HRb.out; omega
        clear hA1 hA2 hat1 hat2 hr1 hr2 hs1 hs2 hm1 hm2 hx1 hx2 hre1 hre2 hb1 hb2 hbw hu1 hu2 hgg
        by_cases hE : r1 = r2
        · have hde : decide (r1 = r2) = true := decide_eq_true hE
          rw [hde] at cS
          have HE := Lib.hid hE
          have CS := Lib.hid cS
          clear hE hde cS
          go_upto_region 6 with fail
          clear p0 p1 p2 p3
          refine wp_region_quiet_below (by kernel_rfl) (by kernel_rfl) ?_
          repeat (go_big_quiet_step (first | exact CS.out _ _))
          refine wpQuiet_nil ?_
          intro _ hw'
          obtain ⟨⟨dq, osq⟩, hw''⟩ := hw'
          have HF3 : Hid (rs1.take (j + 1) = rs2.take (j + 1) ∧ Below rb w (Go.Sort.grow (redrawn wr dq) osq)) := Lib.hid ⟨by rw [HS1.out, HS2.out, HF.out.1, HE.out], HF.out.2.trans ((below_regrown _ _ _).mono hbs)⟩
          rw [hw'']
          simp only
          obtain ⟨w6, hw6⟩ : ∃ w6, Go.Sort.grow (redrawn wr dq) osq = w6 := ⟨_, rfl⟩
          rw [hw6] at HF3 ⊢
          clear hw'' hw6 z0 z1 z2 z3 CS
          go_wp2
          go_roundw
          case rel => exact ⟨j + 1, by go_num, by omega, HF3⟩
          case measure => simp [intOf]; omega
        · have hde : decide (r1 = r2) = false := decide_eq_false hE
          rw [hde] at cS
          have HE := Lib.hid hE
          have CS := Lib.hid cS
          clear hE hde cS
          have hne : D = false := by
            rw [← HD.out]
            refine decide_eq_false (fun e => HE.out ?_)
            subst e
            rw [← HE1.out, ← HE2.out]
          have HNe := Lib.hid hne
          clear hne
          go_upto_region 6 with fail
          clear p0 p1 p2 p3
          refine wp_region_quiet_below (by kernel_rfl) (by kernel_rfl) ?_
          repeat (go_big_quiet_step (first | exact CS.out _ _))
          refine wpQuiet_nil ?_
          intro _ hw'
          obtain ⟨⟨dq, osq⟩, hw''⟩ := hw'
          rw [hw'']
          simp only
          have HF3 : Hid (P (.returned (.bool false)) (Go.Sort.grow (redrawn wr dq) osq)) := Lib.hid (by rw [← HP.out, HNe.out]; exact ⟨rfl, HF.out.2.trans ((below_regrown _ _ _).mono hbs)⟩)
          clear z0 z1 z2 z3 CS
          go_wp2
          exact HF3.out
      · obtain rfl : j = n1 := by omega
        have hd : decide (j < j) = false := by simp
        have hd' : decide ((j : Int) < (j : Int)) = false := by simp
        go_wp2
        rw [← HP.out]
        obtain ⟨h3, h4⟩ := HF.out
        rw [List.take_of_length_le (by rw [← HL1.out]; exact Nat.le_refl _), List.take_of_length_le (by rw [← HL2.out]; exact Nat.le_refl _)] at h3
        exact ⟨by rw [← HD.out, h3]; simp, h4⟩
  · have q1 : ((n1 : Int) != (n2 : Int)) = true := by simp; omega
    have hne : D = false := by
      rw [← hD]
      refine decide_eq_false (fun e => hnn ?_)
      rw [HL1.out, HL2.out, e]
    clear hP hD h1 h2 i1 i2 v1 v2 hl1 hl2 hrb hm1 hm2 hg
    go_enter Tryd.func40, Tryd.ntmps40
    go_wp2
    rw [← HP.out, hne]
    exact ⟨rfl, Below.refl _ _⟩
end Go.Proofs.YtmdnnpcofbhceaaDoor.K
