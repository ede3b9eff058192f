/- The contract of seq's finish. -/
import Derived.Test.YtfapmgecebcfaaaDoorMerged3
import Derived.Test.YtfapmgecebcfaaaDoorRelV
namespace Go.Proofs.YtfapmgecebcfaaaDoor.Q
open Go.RowKit
open Go.Proofs.YtfapmgecebcfaaaDoor.W (OwnI OwnR IntsIn RunesIn wpList_append_ints)

theorem own_weaken {base base' : Nat} {v : Value} {zs : List Int} {w : World} (h : OwnI base v zs w) (hb : base' ≤ base) : OwnI base' v zs w := by
  refine ⟨h.1, h.2.imp id ?_⟩
  rintro ⟨g, cap, cur, h1, h2, h3⟩
  exact ⟨g, cap, cur, h1, Nat.le_trans hb h2, h3⟩
def FinOk (base k : Nat) (v : Value) (b : Nat) (pr : Bool) (zs : List Int) : Nat → Value → World → Prop
  | 0, u, _ => u = v
  | 1, u, _ => u = .int .u8 (b : Int)
  | 2, u, _ => u = .pointer (some ⟨k, 0, none⟩)
  | 3, u, _ => u = .pointer (some ⟨k, 0, none⟩)
  | 4, u, _ => u = .pointer (some ⟨k, 4, none⟩)
  | 5, u, _ => u = .pointer (some ⟨k, 24, none⟩)
  | 6, u, _ => u = .bool pr
  | 7, u, _ => u = .pointer (some ⟨k, 0, none⟩)
  | 8, u, _ => u = .pointer (some ⟨k, 0, none⟩)
  | 9, u, _ => u = .pointer (some ⟨k, 4, none⟩)
  | 10, u, w => OwnI base u zs w
  | 11, u, w => ∃ nv, u = .agg (aArr (cmd b pr zs) nv) ∧ OwnI base nv zs w
  | 12, u, w => ∃ nv g, u = .slice (some ⟨g, 0, none⟩) 1 1 ∧ w.heap[g]? = some (.cells (aArr (cmd b pr zs) nv) 51 (0, 0)) ∧ OwnI base nv zs w
  | _, _, _ => True

set_option maxRecDepth 100000 in
set_option maxHeartbeats 8000000 in
theorem finish_any (base k : Nat) (p : PS) (v : Value) (acts : List Say) (b : Nat) (w : World) (hE : Env base k p v acts w) : Calls Tryd.prog 41 #[.pointer (some ⟨k, 0, none⟩), .int .u8 (b : Int), v] w (MPost base k (finS p b).1 (acts ++ (finS p b).2) w) := by
  have HE := Lib.hid hE
  obtain ⟨P, hP⟩ : ∃ P, MPost base k (finS p b).1 (acts ++ (finS p b).2) w = P := ⟨_, rfl⟩
  rw [hP]
  have HP := Lib.hid hP
  have c23 := hE.blk.numbered
  have HKe := Lib.hid (keep_any k p w hE.blk hE.ok.nums)
  obtain ⟨NB, hnb⟩ : ∃ NB, p.numbered = NB := ⟨_, rfl⟩
  rw [hnb] at c23
  obtain ⟨q, hq⟩ : ∃ q, (if NB then keepS p else p) = q := ⟨_, rfl⟩
  have hqo : Ok q := by rw [← hq]; split; exact keep_ok hE.ok; exact hE.ok
  have hqw : q.wrong = p.wrong := by rw [← hq]; split <;> rfl
  have hqp : q.priv = p.priv := by rw [← hq]; split <;> rfl
  have hfin : finS p b = (fresh 0, if q.wrong then [] else [cmd b q.priv q.nums]) := by unfold finS; rw [hnb, hq, hqw, hqp]
  rw [hfin] at HP
  have HQo := Lib.hid hqo
  have HQ := Lib.hid hq
  clear hP hE hnb hq hqw hqp hfin hqo
  go_enter Tryd.func41, Tryd.ntmps41
  go_upto_if 11 with fail
  clear c23
  go_cut [] (fun wx => Hid (OwnA base v acts wx ∧ PBlk k q wx ∧ Kept base k w wx))
  case first =>
    cases NB with
    | false =>
      go_wp2_with fail
      go_meet
      exact Lib.hid ⟨HE.out.own, by rw [← HQ.out]; exact HE.out.blk, Kept.refl _ _ _⟩
    | true =>
      go_wp2_with fail
      refine HKe.out.mono ?_
      rintro e w2 ⟨rfl, hb2, hg2⟩
      have HR : Hid (OwnA base v acts w2 ∧ PBlk k q w2 ∧ Kept base k w w2) := Lib.hid ⟨HE.out.own.turned HE.out.blk hg2, by rw [← HQ.out]; exact hb2, Kept.of_grown hg2 HE.out.bw⟩
      clear hb2 hg2 HKe
      go_wp2_with fail
      go_meet
      exact HR
  case rest =>
  clear HKe
  obtain ⟨hO2, hB2, hK2⟩ := hcut.out
  have c25 := hB2.wrong
  obtain ⟨WR, hwr⟩ : ∃ WR, q.wrong = WR := ⟨_, rfl⟩
  obtain ⟨pr, hpr⟩ : ∃ pr, q.priv = pr := ⟨_, rfl⟩
  obtain ⟨zs, hzs⟩ : ∃ zs, q.nums = zs := ⟨_, rfl⟩
  rw [hwr, hpr, hzs] at HP
  rw [hwr] at c25
  have HO2 := Lib.hid hO2
  have HB2 := Lib.hid hB2
  have HK2 := Lib.hid hK2
  have HPr := Lib.hid hpr
  have HZs := Lib.hid hzs
  have HQl : Hid (q.nums.length ≤ 16) := Lib.hid HQo.out.nums
  have hbw2 : base ≤ wc.heap.size := Nat.le_trans HE.out.bw hK2.size
  have HBw := Lib.hid hbw2
  clear hO2 hB2 hK2 hcut hwr hpr hzs
  go_upto_if 21 with fail
  clear c25
  go_cut [2] (fun t2 wx => Hid (OwnA base t2 (acts ++ (if WR then [] else [cmd b pr zs])) wx ∧ PBlk k q wx ∧ Kept base k wc wx))
  case first =>
    cases WR with
    | true =>
      go_wp2_with fail
      go_meet
      exact Lib.hid ⟨by simpa using HO2.out, HB2.out, Kept.refl _ _ _⟩
    | false =>
      go_upto_region 4 with fail
      refine R.wp_region_tailV 13 (by kernel_rfl) (fun u => Below wc.heap.size wc u) (fun u v => Below u.heap.size u v) (FinOk base k v b pr zs) (by rfl) (by kernel_rfl) (by decide) (by kernel_rfl) (by kernel_rfl) (by kernel_rfl) ?hC ?hOk ?hop ?hdone ((Below.refl _ _).drew)
      case hC => exact fun u v hu huv => hu.trans (huv.mono hu.size)
      case hOk =>
        intro i x u u' hv huu
        unfold FinOk at hv ⊢
        split at hv
        all_goals first | exact hv | exact OwnI.belowAll hv huu | trivial | skip
        · obtain ⟨nv, h1, h2⟩ := hv
          exact ⟨nv, h1, OwnI.belowAll h2 huu⟩
        · obtain ⟨nv, g, h1, h2, h3⟩ := hv
          exact ⟨nv, g, h1, (huu.block g (Array.getElem?_eq_some_iff.1 h2).1).trans h2, OwnI.belowAll h3 huu⟩
      case hop =>
        refine ⟨?_, ?_, ?_, ?_, ?_, ?_, ?_, ?_, ?_, ?_, ?_, ?_, ?_, trivial⟩
        · intro z u hz hag hdep
          refine .inl ⟨rfl, fun K hK => ?_⟩
          have d2 : z.tmps.getD 2 undef = v := hag.2.2 2 (by kernel_rfl)
          have e2 := d2
          rw [Array.getD_eq_getD_getElem?] at e2
          clear hdep hag
          go_simp
          exact hK _ _ (Below.refl _ _) rfl
        · intro z u hz hag hdep
          refine .inl ⟨rfl, fun K hK => ?_⟩
          have d1 : z.tmps.getD 1 undef = .int .u8 (b : Int) := hag.2.2 1 (by kernel_rfl)
          have e1 := d1
          rw [Array.getD_eq_getD_getElem?] at e1
          clear hdep hag
          go_simp
          exact hK _ _ (Below.refl _ _) rfl
        · intro z u hz hag hdep
          refine .inl ⟨rfl, fun K hK => ?_⟩
          have d0 : z.tmps.getD 0 undef = .pointer (some ⟨k, 0, none⟩) := hag.2.2 0 (by kernel_rfl)
          have e0 := d0
          rw [Array.getD_eq_getD_getElem?] at e0
          clear hdep hag
          go_simp
          exact hK _ _ (Below.refl _ _) rfl
        · intro z u hz hag hdep
          refine .inl ⟨rfl, fun K hK => ?_⟩
          have d24 : FinOk base k v b pr zs 2 (z.tmps.getD 24 undef) u := hdep { on := 2, ground := .data } (by simp) rfl _ _ rfl rfl
          simp only [FinOk] at d24
          have e24 := d24
          rw [Array.getD_eq_getD_getElem?] at e24
          clear hdep hag
          go_simp
          exact hK _ _ (Below.refl _ _) rfl
        · intro z u hz hag hdep
          refine .inl ⟨rfl, fun K hK => ?_⟩
          have d25 : FinOk base k v b pr zs 3 (z.tmps.getD 25 undef) u := hdep { on := 3, ground := .data } (by simp) rfl _ _ rfl rfl
          simp only [FinOk] at d25
          have e25 := d25
          rw [Array.getD_eq_getD_getElem?] at e25
          clear hdep hag
          go_simp
          exact hK _ _ (Below.refl _ _) rfl
        · intro z u hz hag hdep
          refine .inl ⟨rfl, fun K hK => ?_⟩
          have d26 : FinOk base k v b pr zs 4 (z.tmps.getD 26 undef) u := hdep { on := 4, ground := .data } (by simp) rfl _ _ rfl rfl
          simp only [FinOk] at d26
          have e26 := d26
          rw [Array.getD_eq_getD_getElem?] at e26
          clear hdep hag
          go_simp
          exact hK _ _ (Below.refl _ _) rfl
        · intro z u hz hag hdep
          refine .inl ⟨rfl, fun K hK => ?_⟩
          have d27 : FinOk base k v b pr zs 5 (z.tmps.getD 27 undef) u := hdep { on := 5, ground := .data } (by simp) rfl _ _ rfl rfl
          simp only [FinOk] at d27
          have e27 := d27
          rw [Array.getD_eq_getD_getElem?] at e27
          have hcl := ((HB2.out.belowAll hz).priv)
          rw [HPr.out] at hcl
          clear hdep hag
          go_simp
          exact hK _ _ (Below.refl _ _) rfl
        · intro z u hz hag hdep
          refine .inl ⟨rfl, fun K hK => ?_⟩
          have d0 : z.tmps.getD 0 undef = .pointer (some ⟨k, 0, none⟩) := hag.2.2 0 (by kernel_rfl)
          have e0 := d0
          rw [Array.getD_eq_getD_getElem?] at e0
          clear hdep hag
          go_simp
          exact hK _ _ (Below.refl _ _) rfl
        · intro z u hz hag hdep
          refine .inl ⟨rfl, fun K hK => ?_⟩
          have d29 : FinOk base k v b pr zs 7 (z.tmps.getD 29 undef) u := hdep { on := 7, ground := .data } (by simp) rfl _ _ rfl rfl
          simp only [FinOk] at d29
          have e29 := d29
          rw [Array.getD_eq_getD_getElem?] at e29
          clear hdep hag
          go_simp
          exact hK _ _ (Below.refl _ _) rfl
        · intro z u hz hag hdep
          refine .inl ⟨rfl, fun K hK => ?_⟩
          have d30 : FinOk base k v b pr zs 8 (z.tmps.getD 30 undef) u := hdep { on := 8, ground := .data } (by simp) rfl _ _ rfl rfl
          simp only [FinOk] at d30
          have e30 := d30
          rw [Array.getD_eq_getD_getElem?] at e30
          clear hdep hag
          go_simp
          exact hK _ _ (Below.refl _ _) rfl
        · intro z u hz hag hdep
          refine .inl ⟨rfl, fun K hK => ?_⟩
          have d31 : FinOk base k v b pr zs 9 (z.tmps.getD 31 undef) u := hdep { on := 9, ground := .data } (by simp) rfl _ _ rfl rfl
          simp only [FinOk] at d31
          have e31 := d31
          rw [Array.getD_eq_getD_getElem?] at e31
          clear hdep hag
          have HL := Lib.hid (list_any k q u (HB2.out.belowAll hz) HQl.out)
          rw [HZs.out] at HL
          have hbu : base ≤ u.heap.size := Nat.le_trans HBw.out hz.size
          have HBu := Lib.hid hbu
          clear hbu
          go_simp
          refine HL.out.mono ?_
          rintro e w' ⟨v', rfl, h1, h2⟩
          exact hK _ _ h2 (own_weaken h1 HBu.out)
        · intro z u hz hag hdep
          refine .inl ⟨rfl, fun K hK => ?_⟩
          have d23 : FinOk base k v b pr zs 1 (z.tmps.getD 23 undef) u := hdep { on := 1, ground := .data } (by simp) rfl _ _ rfl rfl
          simp only [FinOk] at d23
          have e23 := d23
          rw [Array.getD_eq_getD_getElem?] at e23
          have d28 : FinOk base k v b pr zs 6 (z.tmps.getD 28 undef) u := hdep { on := 6, ground := .data } (by simp) rfl _ _ rfl rfl
          simp only [FinOk] at d28
          have e28 := d28
          rw [Array.getD_eq_getD_getElem?] at e28
          have d32 : FinOk base k v b pr zs 10 (z.tmps.getD 32 undef) u := hdep { on := 10, ground := .data } (by simp) rfl _ _ rfl rfl
          simp only [FinOk] at d32
          obtain ⟨nv, hnv⟩ : ∃ nv, z.tmps.getD 32 undef = nv := ⟨_, rfl⟩
          rw [hnv] at d32
          obtain ⟨a, c, rfl, -⟩ := Go.Proofs.YtfapmgecebcfaaaDoor.W.OwnI.shape d32
          have e32 := hnv
          rw [Array.getD_eq_getD_getElem?] at e32
          clear hdep hag
          go_simp
          exact hK _ _ (Below.refl _ _) ⟨_, rfl, d32⟩
        · intro z u hz hag hdep
          refine .inl ⟨rfl, fun K hK => ?_⟩
          have d33 : FinOk base k v b pr zs 11 (z.tmps.getD 33 undef) u := hdep { on := 11, ground := .data } (by simp) rfl _ _ rfl rfl
          simp only [FinOk] at d33
          obtain ⟨nv, d33, hn⟩ := d33
          have e33 := d33
          rw [Array.getD_eq_getD_getElem?] at e33
          clear hdep hag
          go_simp
          exact hK _ _ ((Below.refl _ _).alloc (Nat.le_refl _) _) ⟨nv, _, rfl, World.alloc_heap_new u _, OwnI.alloc hn _⟩
      case hdone =>
        intro z u hu hag hok hno
        have d22 : z.tmps.getD 22 undef = v := hok 0 _ 22 (by decide) rfl rfl
        obtain ⟨nv, g, d34, hg, hn⟩ : ∃ nv g, z.tmps.getD 34 undef = .slice (some ⟨g, 0, none⟩) 1 1 ∧ u.heap[g]? = some (.cells (aArr (cmd b pr zs) nv) 51 (0, 0)) ∧ OwnI base nv zs u := hok 12 _ 34 (by decide) rfl rfl
        have hO4 := HO2.out.belowAll hu
        have hbu : base ≤ u.heap.size := Nat.le_trans hbw2 hu.size
        have HM := Lib.hid hu
        obtain ⟨f, hf, hzz⟩ := Go.Proofs.YtfapmgecebcfaaaDoor.R.agree_frame [22, 23, 24, 25, 26, 27, 28, 29, 30, 31, 32, 33, 34] rfl hag
        have e22 : f 22 = v := (hf 22).trans d22
        have e34 : f 34 = .slice (some ⟨g, 0, none⟩) 1 1 := (hf 34).trans d34
        subst hzz
        have hc : ∀ j x, (aCells (cmd b pr zs, nv))[j]? = some x → u.cell? ⟨g, j, none⟩ = some x := by
          intro j x hx
          simp only [World.cell?, hg]
          simpa [aArr, aCells] using hx
        have HC := Lib.hid hc
        have HO4 := Lib.hid hO4
        have HN := Lib.hid hn
        have HFew : Hid ((acts.length : Int) ≤ 1000000) := Lib.hid (by have := HE.out.few; omega)
        clear hag hok hno hf d22 d34 hc hO4 hn hg hu
        simp only [List.foldl_cons, List.foldl_nil, List.setIfInBounds_toArray, List.set_cons_succ, List.set_cons_zero, List.drop_succ_cons, List.drop_zero]
        refine wpList_append_act rfl _ _ rfl rfl base v acts g (cmd b pr zs, nv) e22 e34 HO4.out HC.out HN.out HFew.out hbu ?_
        intro v' w4 hown4 hgr
        have hb4 : Below base u w4 := (Below.refl base u).grown hgr hbu (fun q hq => HO4.out.ownBlock q hq)
        have HFinal : Hid (OwnA base v' (acts ++ [cmd b pr zs]) w4 ∧ PBlk k q w4 ∧ Kept base k wc w4) := Lib.hid ⟨hown4, (HB2.out.belowAll HM.out).below hb4 HE.out.kb, (Kept.of_below HM.out hbw2).trans (Kept.of_below hb4 (Nat.le_refl _))⟩
        clear hown4 hgr hb4
        go_wp2_with fail
        go_meet
        exact HFinal
  case rest =>
  obtain ⟨hO5, hB5, hK5⟩ := hcut.out
  have HEn := Lib.hid (enter_any k q 0 wc hB5)
  have HO5 := Lib.hid hO5
  have HB5 := Lib.hid hB5
  have HK5 : Hid (Kept base k w wc) := Lib.hid (HK2.out.trans hK5)
  have hbw5 : base ≤ wc.heap.size := Nat.le_trans HE.out.bw HK5.out.size
  clear hO5 hB5 hK5 hcut
  go_wp2_with fail
  refine HEn.out.mono ?_
  rintro e w6 ⟨rfl, hb6, hg6⟩
  have HR : Hid (OwnA base u2 (acts ++ (if WR then [] else [cmd b pr zs])) w6 ∧ PBlk k (fresh 0) w6 ∧ Kept base k w w6) := Lib.hid ⟨HO5.out.turned HB5.out hg6, hb6, HK5.out.trans (Kept.of_grown hg6 hbw5)⟩
  clear hb6 hg6 HEn
  go_wp2
  rw [← HP.out]
  exact ⟨_, rfl, HR.out.1, HR.out.2.1, HR.out.2.2⟩
end Go.Proofs.YtfapmgecebcfaaaDoor.Q
