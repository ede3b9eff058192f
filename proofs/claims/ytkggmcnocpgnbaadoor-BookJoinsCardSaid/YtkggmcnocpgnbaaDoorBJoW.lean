/- BookJoins: all lines, and what is begun, are the runes of all rows: the walk. -/
import Derived.Test.YtkggmcnocpgnbaaDoorBAwk
import Derived.Test.YtkggmcnocpgnbaaDoorBRows
import Derived.Test.YtkggmcnocpgnbaaDoorMerged17
import Derived.Lib.QuietBelow
namespace Go.Proofs.YtkggmcnocpgnbaaDoor.K
open Go.RowKit

theorem addsB_all (x : Bk) : ∀ rs : List Ro, allB (addsB x rs) = allB x ++ rs.flatMap glyphs
  | [] => by simp [addsB]
  | r :: rs => by
    show allB (addsB (addB x r) rs) = _
    rw [addsB_all (addB x r) rs, addB_all, List.flatMap_cons, List.append_assoc]
theorem flat_glyphs_len : ∀ (rs : List Ro), (∀ r ∈ rs, r.l.length ≤ 40) → (rs.flatMap glyphs).length ≤ 40 * rs.length
  | [], _ => by simp
  | r :: rs, h => by
    have h1 := flat_glyphs_len rs (fun q hq => h q (List.mem_cons_of_mem _ hq))
    have h2 := glyphs_len r
    have h3 := h r (List.mem_cons_self ..)
    rw [List.flatMap_cons, List.length_append, List.length_cons]
    omega
/-- a book, and runes of our own beside it -/
theorem flatten_take (L : List (List (Int × Int))) (k : Nat) : (L.take k).flatten.length ≤ L.flatten.length := by
  conv => rhs; rw [← List.take_append_drop k L]
  rw [List.flatten_append, List.length_append]
  omega
structure JoF (b : Nat) (w0 : World) (x : Bk) (g : List (Int × Int)) (v : Value) (w : World) : Prop where
  ex : ∃ M, Bo b M v.ownBlock.toList x w ∧ (∀ p ∈ M, p = b ∨ w0.heap.size ≤ p) ∧ ∀ q, v.ownBlock = some q → q ∉ M
  want : OwnQ .i32 61 w0.heap.size v g w
  keep : KeepB [b] w0 w
theorem JoF.below {b : Nat} {w0 : World} {x : Bk} {g : List (Int × Int)} {v : Value} {w w' : World} (h : JoF b w0 x g v w) (hb : Below w.heap.size w w') : JoF b w0 x g v w' := by
  obtain ⟨M, h1, h2, h3⟩ := h.ex
  exact ⟨⟨M, h1.below hb, h2, h3⟩, h.want.below hb, h.keep.trans (KeepB.of_below hb)⟩
theorem JoF.grew {b : Nat} {w0 : World} {x : Bk} {g g' : List (Int × Int)} {v v' : Value} {w w' : World} (h : JoF b w0 x g v w) (hg : GrewQ .i32 61 w0.heap.size v g' w v' w') : JoF b w0 x g' v' w' := by
  obtain ⟨M, h1, h2, h3⟩ := h.ex
  have hk := keepB_of hg.grown
  refine ⟨⟨M, h1.grew hk (fun q hq => ⟨hq, h3 q (by simpa using hq)⟩) _ (fun q hq => ?_) (fun q hq => (hg.own.own q (by simpa using hq)).2.1), h2, fun q hq hm => ?_⟩, hg.own, ?_⟩
  · rcases hg.block q (by simpa using hq) with e | e
    · exact .inl (by rw [e]; simp)
    · exact .inr e
  · rcases hg.block q hq with e | e
    · exact h3 q e hm
    · have := h1.lt q hm
      omega
  · have hs := h.keep.size
    exact ⟨hg.grown.os.trans h.keep.os, hg.grown.tape.trans h.keep.tape, hg.grown.output.trans h.keep.output, Nat.le_trans hs hg.grown.size, fun i hi hn => (hk.block i (Nat.lt_of_lt_of_le hi hs) (fun hm => by
      have := (h.want.own i (by simpa using hm)).1
      omega)).trans (h.keep.block i hi hn)⟩
theorem JoF.added {b : Nat} {w0 : World} {x' : Bk} {g : List (Int × Int)} {v : Value} {w w' : World} {M M' : List Nat} (h : OwnQ .i32 61 w0.heap.size v g w) (hk0 : KeepB [b] w0 w) (h2 : ∀ p ∈ M, p = b ∨ w0.heap.size ≤ p) (h3 : ∀ q, v.ownBlock = some q → q ∉ M)
    (h1 : Bo b M' v.ownBlock.toList x' w') (hk : KeepB M w w') (hM : ∀ p ∈ M', p ∈ M ∨ w.heap.size ≤ p) : JoF b w0 x' g v w' := by
  have hs := hk0.size
  refine ⟨⟨M', h1, fun p hp => ?_, fun q hq hm => ?_⟩, h.keptB hk h3, ?_⟩
  · rcases hM p hp with e | e
    · exact h2 p e
    · exact .inr (Nat.le_trans hs e)
  · rcases hM q hm with e | e
    · exact h3 q hq e
    · have := (h.own q hq).2.1
      omega
  · exact ⟨hk.os.trans hk0.os, hk.tape.trans hk0.tape, hk.output.trans hk0.output, Nat.le_trans hs hk.size, fun i hi hn => (hk.block i (Nat.lt_of_lt_of_le hi hs) (fun hm => by
      rcases h2 i hm with e | e
      · exact hn (by simp [e])
      · omega)).trans (hk0.block i hi hn)⟩
set_option maxRecDepth 100000 in
set_option maxHeartbeats 16000000 in
theorem joins_walk (a1 : Option Addr) (n1 c1 : Nat) (l1 : List Ro) (w : World) (hW : W.Tab w) (hT : S.Tab w) (hA1 : RowsL .i32 [] a1 n1 c1 l1 w) (hR1 : ∀ r ∈ l1, AllC Rng r.l) :
    Calls Tryd.prog 6 #[.slice a1 n1 c1] w fun e w' => e = .returned (.bool true) ∧ Below w.heap.size w w' := by
  obtain ⟨rb, hrb⟩ : ∃ rb, w.heap.size = rb := ⟨_, rfl⟩
  rw [hrb]
  obtain ⟨P, hP⟩ : ∃ P : Ending → World → Prop, (fun e w' => e = .returned (.bool true) ∧ Below rb w w') = P := ⟨_, rfl⟩
  rw [hP]
  have HP := Lib.hid hP
  have HRb := Lib.hid hrb
  have HT := Lib.hid hT
  have HAw := Lib.hid (bawake_any w hW hT)
  have HHf : Hid (1 < rb) := Lib.hid (by rw [← hrb]; exact S.halfLt hT)
  have HA1 := Lib.hid hA1
  have HR1 := Lib.hid hR1
  clear hP hrb hW hT hA1 hR1
  go_enter Tryd.func6, Tryd.ntmps6
  go_upto_region 3 with (go_at_call 11; refine HAw.out.mono ?_; rintro e w1 ⟨rfl, hb1⟩)
  have HB1 : Hid (Below rb w w1 ∧ rb ≤ w1.heap.size) := Lib.hid ⟨by rw [← HRb.out]; exact hb1, by rw [← HRb.out]; exact hb1.size⟩
  have hr := rows12_any a1 n1 c1 l1 20 w1 (HA1.out.below (by rw [HRb.out]; exact HB1.out.1)) (by decide)
  rw [show ((20 : Nat) : Int) = 20 from rfl] at hr
  have HRw := Lib.hid hr
  clear hr hb1 HAw
  go_wp2_with fail
  refine HRw.out.mono ?_
  rintro e w2 ⟨v2, rfl, hg2, hb2⟩
  obtain ⟨rs, hrs⟩ : ∃ rs, (l1.take 20).map cutR = rs := ⟨_, rfl⟩
  rw [hrs] at hg2
  obtain ⟨a2, c2, rfl⟩ := hg2.shape
  have hl1 : rs.length ≤ 20 := by rw [← hrs, List.length_map, List.length_take]; omega
  have hm1 : ∀ r ∈ rs, r.l.length ≤ 40 ∧ AllC Rng r.l := fun r hr => by
    rw [← hrs] at hr
    obtain ⟨q, hq, rfl⟩ := List.mem_map.1 hr
    exact ⟨cutR_len40 q, fun c hc => HR1.out q (List.mem_of_mem_take hq) c (List.mem_of_mem_take hc)⟩
  have HB2 : Hid (Below rb w w2 ∧ rb ≤ w2.heap.size) := Lib.hid ⟨HB1.out.1.trans (hb2.mono HB1.out.2), Nat.le_trans HB1.out.2 hb2.size⟩
  have HG2 := Lib.hid hg2
  have HN := Lib.hid (bnew_any w2)
  obtain ⟨nr, hnr⟩ : ∃ n, rs.length = n := ⟨_, rfl⟩
  rw [hnr] at hl1 ⊢
  have HNr := Lib.hid hnr
  have HM1 := Lib.hid hm1
  have hnrI : (nr : Int) ≤ 20 := by omega
  clear hrs hg2 hb2 hm1 hnr hl1 HRw
  go_wp2_with fail
  refine HN.out.mono ?_
  rintro e w3 ⟨b, rfl, hbw, hBo, hb3⟩
  have hL2 : RowsL .i32 [b] a2 nr c2 rs w2 := by
    have h := HG2.out
    rw [HNr.out] at h
    exact h.rowsL (fun p hp => .inr (by rw [List.mem_singleton.1 hp]; exact hbw))
  have HL3 : Hid (RowsL .i32 [b] a2 nr c2 rs w3) := Lib.hid (hL2.keptB (KeepB.of_below hb3))
  have HBr : Hid (rb ≤ b) := Lib.hid (Nat.le_trans HB2.out.2 hbw)
  have HB3 : Hid (Below rb w w3 ∧ rb ≤ w3.heap.size) := Lib.hid ⟨HB2.out.1.trans (hb3.mono HB2.out.2), Nat.le_trans HB2.out.2 hb3.size⟩
  have HBo := Lib.hid hBo
  have HBlt : Hid (b < w3.heap.size) := Lib.hid (hBo.lt b (List.mem_singleton.2 rfl))
  clear hbw hBo hb3 HN hL2 HG2
  go_wp2_with fail
  go_loopw [4, 21] (fun v i wr => ∃ j : Nat, i = .int .i64 (j : Int) ∧ j ≤ nr ∧ Hid (JoF b w3 (addsB ⟨[], []⟩ (rs.take j)) ((rs.take j).flatMap glyphs) v wr)) (fun _ i _ => nr - (intOf i).toNat)
  case atStart => exact ⟨0, rfl, Nat.zero_le _, Lib.hid ⟨⟨[b], HBo.out, fun p hp => .inl (List.mem_singleton.1 hp), fun q hq => by cases hq⟩, OwnQ.nil _ _ _ _, KeepB.refl _ _⟩⟩
  case round =>
    obtain ⟨j, rfl, hj, HF⟩ := hrel
    obtain ⟨oa, oc, rfl, -⟩ := HF.out.want.shape
    obtain ⟨on, hon⟩ : ∃ n, ((rs.take j).flatMap glyphs).length = n := ⟨_, rfl⟩
    rw [hon] at HF ⊢
    clear hon
    by_cases hlt : j < nr
    · have hd : decide (j < nr) = true := decide_eq_true hlt
      have hjI : (j : Int) < nr := by omega
      have hjl : j < rs.length := by rw [HNr.out]; exact hlt
      obtain ⟨us0, hin, hrv, hof⟩ := HL3.out.ex
      have hju : j < us0.length := by rw [hrv.1]; exact hjl
      obtain ⟨bb, bo, rfl, hbl, hAt⟩ := hin.at_.resolve_left (by intro e; rw [e] at hju; simp at hju)
      have hat := hAt j us0[j] (List.getElem?_eq_getElem hju)
      have hrj := hrv.2 j us0[j] rs[j] (List.getElem?_eq_getElem hju) (List.getElem?_eq_getElem hjl)
      have hoj := hof us0[j] (List.getElem_mem hju)
      have hmj := HM1.out rs[j] (List.getElem_mem hjl)
      have hbm : bb ∉ [b] := HL3.out.off (by omega) bb bo rfl
      have hsn := addsB_snoc ⟨[], []⟩ rs j hjl
      have hfl : (rs.take (j + 1)).flatMap glyphs = (rs.take j).flatMap glyphs ++ glyphs rs[j] := by rw [List.take_succ_eq_append_getElem hjl, List.flatMap_append]; simp
      obtain ⟨⟨ra, rn, rc, rw0⟩, hu⟩ : ∃ u, us0[j] = u := ⟨_, rfl⟩
      obtain ⟨r, hre⟩ : ∃ r, rs[j] = r := ⟨_, rfl⟩
      rw [hu] at hat hrj hoj
      rw [hre] at hrj hmj hsn hfl
      obtain ⟨y, hy⟩ : ∃ y, addsB ⟨[], []⟩ (rs.take j) = y := ⟨_, rfl⟩
      obtain ⟨gs, hgs⟩ : ∃ g, (rs.take j).flatMap glyphs = g := ⟨_, rfl⟩
      have hyok : BkOk y := by rw [← hy]; exact addsB_ok ⟨by decide, fun l hl => by cases hl⟩ _
      have hyg : RngG y.G := by rw [← hy]; exact addsB_rng (fun g hg => by cases hg) (fun q hq => (HM1.out q (List.mem_of_mem_take hq)).2)
      have hyl : y.L.length ≤ 40 := by
        have h1 := addsB_count (x := ⟨[], []⟩) ⟨by decide, fun l hl => by cases hl⟩ (rs.take j) (fun q hq => by have := (HM1.out q (List.mem_of_mem_take hq)).1; omega)
        rw [hy, List.length_take] at h1
        have h2 : (⟨[], []⟩ : Bk).L.length = 0 := rfl
        omega
      have hgl : gs.length ≤ 800 := by
        have h1 := flat_glyphs_len (rs.take j) (fun q hq => (HM1.out q (List.mem_of_mem_take hq)).1)
        rw [hgs, List.length_take] at h1
        omega
      rw [hy] at hsn HF
      rw [hgs] at hfl HF
      have hbw : wr.heap[bb]? = w3.heap[bb]? := HF.out.keep.block bb hbl hbm
      have k0 : wr.cell? ⟨bb, bo + j * 2, none⟩ = some (.slice ra rn rc) := (World.cell?_of_block (a := ⟨bb, bo + j * 2, none⟩) hbw).trans hat.1
      have k1 : wr.cell? ⟨bb, bo + j * 2 + 1, none⟩ = some (.bool rw0) := (World.cell?_of_block (a := ⟨bb, bo + j * 2 + 1, none⟩) hbw).trans hat.2
      have hrw : RowV .i32 (Rv.val ⟨ra, rn, rc, rw0⟩) r wr := hrj.keptB hoj HF.out.keep
      unfold Rv.val at hrw
      simp only at hrw
      have hra : rn ≠ 0 → ∀ b' o, ra = some ⟨b', o, none⟩ → b' ≠ b ∧ b' < w3.heap.size := fun hn b' o e => ⟨fun e2 => hoj hn b' o e (by simp [e2]), hrj.lt hn b' o e⟩
      obtain ⟨p5, hp5⟩ : ∃ p, wr.heap.size = p := ⟨_, rfl⟩
      obtain ⟨w5, hw5⟩ : ∃ w5, wr.alloc (.cells #[.slice ra rn rc, .bool rw0] 27) = w5 := ⟨_, rfl⟩
      have hb5 : Below wr.heap.size wr w5 := by rw [← hw5]; exact (Below.refl _ _).alloc (Nat.le_refl _) _
      have hq5 : w5.heap[p5]? = some (.cells #[.slice ra rn rc, .bool rw0] 27 (0, 0)) := by rw [← hw5, ← hp5]; exact heap_alloc_new _ _
      have hF5 := HF.out.below hb5
      have hrw5 := hrw.belowAll hb5
      have HG := Lib.hid (rowGlyphs_any hrw5 (by have := hmj.1; omega))
      have HP5 : Hid (wr.heap.size = p5 ∧ p5 < w5.heap.size ∧ ∀ q, (Value.slice oa on oc).ownBlock = some q → q ≠ p5) := Lib.hid ⟨hp5, (Array.getElem?_eq_some_iff.1 hq5).1, fun q hq e => by have := (HF.out.want.own q hq).2.1; omega⟩
      have HW5 := Lib.hid hw5
      have HQ5 := Lib.hid hq5
      have HRw5 := Lib.hid hrw5
      have HRa := Lib.hid hra
      have HFl := Lib.hid hfl
      have HSn := Lib.hid hsn
      have HMj := Lib.hid hmj
      have HYok := Lib.hid hyok
      have HYg := Lib.hid hyg
      have HYl := Lib.hid hyl
      have HGl := Lib.hid hgl
      have HJ5 := Lib.hid hF5
      clear hjl hin hrv hof hju hAt hat hrj hoj hmj hbm hsn hfl hu hre hy hgs hyok hyg hyl hgl hbw hrw hra hp5 hw5 hb5 hq5 hF5 hrw5 hbl HF
      go_upto_region 11 with fail
      rw [HW5.out, HP5.out.1]
      clear k0 k1
      have k0 : w5.cell? ⟨p5, 0, none⟩ = some (.slice ra rn rc) := by rw [cell_block HQ5.out]; rfl
      have k1 : w5.cell? ⟨p5, 1, none⟩ = some (.bool rw0) := by rw [cell_block HQ5.out]; rfl
      go_wp2_with fail
      refine HG.out.mono ?_
      rintro e w6 ⟨ga, gn, gc, rfl, hp6, hb6⟩
      clear k0 k1
      have HJ6 := Lib.hid (HJ5.out.below hb6)
      have HPp6 := Lib.hid hp6
      have HB6 := Lib.hid hb6
      have hgn : (glyphs r).length ≤ 40 := Nat.le_trans (glyphs_len r) HMj.out.1
      clear hp6 hb6 HG
      go_wp2_with (at_builtin; refine wpList_append_q gluT rfl _ _ rfl rfl w3.heap.size (.slice oa on oc) gs ga gn gc (glyphs r) rfl rfl HJ6.out.want HPp6.out (by have := HGl.out; omega) (by omega) HJ6.out.keep.size ?_)
      intro v7 w7 hg7
      have hsame : w7.heap[p5]? = some (.cells #[.slice ra rn rc, .bool rw0] 27 (0, 0)) := by
        rw [← HQ5.out, ← HB6.out.block p5 HP5.out.2.1]
        exact hg7.grown.block p5 (Nat.lt_of_lt_of_le HP5.out.2.1 HB6.out.size) (fun e => HP5.out.2.2 p5 e.symm rfl)
      have k0 : w7.cell? ⟨p5, 0, none⟩ = some (.slice ra rn rc) := by rw [cell_block hsame]; rfl
      have k1 : w7.cell? ⟨p5, 1, none⟩ = some (.bool rw0) := by rw [cell_block hsame]; rfl
      have hJ7 := HJ6.out.grew hg7
      have hrw7 : RowV .i32 (.agg #[.slice ra rn rc, .bool rw0]) r w7 := by
        refine RowV.apart9 (u := ⟨ra, rn, rc, rw0⟩) (HRw5.out.belowAll HB6.out) hg7.grown (fun hn b' o e e2 => ?_)
        have h1 := (HRa.out hn b' o e).2
        have h2 := (HJ6.out.want.own b' e2).1
        omega
      obtain ⟨va, vc, rfl, -⟩ := hJ7.want.shape
      obtain ⟨vn, hvn⟩ : ∃ n, (gs ++ glyphs r).length = n := ⟨_, rfl⟩
      rw [hvn] at hJ7 ⊢
      obtain ⟨M, hBo, hMr, hMq⟩ := hJ7.ex
      obtain ⟨p8, hp8⟩ : ∃ p, w7.heap.size = p := ⟨_, rfl⟩
      obtain ⟨w8, hw8⟩ : ∃ w8, w7.alloc (.cells #[.slice ra rn rc, .bool rw0] 27) = w8 := ⟨_, rfl⟩
      have hb8 : Below w7.heap.size w7 w8 := by rw [← hw8]; exact (Below.refl _ _).alloc (Nat.le_refl _) _
      have hR8 : RowsL .i32 M (some ⟨p8, 0, none⟩) 1 1 [r] w8 := by
        rw [← hw8, ← hp8]
        exact rows_one w7 hrw7 (fun hn b' o e hm => by
          have h1 := HRa.out hn b' o e
          rcases hMr b' hm with h2 | h2
          · exact h1.1 h2
          · omega) (fun p hp => hBo.lt p hp)
      have hBw8 : Below rb w w8 := (hJ7.keep.below (fun i hi => by rw [List.mem_singleton.1 hi]; exact HBr.out) HB3.out.1 HB3.out.2).trans (hb8.mono (Nat.le_trans HB3.out.2 hJ7.keep.size))
      have hadd := badd_any (some ⟨p8, 0, none⟩) 1 1 [r] w8 (hBo.below hb8) HYok.out HYg.out hR8 (fun q hq => by rw [List.mem_singleton.1 hq]; exact HMj.out.2) (fun q hq => by rw [List.mem_singleton.1 hq]; have := HMj.out.1; omega) (by have := HYl.out; show _ + 2 * 1 ≤ 800000; omega) (by show 1 ≤ 1000; decide) (S.tab_of HT.out (by rw [HRb.out]; exact hBw8)) (fun hm => by
        have h2 := HHf.out
        have h3 := HBr.out
        have h4 := HB3.out.2
        rcases hMr _ hm with h1 | h1 <;> omega)
      rw [show addsB y [r] = addB y r from rfl] at hadd
      obtain ⟨y2, hy2⟩ : ∃ z, addB y r = z := ⟨_, rfl⟩
      rw [hy2] at hadd
      have HE : ∀ (w9 : World) (M9 : List Nat), Bo b M9 (Value.slice va vn vc).ownBlock.toList y2 w9 → KeepB M w8 w9 → (∀ p ∈ M9, p ∈ M ∨ w8.heap.size ≤ p) → Hid (JoF b w3 (addsB ⟨[], []⟩ (rs.take (j + 1))) ((rs.take (j + 1)).flatMap glyphs) (.slice va vn vc) w9) := fun w9 M9 e1 e2 e3 => Lib.hid (by
        rw [HFl.out, HSn.out, hy2]
        exact JoF.added (hJ7.want.below hb8) (hJ7.keep.trans (KeepB.of_below hb8)) hMr hMq e1 e2 e3)
      have HAdd := Lib.hid hadd
      have HE9 := Lib.hid HE
      have HW8 := Lib.hid hw8
      have HP8 := Lib.hid hp8
      clear hsame hJ7 hrw7 hvn hBo hMr hMq hp8 hw8 hb8 hR8 hBw8 hadd hy2 HE hg7 HPp6 HB6 HJ6 HJ5 HRw5 HRa HQ5 HFl HSn
      go_wp2_with fail
      rw [HW8.out, HP8.out]
      refine HAdd.out.mono ?_
      rintro e w9 ⟨rfl, M9, hB9, hk9, hM9⟩
      have HE := HE9.out w9 M9 hB9 hk9 hM9
      clear hB9 hk9 hM9 HE9 HAdd k0 k1
      go_wp2_with fail
      go_roundw
      case rel => exact ⟨j + 1, by go_num, by omega, HE⟩
      case measure => simp [intOf]; omega
    · obtain rfl : j = nr := by omega
      have hd : decide (j < j) = false := by simp
      have hF := HF.out
      obtain ⟨y, hy⟩ : ∃ y, addsB ⟨[], []⟩ (rs.take j) = y := ⟨_, rfl⟩
      obtain ⟨gs, hgs⟩ : ∃ g, (rs.take j).flatMap glyphs = g := ⟨_, rfl⟩
      rw [hy, hgs] at hF
      have hall : allB y = gs := by rw [← hy, ← hgs, addsB_all]; rfl
      have hgl : gs.length ≤ 800 := by
        have h1 := flat_glyphs_len (rs.take j) (fun q hq => (HM1.out q (List.mem_of_mem_take hq)).1)
        rw [hgs, List.length_take] at h1
        omega
      have hyl : y.L.length ≤ 40 := by
        have h1 := addsB_count (x := ⟨[], []⟩) ⟨by decide, fun l hl => by cases hl⟩ (rs.take j) (fun q hq => by have := (HM1.out q (List.mem_of_mem_take hq)).1; omega)
        rw [hy, List.length_take] at h1
        have h2 : (⟨[], []⟩ : Bk).L.length = 0 := rfl
        omega
      obtain ⟨M, hBo, hMr, hMq⟩ := hF.ex
      have HBo2 := Lib.hid hBo
      have HWa := Lib.hid hF.want
      have HBw := Lib.hid (show Below rb w wr ∧ rb ≤ wr.heap.size from ⟨hF.keep.below (fun i hi => by rw [List.mem_singleton.1 hi]; exact HBr.out) HB3.out.1 HB3.out.2, Nat.le_trans HB3.out.2 hF.keep.size⟩)
      have HAll := Lib.hid hall
      have HGl := Lib.hid hgl
      have HYl := Lib.hid hyl
      have hln := blen_any wr hBo
      obtain ⟨nl, hnl⟩ : ∃ n, y.L.length = n := ⟨_, rfl⟩
      rw [hnl] at hln
      have HLn := Lib.hid hln
      have HNl := Lib.hid hnl
      have hnlI : (nl : Int) ≤ 40 := by omega
      clear hF hy hgs hall hgl hyl hBo hMr hMq hln hnl HF hlt
      go_wp2_with fail
      refine HLn.out.mono ?_
      rintro e w10 ⟨rfl, rfl⟩
      go_wp2_with fail
      obtain ⟨wz, hwz⟩ : ∃ wz, wz = wr := ⟨_, rfl⟩
      subst hwz
      go_loopw [7, 36] (fun v i wr => ∃ k : Nat, i = .int .i64 (k : Int) ∧ k ≤ nl ∧ Hid (Below wz.heap.size wz wr ∧ OwnQ .i32 61 wz.heap.size v ((y.L.take k).flatten) wr)) (fun _ i _ => nl - (intOf i).toNat)
      case atStart => exact ⟨0, rfl, Nat.zero_le _, Lib.hid ⟨Below.refl _ _, OwnQ.nil _ _ _ _⟩⟩
      case round =>
        clear hd
        obtain ⟨k, rfl, hk, HF⟩ := hrel
        obtain ⟨xa, xc, rfl, -⟩ := HF.out.2.shape
        obtain ⟨xn, hxn⟩ : ∃ n, ((y.L.take k).flatten).length = n := ⟨_, rfl⟩
        rw [hxn] at HF ⊢
        by_cases hlt : k < nl
        · have hd : decide (k < nl) = true := decide_eq_true hlt
          have hkI : (k : Int) < nl := by omega
          have hkx : k < y.L.length := by rw [HNl.out]; exact hlt
          obtain ⟨lk, hlk⟩ : ∃ l, y.L[k]? = some l := ⟨_, List.getElem?_eq_getElem hkx⟩
          have hfl : (y.L.take (k + 1)).flatten = (y.L.take k).flatten ++ lk := by
            rw [List.take_add_one, hlk, List.flatten_append]
            simp
          have hle : ((y.L.take k).flatten).length + lk.length ≤ 800 := by
            have h1 := flatten_take y.L (k + 1)
            have h2 := HGl.out
            rw [← HAll.out] at h2
            unfold allB at h2
            rw [List.length_append] at h2
            rw [hfl, List.length_append] at h1
            omega
          have hl := bline_any k lk wr (HBo2.out.below HF.out.1) hlk (by omega) (by have := HYl.out; omega)
          have HL := Lib.hid hl
          have HFl := Lib.hid hfl
          have HLe := Lib.hid hle
          clear hl hkx hlk hfl hle hxn
          go_wp2_with fail
          refine HL.out.mono ?_
          rintro e w11 ⟨v11, rfl, hq11, hb11⟩
          obtain ⟨a11, c11, rfl, hp11, -⟩ := hq11.shape
          obtain ⟨n11, hn11⟩ : ∃ n, lk.length = n := ⟨_, rfl⟩
          rw [hn11] at hp11 ⊢
          have HO := Lib.hid (HF.out.2.below hb11)
          have HPp := Lib.hid hp11
          have HBz := Lib.hid (HF.out.1.trans (hb11.mono HF.out.1.size))
          have HN11 := Lib.hid hn11
          clear hq11 hb11 hp11 hn11 HL HF
          go_wp2_with (at_builtin; refine wpList_append_q gluT rfl _ _ rfl rfl wz.heap.size (.slice xa xn xc) ((y.L.take k).flatten) a11 n11 c11 lk rfl rfl HO.out HPp.out (by have := HLe.out; omega) (by have := HLe.out; omega) HBz.out.size ?_)
          intro v12 w12 hg12
          have HE : Hid (Below wz.heap.size wz w12 ∧ OwnQ .i32 61 wz.heap.size v12 ((y.L.take (k + 1)).flatten) w12) := Lib.hid ⟨HBz.out.grown hg12.grown HBz.out.size (fun q hq => (HO.out.own q hq).1), by rw [HFl.out]; exact hg12.own⟩
          clear hg12 HO HPp HBz HFl HLe hlt
          go_wp2_with fail
          go_roundw
          case rel => exact ⟨k + 1, by go_num, by omega, HE⟩
          case measure => simp [intOf]; omega
        · obtain rfl : k = nl := by omega
          have hd : decide (k < k) = false := by simp
          have hgot := HF.out.2
          rw [List.take_of_length_le (by rw [HNl.out]; exact Nat.le_refl _)] at hgot
          have hfx : y.L.flatten.length = xn := by rw [← hxn, List.take_of_length_le (by rw [HNl.out]; exact Nat.le_refl _)]
          have hbg := bbegun_any wr (HBo2.out.below HF.out.1) (by
            have h2 := HGl.out
            rw [← HAll.out] at h2
            unfold allB at h2
            rw [List.length_append] at h2
            omega)
          have HBg := Lib.hid hbg
          have HGot := Lib.hid hgot
          have HBz := Lib.hid HF.out.1
          have hle : y.L.flatten.length + y.G.length ≤ 800 := by
            have h2 := HGl.out
            rw [← HAll.out] at h2
            unfold allB at h2
            rw [List.length_append] at h2
            exact h2
          have HLe := Lib.hid hle
          clear hbg hgot hle hfx hxn HF hlt
          go_wp2_with fail
          refine HBg.out.mono ?_
          rintro e w13 ⟨v13, rfl, hq13, hb13⟩
          obtain ⟨a13, c13, rfl, hp13, -⟩ := hq13.shape
          obtain ⟨n13, hn13⟩ : ∃ n, y.G.length = n := ⟨_, rfl⟩
          rw [hn13] at hp13 ⊢
          have HO := Lib.hid (HGot.out.below hb13)
          have HPp := Lib.hid hp13
          have HBy := Lib.hid (HBz.out.trans (hb13.mono HBz.out.size))
          clear hq13 hb13 hp13 hn13 HBg HGot HBz
          go_wp2_with (at_builtin; refine wpList_append_q gluT rfl _ _ rfl rfl wz.heap.size (.slice xa xn xc) y.L.flatten a13 n13 c13 y.G rfl rfl HO.out HPp.out (by have := HLe.out; omega) (by have := HLe.out; omega) HBy.out.size ?_)
          intro v14 w14 hg14
          have hB14 : Below wz.heap.size wz w14 := HBy.out.grown hg14.grown HBy.out.size (fun q hq => (HO.out.own q hq).1)
          have hgot := hg14.own
          rw [show y.L.flatten ++ y.G = gs from HAll.out] at hgot
          obtain ⟨ga, gc, rfl, hgi, -⟩ := hgot.shape
          obtain ⟨wa, wc, hwe, hwi, -⟩ := (HWa.out.below hB14).shape
          injection hwe with e1 e2 e3
          subst e1 e2 e3
          obtain ⟨gn, hgn⟩ : ∃ n, gs.length = n := ⟨_, rfl⟩
          have HGn := Lib.hid hgn
          have HGl2 : Hid (gn ≤ 800) := Lib.hid (by rw [← hgn]; exact HGl.out)
          rw [hgn] at hgi hwi ⊢
          have HGi := Lib.hid hgi
          have HWi := Lib.hid hwi
          have HB14 := Lib.hid hB14
          have q0 : ((gn : Int) != (gn : Int)) = false := by simp
          have hgnI : (gn : Int) ≤ 800 := by have := HGl2.out; omega
          clear hB14 hgot hgi hwi hgn hg14 HO HPp HBy hd
          go_wp2_with fail
          obtain ⟨wy, hwy⟩ : ∃ wy, wy = w14 := ⟨_, rfl⟩
          subst hwy
          go_loopw [60] (fun i wr => ∃ t : Nat, i = .int .i64 (t : Int) ∧ t ≤ gn ∧ Hid (Below wy.heap.size wy wr)) (fun i _ => gn - (intOf i).toNat)
          case atStart => exact ⟨0, rfl, Nat.zero_le _, Lib.hid (Below.refl _ _)⟩
          case round =>
            obtain ⟨t, rfl, ht, HF⟩ := hrel
            by_cases hlt : t < gn
            · have hd : decide (t < gn) = true := decide_eq_true hlt
              have htI : (t : Int) < gn := by omega
              have htx : t < gs.length := by rw [HGn.out]; exact hlt
              obtain ⟨b1, o1, rfl, hb1, hA1⟩ := HGi.out.at_.resolve_left (by intro e; rw [e] at htx; simp at htx)
              obtain ⟨b2, o2, rfl, hb2, hA2⟩ := HWi.out.at_.resolve_left (by intro e; rw [e] at htx; simp at htx)
              have hat1 := hA1 t gs[t] (List.getElem?_eq_getElem htx)
              have hat2 := hA2 t gs[t] (List.getElem?_eq_getElem htx)
              obtain ⟨⟨x1, s1⟩, e1⟩ : ∃ g, gs[t] = g := ⟨_, rfl⟩
              rw [e1] at hat1 hat2
              have k0 : wr.cell? ⟨b1, o1 + t * 2, none⟩ = some (.int .i32 x1) := (HF.out.cell (p := ⟨b1, o1 + t * 2, none⟩) hb1).trans hat1.1
              have k1 : wr.cell? ⟨b1, o1 + t * 2 + 1, none⟩ = some (.int .i64 s1) := (HF.out.cell (p := ⟨b1, o1 + t * 2 + 1, none⟩) hb1).trans hat1.2
              have k2 : wr.cell? ⟨b2, o2 + t * 2, none⟩ = some (.int .i32 x1) := (HF.out.cell (p := ⟨b2, o2 + t * 2, none⟩) hb2).trans hat2.1
              have k3 : wr.cell? ⟨b2, o2 + t * 2 + 1, none⟩ = some (.int .i64 s1) := (HF.out.cell (p := ⟨b2, o2 + t * 2 + 1, none⟩) hb2).trans hat2.2
              clear htx hA1 hA2 hat1 hat2 e1 hb1 hb2
              go_upto_region 27 with fail
              have z0 := fun d os => cell_regrown k0 d os
              have z1' := fun d os => cell_regrown k1 d os
              have z2' := fun d os => cell_regrown k2 d os
              have z3 := fun d os => cell_regrown k3 d os
              clear k0 k1 k2 k3
              refine wp_region_quiet_below (by kernel_rfl) (by kernel_rfl) ?_
              repeat (go_big_quiet_step (fail))
              refine wpQuiet_nil ?_
              intro _ hw'
              obtain ⟨⟨dq, osq⟩, hw''⟩ := hw'
              have HE : Hid (Below wy.heap.size wy (Go.Sort.grow (redrawn wr dq) osq)) := Lib.hid (HF.out.trans ((below_regrown _ _ _).mono HF.out.size))
              rw [hw'']
              simp only
              obtain ⟨w9, hw9⟩ : ∃ w9, Go.Sort.grow (redrawn wr dq) osq = w9 := ⟨_, rfl⟩
              rw [hw9] at HE ⊢
              clear hw'' hw9 z0 z1' z2' z3 HF hlt
              go_wp2_with fail
              go_roundw
              case rel => exact ⟨t + 1, by go_num, by omega, HE⟩
              case measure => simp [intOf]; omega
            · obtain rfl : t = gn := by omega
              have hd : decide (t < t) = false := by simp
              have hend : Hid (P (.returned (.bool true)) wr) := Lib.hid (by rw [← HP.out]; exact ⟨rfl, (HBw.out.1.trans (HB14.out.mono HBw.out.2)).trans (HF.out.mono (Nat.le_trans HBw.out.2 HB14.out.size))⟩)
              clear HF hlt
              go_wp2_with fail
              exact hend.out
end Go.Proofs.YtkggmcnocpgnbaaDoor.K
