/- The statements' awake of books. -/
import Derived.Test.YtkggmcnocpgnbaaDoorBAdd
import Derived.Test.YtkggmcnocpgnbaaDoorMerged10
namespace Go.Proofs.YtkggmcnocpgnbaaDoor.K
open Go.RowKit

def awR1 : Ro := ⟨[⟨97, 0, 0⟩, ⟨98, 0, 0⟩], true⟩
def awR2 : Ro := ⟨[⟨99, 0, 0⟩, ⟨32, 0, 0⟩], false⟩
def awB : Bk := ⟨[[(97, 0), (98, 0), (99, 0)]], [(97, 0), (98, 0)]⟩
theorem aw_put1 : putS (W.ofS 98) (putS (W.ofS 97) (blanks (nearN 2) 0) 0 97 0) 1 98 0 = awR1.l := by decide
theorem aw_put2 : putS (W.ofS 99) (blanks (nearN 2) 0) 0 99 0 = awR2.l := by decide
theorem aw_adds : addsB ⟨[], []⟩ [awR1, awR2, awR1] = awB := by
  have g1 : glyphs awR1 = [(97, 0), (98, 0)] := by decide
  have g2 : glyphs awR2 = [(99, 0)] := by decide
  have e1 : addB ⟨[], []⟩ awR1 = ⟨[], [(97, 0), (98, 0)]⟩ := by
    unfold addB
    rw [if_pos (show awR1.wrapped = true from rfl), g1]
    exact cutB_done (by decide)
  have e2 : addB ⟨[], [(97, 0), (98, 0)]⟩ awR2 = ⟨[[(97, 0), (98, 0), (99, 0)]], []⟩ := by
    unfold addB
    rw [if_neg (by decide), g2, cutB_done (by decide)]
    rfl
  have e3 : addB ⟨[[(97, 0), (98, 0), (99, 0)]], []⟩ awR1 = awB := by
    unfold addB
    rw [if_pos (show awR1.wrapped = true from rfl), g1]
    exact cutB_done (by decide)
  unfold addsB
  simp only [List.foldl_cons, List.foldl_nil]
  rw [e1, e2, e3]
structure Aw (b p : Nat) (a3 : Option Addr) (c3 : Nat) (w5 u : World) : Prop where
  bo : Bo b [b] [] ⟨[], []⟩ u
  ro : RoB 27 p (.slice a3 2 c3) true u
  row : RowV .i32 (.agg #[.slice a3 2 c3, .bool true]) awR1 u
  keep : Below w5.heap.size w5 u
theorem Aw.below {b p : Nat} {a3 : Option Addr} {c3 : Nat} {w5 u u' : World} (h : Aw b p a3 c3 w5 u) (hb : Below u.heap.size u u') : Aw b p a3 c3 w5 u' := ⟨h.bo.below hb, h.ro.belowAll hb, h.row.belowAll hb, h.keep.trans (hb.mono h.keep.size)⟩
theorem rows_three {b : Nat} {a3 a4 : Option Addr} {c3 c4 : Nat} (u : World) (hb : Below u.heap.size u (u.alloc (.cells #[.slice a3 2 c3, .bool true, .slice a4 2 c4, .bool false, .slice a3 2 c3, .bool true] 27))) (h3 : RowV .i32 (.agg #[.slice a3 2 c3, .bool true]) awR1 u) (h4 : RowV .i32 (.agg #[.slice a4 2 c4, .bool false]) awR2 u)
    (l3 : ∀ b' o, a3 = some ⟨b', o, none⟩ → b < b') (l4 : ∀ b' o, a4 = some ⟨b', o, none⟩ → b < b') (hbu : b < u.heap.size) : RowsL .i32 [b] (some ⟨u.heap.size, 0, none⟩) 3 3 [awR1, awR2, awR1] (u.alloc (.cells #[.slice a3 2 c3, .bool true, .slice a4 2 c4, .bool false, .slice a3 2 c3, .bool true] 27)) := by
  have o3 : Off [b] ⟨a3, 2, c3, true⟩ := fun _ b' o e hm => by have := l3 b' o e; rw [show b' = b by simpa using hm] at this; omega
  have o4 : Off [b] ⟨a4, 2, c4, false⟩ := fun _ b' o e hm => by have := l4 b' o e; rw [show b' = b by simpa using hm] at this; omega
  refine ⟨⟨[⟨a3, 2, c3, true⟩, ⟨a4, 2, c4, false⟩, ⟨a3, 2, c3, true⟩], ⟨rfl, Nat.le_refl _, by decide, .inr ⟨u.heap.size, 0, rfl, by simp, fun i d hi => ?_⟩⟩, ⟨rfl, fun i d q hd hq => ?_⟩, fun d hd => ?_⟩, (fun e => by cases e), fun _ b' o e hm => by cases e; have := List.mem_singleton.1 hm; omega⟩
  · match i, hi with
    | 0, hi => cases hi; exact ⟨by rw [World.cell?_alloc_new]; rfl, by rw [World.cell?_alloc_new]; rfl⟩
    | 1, hi => cases hi; exact ⟨by rw [World.cell?_alloc_new]; rfl, by rw [World.cell?_alloc_new]; rfl⟩
    | 2, hi => cases hi; exact ⟨by rw [World.cell?_alloc_new]; rfl, by rw [World.cell?_alloc_new]; rfl⟩
    | i + 3, hi => simp at hi
  · match i, hd, hq with
    | 0, hd, hq => cases hd; cases hq; exact h3.belowAll hb
    | 1, hd, hq => cases hd; cases hq; exact h4.belowAll hb
    | 2, hd, hq => cases hd; cases hq; exact h3.belowAll hb
    | i + 3, hd, _ => simp at hd
  · simp only [List.mem_cons, List.not_mem_nil, or_false] at hd
    rcases hd with rfl | rfl | rfl
    · exact o3
    · exact o4
    · exact o3
theorem aw_add {b q : Nat} (u : World) (h : Bo b [b] [] ⟨[], []⟩ u) (hR : RowsL .i32 [b] (some ⟨q, 0, none⟩) 3 3 [awR1, awR2, awR1] u) (hT : S.Tab u) (hM : 1 < b) :
    Calls Tryd.prog 14 #[.pointer (some ⟨b, 0, none⟩), .slice (some ⟨q, 0, none⟩) 3 3] u fun e w' => e = .returned (.int .i64 1) ∧ ∃ M', Bo b M' [] awB w' ∧ KeepB [b] u w' ∧ ∀ p ∈ M', p ∈ [b] ∨ u.heap.size ≤ p := by
  have h9 := badd_any (some ⟨q, 0, none⟩) 3 3 [awR1, awR2, awR1] u h ⟨by decide, fun l hl => by cases hl⟩ (fun g hg => by cases hg) hR (fun r hr c hc => by
    simp only [List.mem_cons, List.not_mem_nil, or_false] at hr
    rcases hr with rfl | rfl | rfl <;> (simp only [awR1, awR2, List.mem_cons, List.not_mem_nil, or_false] at hc; rcases hc with rfl | rfl <;> exact ⟨by decide, by decide⟩)) (fun r hr => by
    simp only [List.mem_cons, List.not_mem_nil, or_false] at hr
    rcases hr with rfl | rfl | rfl <;> decide) (by decide) (by decide) hT (fun hm => by have := List.mem_singleton.1 hm; omega)
  rw [aw_adds] at h9
  exact h9
/-- the region's state -/
def AwS (b p : Nat) (a3 : Option Addr) (c3 : Nat) (rb : Nat) (w w5 : World) : Nat → (Nat → Value) → World → Prop
  | 0, _, u => Aw b p a3 c3 w5 u
  | 1, f, u => Aw b p a3 c3 w5 u ∧ ∃ a c, f 15 = .agg #[.slice a 2 c, .bool false] ∧ CelsIn .i32 a 2 (blanks (nearN 2) 0) u ∧ (a = none → c = 0)
  | 2, f, u => Aw b p a3 c3 w5 u ∧ ∃ a c, f 16 = .agg #[.slice a 2 c, .bool false] ∧ RowV .i32 (.agg #[.slice a 2 c, .bool false]) awR2 u ∧ ∀ b' o, a = some ⟨b', o, none⟩ → b < b'
  | 3, f, u => Aw b p a3 c3 w5 u ∧ ∃ q, f 18 = .slice (some ⟨q, 0, none⟩) 3 3 ∧ RowsL .i32 [b] (some ⟨q, 0, none⟩) 3 3 [awR1, awR2, awR1] u
  | _, _, u => ∃ M', Bo b M' [] awB u ∧ Below rb w u ∧ ∀ p ∈ M', rb ≤ p
section
variable {b p : Nat} {a3 : Option Addr} {c3 rb : Nat} {w w5 u : World} {k : Nat} {f f2 : Nat → Value}
theorem AwS.aw (hk : k ≤ 2) (h : AwS b p a3 c3 rb w w5 k f u) : Aw b p a3 c3 w5 u := by
  match k, hk, h with
  | 0, _, h => exact h
  | 1, _, h => exact h.1
  | 2, _, h => exact h.1
theorem AwS.cong (e1 : k = 1 → f 15 = f2 15) (e2 : k = 2 → f 16 = f2 16) (e3 : k = 3 → f 18 = f2 18) (h : AwS b p a3 c3 rb w w5 k f u) : AwS b p a3 c3 rb w w5 k f2 u := by
  match k, h, e1, e2, e3 with
  | 0, h, _, _, _ => exact h
  | 1, ⟨h, a, c, e, h2⟩, e1, _, _ => exact ⟨h, a, c, by rw [← e1 rfl]; exact e, h2⟩
  | 2, ⟨h, a, c, e, h2⟩, _, e2, _ => exact ⟨h, a, c, by rw [← e2 rfl]; exact e, h2⟩
  | 3, ⟨h, q, e, h2⟩, _, _, e3 => exact ⟨h, q, by rw [← e3 rfl]; exact e, h2⟩
  | _ + 4, h, _, _, _ => exact h
end
def AwOk (b p : Nat) (a3 : Option Addr) (c3 : Nat) : Nat → Value → World → Prop
  | 0, u, _ => u = .pointer (some ⟨b, 0, none⟩)
  | 1, u, _ => u = .agg #[.slice a3 2 c3, .bool true]
  | 2, _, _ => True
  | 3, _, _ => True
  | 4, u, _ => u = .agg #[.slice a3 2 c3, .bool true]
  | 5, _, _ => True
  | 6, u, _ => u = .int .i64 1
  | 7, u, _ => u = .int .i64 1
  | _, _, _ => True
theorem pair_one (u : World) (x s : Int) : PairsIn .i32 (some ⟨u.heap.size, 0, none⟩) 1 1 [(x, s)] (u.alloc (.cells #[.int .i32 x, .int .i64 s] 61)) :=
  ⟨rfl, Nat.le_refl _, by decide, .inr ⟨u.heap.size, 0, rfl, by simp, fun i g hi => by
    match i, hi with
    | 0, hi => cases hi; exact ⟨by rw [World.cell?_alloc_new]; rfl, by rw [World.cell?_alloc_new]; rfl⟩
    | i + 1, hi => simp at hi⟩⟩
set_option maxRecDepth 100000 in
set_option maxHeartbeats 8000000 in
theorem bawake_any (w : World) (hW : W.Tab w) (hT : S.Tab w) : Calls Tryd.prog 11 #[] w fun e w' => e = .returned (.bool true) ∧ Below w.heap.size w w' := by
  obtain ⟨rb, hrb⟩ : ∃ rb, w.heap.size = rb := ⟨_, rfl⟩
  rw [hrb]
  obtain ⟨P, hP⟩ : ∃ P : Ending → World → Prop, (fun e w' => e = .returned (.bool true) ∧ Below rb w w') = P := ⟨_, rfl⟩
  rw [hP]
  have HP := Lib.hid hP
  have HRb := Lib.hid hrb
  have HW := Lib.hid hW
  have HT := Lib.hid hT
  have HN := Lib.hid (bnew_any w)
  have HHf := Lib.hid (S.halfLt hT)
  clear hP hrb hW hT
  go_enter Tryd.func11, Tryd.ntmps11
  go_wp2_with fail
  refine HN.out.mono ?_
  rintro e w1 ⟨b, rfl, hbw, hBo, hb1⟩
  have H1 := Lib.hid (rowBlank_any 2 0 w1)
  have HBo := Lib.hid hBo
  have HBr : Hid (rb ≤ b) := Lib.hid (by rw [← HRb.out]; exact hbw)
  have HB1 : Hid (Below rb w w1) := Lib.hid (by rw [← HRb.out]; exact hb1)
  have HR1 : Hid (rb ≤ w1.heap.size) := Lib.hid (by rw [← HRb.out]; exact hb1.size)
  have HBl := Lib.hid (hBo.lt b (by simp))
  clear hbw hBo hb1 HN
  go_wp2_with fail
  refine H1.out.mono ?_
  rintro e w2 ⟨v1, rfl, hO1, hb2⟩
  obtain ⟨a1, c1, rfl, hi1, -, hn1, -⟩ := hO1.shape
  have hl1 : (blanks (nearN 2) 0).length = 2 := by decide
  rw [hl1] at hi1 ⊢
  have H2 := Lib.hid (rowPut_any a1 2 c1 false _ 0 97 0 w2 (HW.out.belowAll (by rw [HRb.out]; exact HB1.out.trans (hb2.mono HR1.out))) hi1 hn1 (by decide))
  have HB2 : Hid (Below w1.heap.size w1 w2) := Lib.hid hb2
  clear hO1 hb2 hi1 hn1 hl1 H1
  go_wp2_with fail
  refine H2.out.mono ?_
  rintro e w3 ⟨v2, rfl, hO2, hb3⟩
  have HB3 : Hid (Below w1.heap.size w1 w3) := Lib.hid (HB2.out.trans (hb3.mono HB2.out.size))
  obtain ⟨a2, c2, rfl, hi2, -, hn2, -⟩ := hO2.shape
  have hl2 : (putS (W.ofS 97) (blanks (nearN 2) 0) 0 97 0).length = 2 := by rw [put_length]; decide
  rw [hl2] at hi2 ⊢
  have H3 := Lib.hid (rowPut_any a2 2 c2 false _ 1 98 0 w3 (HW.out.belowAll (by rw [HRb.out]; exact HB1.out.trans (HB3.out.mono HR1.out))) hi2 hn2 (by decide))
  rw [aw_put1] at H3
  clear hO2 hb3 hi2 hn2 hl2 H2
  go_wp2_with fail
  refine H3.out.mono ?_
  rintro e w4 ⟨v3, rfl, hO3, hb4⟩
  have HB4 : Hid (Below w1.heap.size w1 w4) := Lib.hid (HB3.out.trans (hb4.mono HB3.out.size))
  obtain ⟨a3, c3, rfl, hi3, hlo3, hn3, hf3, hx3⟩ := hO3.shape
  obtain ⟨p, hp⟩ : ∃ p, w4.heap.size = p := ⟨_, rfl⟩
  obtain ⟨w5, hw5⟩ : ∃ w5, w4.alloc (.cells #[.slice a3 2 c3, .bool true] 27) = w5 := ⟨_, rfl⟩
  have hb5 : Below w4.heap.size w4 w5 := by rw [← hw5]; exact (Below.refl _ _).alloc (Nat.le_refl _) _
  have hro : RoB 27 p (.slice a3 2 c3) true w5 := by rw [← hw5, ← hp]; exact RoB.new _ _ _ _
  have hb15 := HB4.out.trans (hb5.mono HB4.out.size)
  have h0 : Aw b p a3 c3 w5 w5 := ⟨HBo.out.below hb15, hro, ⟨a3, c3, rfl, hi3.belowAll hb5, hn3, hf3, hx3⟩, Below.refl _ _⟩
  have HA3 : Hid (∀ b' o, a3 = some ⟨b', o, none⟩ → b < b') := Lib.hid (fun b' o e => by
    have h1 := (hlo3 b' o e).1
    have h2 := HB3.out.size
    have h3 := HBl.out
    omega)
  have HA0 := Lib.hid h0
  have HB5 : Hid (Below rb w w5) := Lib.hid (HB1.out.trans (hb15.mono HR1.out))
  have HR5 : Hid (rb ≤ w5.heap.size) := Lib.hid (Nat.le_trans HR1.out hb15.size)
  have HT5 : Hid (W.Tab w5) := Lib.hid (HW.out.belowAll (by rw [HRb.out]; exact HB5.out))
  have HS5 : Hid (∀ (u : World), Below w5.heap.size w5 u → S.Tab u) := Lib.hid (fun u hu => S.tab_of (S.tab_of HT.out (by rw [HRb.out]; exact HB5.out)) hu)
  have HBh : Hid (1 < b) := Lib.hid (by have h1 := HHf.out; rw [HRb.out] at h1; have := HBr.out; omega)
  have HW5 := Lib.hid hw5
  have HPp := Lib.hid hp
  clear hO3 hb4 hi3 hlo3 hn3 hf3 hx3 hp hw5 hb5 hro hb15 h0 H3
  go_upto_region 6 with fail
  try simp only [show awR1.l.length = 2 from rfl]
  rw [HW5.out, HPp.out]
  refine Go.Proofs.YtkggmcnocpgnbaaDoor.R.wp_region_due [2, 3, 5, 6] [3, 2, 1, 2, 2, 3, 4, 4] (by kernel_rfl) (AwS b p a3 c3 rb w w5) (fun _ _ => True) (AwOk b p a3 c3) (by rfl) (by kernel_rfl) (by kernel_rfl) (by kernel_rfl) (by kernel_rfl) ?hcong ?hOk ?hop ?hdone ?h0
  case hcong => exact fun k f f2 u hs hst => AwS.cong (fun hk => hs 15 (Go.Proofs.YtkggmcnocpgnbaaDoor.R.mem_slots (by subst hk; kernel_rfl))) (fun hk => hs 16 (Go.Proofs.YtkggmcnocpgnbaaDoor.R.mem_slots (by subst hk; kernel_rfl))) (fun hk => hs 18 (Go.Proofs.YtkggmcnocpgnbaaDoor.R.mem_slots (by subst hk; kernel_rfl))) hst
  case hOk => intro i u w1 w2 h hr; unfold AwOk at h ⊢; split <;> first | exact True.intro | exact h
  case h0 => exact HA0.out.below ((Below.refl _ _).drew)
  case hop =>
    refine ⟨?_, ?_, ?_, ?_, ?_, ?_, ?_, ?_, trivial⟩
    · intro k z v hk hst hag hdep
      refine .inl ⟨rfl, fun K hK => ?_⟩
      have d1 : z.tmps.getD 1 undef = .pointer (some ⟨b, 0, none⟩) := hag.2.2 1 (by kernel_rfl)
      have e1 := d1
      rw [Array.getD_eq_getD_getElem?] at e1
      have HSt := Lib.hid hst
      clear hdep hag hst
      go_simp
      exact hK _ _ trivial rfl HSt.out
    · intro k z v hk hst hag hdep
      refine .inl ⟨rfl, fun K hK => ?_⟩
      have d2 : z.tmps.getD 2 undef = .pointer (some ⟨p, 0, none⟩) := hag.2.2 2 (by kernel_rfl)
      have e2 := d2
      rw [Array.getD_eq_getD_getElem?] at e2
      have h0 := AwS.aw (by have : k ≤ 2 := hk; omega) hst
      have l0 := h0.ro.c0
      have l1 := h0.ro.c1
      have HSt := Lib.hid hst
      clear hdep hag hst
      go_simp
      exact hK _ _ trivial rfl HSt.out
    · intro z v hst hag hdep
      refine ⟨rfl, fun K hK => ?_⟩
      have h0 : Aw b p a3 c3 w5 v := hst
      have HC := Lib.hid (rowBlank_any 2 0 v)
      have hsz : 15 < z.tmps.size := by rw [hag.2.1]; show 15 < 59; decide
      have HSt := Lib.hid h0
      clear hdep hag h0 hst
      go_simp
      refine HC.out.mono ?_
      rintro e w' ⟨v2, rfl, hO, hb⟩
      obtain ⟨a2, c2, rfl, hi, -, hn2, -⟩ := hO.shape
      have hl : (blanks (nearN 2) 0).length = 2 := by decide
      rw [hl] at hi ⊢
      exact hK _ _ trivial True.intro ⟨HSt.out.below hb, a2, c2, Go.Proofs.YtkggmcnocpgnbaaDoor.R.slot_same hsz, hi, hn2⟩
    · intro z v hst hag hdep
      refine ⟨rfl, fun K hK => ?_⟩
      obtain ⟨h0, a2, c2, f15, hi, hn2⟩ := hst
      have d15 : z.tmps.getD 15 undef = .agg #[.slice a2 2 c2, .bool false] := f15
      have e15 := d15
      rw [Array.getD_eq_getD_getElem?] at e15
      have HC := Lib.hid (rowPut_any a2 2 c2 false _ 0 99 0 v (HT5.out.belowAll h0.keep) hi hn2 (by decide))
      rw [aw_put2] at HC
      have hsz : 16 < z.tmps.size := by rw [hag.2.1]; show 16 < 59; decide
      have HSt := Lib.hid h0
      clear hdep hag h0 hi f15
      go_simp
      refine HC.out.mono ?_
      rintro e w' ⟨v2, rfl, hO, hb⟩
      obtain ⟨a4, c4, rfl, hi4, hlo4, hn4, hf4, hx4⟩ := hO.shape
      have hbl := HSt.out.bo.lt b (by simp)
      exact hK _ _ trivial True.intro ⟨HSt.out.below hb, a4, c4, Go.Proofs.YtkggmcnocpgnbaaDoor.R.slot_same hsz, ⟨a4, c4, rfl, hi4, hn4, hf4, hx4⟩, fun b9 o9 e9 => by have := (hlo4 b9 o9 e9).1; omega⟩
    · intro k z v hk hst hag hdep
      refine .inl ⟨rfl, fun K hK => ?_⟩
      have d2 : z.tmps.getD 2 undef = .pointer (some ⟨p, 0, none⟩) := hag.2.2 2 (by kernel_rfl)
      have e2 := d2
      rw [Array.getD_eq_getD_getElem?] at e2
      have h0 := AwS.aw (by have : k ≤ 2 := hk; omega) hst
      have l0 := h0.ro.c0
      have l1 := h0.ro.c1
      have HSt := Lib.hid hst
      clear hdep hag hst
      go_simp
      exact hK _ _ trivial rfl HSt.out
    · intro z v hst hag hdep
      refine ⟨rfl, fun K hK => ?_⟩
      have d14 : z.tmps.getD 14 undef = .agg #[.slice a3 2 c3, .bool true] := hdep { on := 1, ground := .data } (by simp) rfl _ _ rfl rfl
      have e14 := d14
      rw [Array.getD_eq_getD_getElem?] at e14
      have d17 : z.tmps.getD 17 undef = .agg #[.slice a3 2 c3, .bool true] := hdep { on := 4, ground := .data } (by simp) rfl _ _ rfl rfl
      have e17 := d17
      rw [Array.getD_eq_getD_getElem?] at e17
      obtain ⟨h0, a4, c4, f16, hrow, hlt4⟩ := hst
      have d16 : z.tmps.getD 16 undef = .agg #[.slice a4 2 c4, .bool false] := f16
      have e16 := d16
      rw [Array.getD_eq_getD_getElem?] at e16
      have hsz : 18 < z.tmps.size := by rw [hag.2.1]; show 18 < 59; decide
      have HSt := Lib.hid h0
      have HRow := Lib.hid hrow
      have HLt := Lib.hid hlt4
      clear hdep hag h0 f16 hrow hlt4
      go_simp
      have hb : Below v.heap.size v (v.alloc (.cells #[.slice a3 2 c3, .bool true, .slice a4 2 c4, .bool false, .slice a3 2 c3, .bool true] 27)) := (Below.refl _ _).alloc (Nat.le_refl _) _
      have hbl := HSt.out.bo.lt b (by simp)
      exact hK _ _ trivial True.intro ⟨HSt.out.below hb, v.heap.size, Go.Proofs.YtkggmcnocpgnbaaDoor.R.slot_same hsz, rows_three v hb HSt.out.row HRow.out HA3.out HLt.out (by omega)⟩
    · intro z v hst hag hdep
      refine ⟨rfl, fun K hK => ?_⟩
      have d13 : z.tmps.getD 13 undef = .pointer (some ⟨b, 0, none⟩) := hdep { on := 0, ground := .data } (by simp) rfl _ _ rfl rfl
      have e13 := d13
      rw [Array.getD_eq_getD_getElem?] at e13
      obtain ⟨h0, q, f18, hR⟩ := hst
      have d18 : z.tmps.getD 18 undef = .slice (some ⟨q, 0, none⟩) 3 3 := f18
      have e18 := d18
      rw [Array.getD_eq_getD_getElem?] at e18
      have HC := Lib.hid (aw_add v h0.bo hR (HS5.out _ h0.keep) HBh.out)
      have HSt := Lib.hid h0
      clear hdep hag h0 hR f18
      go_simp
      refine HC.out.mono ?_
      rintro e w' ⟨rfl, M9, hB, hkB, hM⟩
      exact hK _ _ trivial rfl ⟨M9, hB, hkB.below (fun i hi => by rw [show i = b by simpa using hi]; exact HBr.out) (HB5.out.trans (HSt.out.keep.mono HR5.out)) (Nat.le_trans HR5.out HSt.out.keep.size), fun p hp => by
      rcases hM p hp with h | h
      · rw [show p = b by simpa using h]; exact HBr.out
      · exact Nat.le_trans (Nat.le_trans HR5.out HSt.out.keep.size) h⟩
    · intro k z v hk hst hag hdep
      refine .inl ⟨rfl, fun K hK => ?_⟩
      have d19 : z.tmps.getD 19 undef = .int .i64 1 := hdep { on := 6, ground := .data } (by simp) rfl _ _ rfl rfl
      have e19 := d19
      rw [Array.getD_eq_getD_getElem?] at e19
      have HSt := Lib.hid hst
      clear hdep hag hst
      go_simp
      exact hK _ _ trivial rfl HSt.out
  case hdone =>
    intro z v hst hag hok
    have hst2 : ∃ M', Bo b M' [] awB v ∧ Below rb w v ∧ ∀ p ∈ M', rb ≤ p := hst
    obtain ⟨M', hB, hbv, hMv⟩ := hst2
    have d3 : z.tmps.getD 3 undef = .int .i64 1 := hok 7 _ 3 rfl rfl
    have HBv := Lib.hid hB
    have HBw := Lib.hid hbv
    have HRv : Hid (rb ≤ v.heap.size) := Lib.hid (by have h1 := hbv.size; have h2 := HRb.out; omega)
    have hl := bline_any 0 [(97, 0), (98, 0), (99, 0)] v hB rfl (by decide) (by decide)
    rw [show ((0 : Nat) : Int) = 0 from rfl] at hl
    have HL := Lib.hid hl
    clear hst hB hbv hMv hl HA0 HBo
    obtain ⟨uu, hu, hzz⟩ := Go.Proofs.YtkggmcnocpgnbaaDoor.R.agree_frame [13, 14, 15, 16, 17, 18, 19, 3] rfl hag
    have e3 := (hu 3).trans d3
    subst hzz
    simp only [List.foldl_cons, List.foldl_nil]
    rw [e3]
    clear e3 d3 hu hag hok
    try dsimp only [Exit.then]
    simp only [List.setIfInBounds_toArray, List.set_cons_succ, List.set_cons_zero]
    generalize uu 13 = u13', uu 14 = u14', uu 15 = u15', uu 16 = u16', uu 17 = u17', uu 18 = u18', uu 19 = u19'
    clear uu
    rename_i K hK
    refine hK _ _ ?_
    go_wp2_with fail
    refine HL.out.mono ?_
    rintro e w6 ⟨v6, rfl, hq6, hb6⟩
    obtain ⟨a6, c6, rfl, hp6, -, -⟩ := hq6.shape
    obtain ⟨g6, o6, rfl, hg6, hA6⟩ := hp6.at_.resolve_left (by intro e; cases e)
    have l2 := (hA6 2 (99, 0) rfl).1
    simp only at l2
    have hB6 := HBv.out.below hb6
    have HBw6 : Hid (Below rb w w6) := Lib.hid (HBw.out.trans (hb6.mono HRv.out))
    have HR6 : Hid (rb ≤ w6.heap.size) := Lib.hid (Nat.le_trans HRv.out hb6.size)
    have hln := blen_any w6 hB6
    rw [show ((awB.L.length : Nat) : Int) = 1 from rfl] at hln
    have HLn := Lib.hid hln
    have HBg := Lib.hid (bbegun_any w6 hB6 (by decide))
    have hfit : (3 : Int) ≤ c6 := by have := hp6.fit; simp at this; omega
    have hl3 : ([(97, 0), (98, 0), (99, 0)] : List (Int × Int)).length = 3 := rfl
    rw [hl3]
    clear hq6 hb6 hp6 hA6 hB6 hln hg6 HL hl3
    go_wp2_with fail
    refine HLn.out.mono ?_
    rintro e w7 ⟨rfl, rfl⟩
    go_wp2_with fail
    refine HBg.out.mono ?_
    rintro e w7 ⟨v7, rfl, hq7, hb7⟩
    obtain ⟨a7, c7, rfl, -⟩ := hq7.shape
    rw [show awB.G.length = 2 from rfl]
    obtain ⟨g8, hg8⟩ : ∃ g, w7.heap.size = g := ⟨_, rfl⟩
    obtain ⟨w8, hw8⟩ : ∃ w8, w7.alloc (.cells #[.int .i32 97, .int .i64 5] 61) = w8 := ⟨_, rfl⟩
    have hp8 := pair_one w7 97 5
    rw [hw8, hg8] at hp8
    have hb8 : Below w7.heap.size w7 w8 := by rw [← hw8]; exact (Below.refl _ _).alloc (Nat.le_refl _) _
    have HPk := Lib.hid (pack_any (some ⟨g8, 0, none⟩) 1 1 [(97, 5)] w8 hp8 (fun g hg => by rw [List.mem_singleton.1 hg]; exact ⟨by decide, by decide⟩) (by decide))
    have HBw8 : Hid (Below rb w w8) := Lib.hid ((HBw6.out.trans (hb7.mono HR6.out)).trans (hb8.mono (Nat.le_trans HR6.out hb7.size)))
    have HR8 : Hid (rb ≤ w8.heap.size) := Lib.hid (Nat.le_trans (Nat.le_trans HR6.out hb7.size) hb8.size)
    have HW8 := Lib.hid hw8
    have HG8 := Lib.hid hg8
    clear hq7 hb7 hg8 hw8 hp8 hb8 HBg HLn
    go_wp2_with fail
    rw [HW8.out, HG8.out]
    refine HPk.out.mono ?_
    rintro e w9 ⟨t, rfl, ht, hb9⟩
    have htl : (t.toList == [1, 97, 5]) = true := by
      have h1 : packG [(97, 5)] = [1, 97, 5] := by
        have e1 : I.digs (I.clipN 1) = [1] := by rw [show I.clipN 1 = 1 by decide, I.digs_small (by decide)]; rfl
        have e2 : I.digs (I.clipN 97) = [97] := by rw [show I.clipN 97 = 97 by decide, I.digs_small (by decide)]; rfl
        have e3 : I.digs (I.clipN 5) = [5] := by rw [show I.clipN 5 = 5 by decide, I.digs_small (by decide)]; rfl
        unfold packG
        show I.digs (I.clipN 1) ++ _ = _
        rw [e1]
        simp only [List.flatMap_cons, List.flatMap_nil, gBytes]
        rw [e2, e3]
        rfl
      rw [ByteArray.toList_eq, ht, h1]
      rfl
    have hend : Hid (P (.returned (.bool true)) w9) := Lib.hid (by rw [← HP.out]; exact ⟨rfl, HBw8.out.trans (hb9.mono HR8.out)⟩)
    clear ht hb9 HPk
    go_wp2_with fail
    exact hend.out
end Go.Proofs.YtkggmcnocpgnbaaDoor.K
