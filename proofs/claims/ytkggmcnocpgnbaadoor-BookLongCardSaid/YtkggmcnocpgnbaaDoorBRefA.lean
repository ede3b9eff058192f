/- The document's Add: a row to a book. -/
import Derived.Test.YtkggmcnocpgnbaaDoorBSl
import Derived.Test.YtkggmcnocpgnbaaDoorBEnd
import Derived.Test.YtkggmcnocpgnbaaDoorVGlyR
import Derived.Laws.ResultCell
namespace Go.Proofs.YtkggmcnocpgnbaaDoor.K
open Go.RowKit

theorem refRowGlyphs_any {ra : Option Addr} {rn rc : Nat} {rw : Bool} {r : Ro} {w : World} (h : RowV .i64 (.agg #[.slice ra rn rc, .bool rw]) r w) (hn : r.l.length ≤ 1000000) :
    Calls Tryd.prog 51 #[.agg #[.slice ra rn rc, .bool rw]] w (GlyRPost w.heap.size (glyphs r) w) := by
  obtain ⟨rfl, i1, -, e2, e3, e1⟩ := h.of
  exact refGlyphs_any ra rn rc r.wrapped r.l w i1 (by omega) e2 e3
/-- the region's state: what is begun, and a row's runes behind it -/
def RAS (w1 : World) (G gl : List (Int × Int)) : Nat → (Nat → Value) → World → Prop
  | 0, _, u => Below w1.heap.size w1 u
  | 1, f, u => Below w1.heap.size w1 u ∧ ∃ v, f 7 = v ∧ OwnQ .i64 63 w1.heap.size v [] u
  | 2, f, u => Below w1.heap.size w1 u ∧ ∃ v, f 10 = v ∧ OwnQ .i64 63 w1.heap.size v G u
  | 3, f, u => Below w1.heap.size w1 u ∧ (∃ v, f 10 = v ∧ OwnQ .i64 63 w1.heap.size v G u) ∧ ∃ a n c, f 12 = .slice a n c ∧ PairsIn .i64 a n c gl u
  | 4, f, u => Below w1.heap.size w1 u ∧ ∃ v, f 13 = v ∧ OwnQ .i64 63 w1.heap.size v (G ++ gl) u
  | 5, f, u => Below w1.heap.size w1 u ∧ ∃ v, f 5 = v ∧ OwnQ .i64 63 w1.heap.size v (G ++ gl) u
  | _, _, u => Below w1.heap.size w1 u
theorem RAS.base {w1 : World} {G gl : List (Int × Int)} {k : Nat} {f : Nat → Value} {u : World} (h : RAS w1 G gl k f u) : Below w1.heap.size w1 u := by
  match k, h with
  | 0, h => exact h
  | 1, h => exact h.1
  | 2, h => exact h.1
  | 3, h => exact h.1
  | 4, h => exact h.1
  | 5, h => exact h.1
  | _ + 6, h => exact h
theorem RAS.cong {w1 : World} {G gl : List (Int × Int)} {k : Nat} {f f2 : Nat → Value} {u : World} (e1 : k = 1 → f 7 = f2 7) (e2 : k = 2 → f 10 = f2 10) (e3 : k = 3 → f 10 = f2 10) (e4 : k = 3 → f 12 = f2 12) (e5 : k = 4 → f 13 = f2 13) (e6 : k = 5 → f 5 = f2 5) (h : RAS w1 G gl k f u) : RAS w1 G gl k f2 u := by
  match k, h, e1, e2, e3, e4, e5, e6 with
  | 0, h, _, _, _, _, _, _ => exact h
  | 1, ⟨h, v, e, h2⟩, e1, _, _, _, _, _ => exact ⟨h, v, by rw [← e1 rfl]; exact e, h2⟩
  | 2, ⟨h, v, e, h2⟩, _, e2, _, _, _, _ => exact ⟨h, v, by rw [← e2 rfl]; exact e, h2⟩
  | 3, ⟨h, ⟨v, e, h2⟩, a, n, c, e9, h3⟩, _, _, e3, e4, _, _ => exact ⟨h, ⟨v, by rw [← e3 rfl]; exact e, h2⟩, a, n, c, by rw [← e4 rfl]; exact e9, h3⟩
  | 4, ⟨h, v, e, h2⟩, _, _, _, _, e5, _ => exact ⟨h, v, by rw [← e5 rfl]; exact e, h2⟩
  | 5, ⟨h, v, e, h2⟩, _, _, _, _, _, e6 => exact ⟨h, v, by rw [← e6 rfl]; exact e, h2⟩
  | _ + 6, h, _, _, _, _, _, _ => exact h
def RAOk (rb : Nat) (ga : Option Addr) (gn gc : Nat) (ra : Option Addr) (rn rc : Nat) (rw : Bool) : Nat → Value → World → Prop
  | 0, _, _ => True
  | 1, u, _ => u = .pointer (some ⟨rb, 1, none⟩)
  | 2, u, _ => u = .slice ga gn gc
  | 3, _, _ => True
  | 4, u, _ => u = .agg #[.slice ra rn rc, .bool rw]
  | 5, _, _ => True
  | 6, _, _ => True
  | 7, _, _ => True
  | _, _, _ => True
/-- a document's book, apart from blocks -/
def RefB (X : List Nat) (v : Value) (x : Bk) (w : World) : Prop := ∃ la ln lc ga gn gc, v = .agg #[.slice la ln lc, .slice ga gn gc] ∧ LinO X la ln lc x.L w ∧ PairsIn .i64 ga gn gc x.G w ∧ (gn ≠ 0 → ∀ p o, ga = some ⟨p, o, none⟩ → p ∉ X)
theorem RefB.nil (X : List Nat) (w : World) : RefB X (.agg #[.slice none 0 0, .slice none 0 0]) ⟨[], []⟩ w := ⟨_, _, _, _, _, _, rfl, LinO.nil X w, ⟨rfl, Nat.le_refl _, by decide, .inl rfl⟩, fun h => absurd rfl h⟩
theorem RefB.kept {X Y M : List Nat} {v : Value} {x : Bk} {w w' : World} (h : RefB X v x w) (hM : ∀ p ∈ M, p ∈ X) (hk : KeepB M w w') (hY : ∀ p ∈ Y, p ∈ X ∨ w.heap.size ≤ p) : RefB Y v x w' := by
  obtain ⟨la, ln, lc, ga, gn, gc, e, h1, h2, h3⟩ := h
  refine ⟨la, ln, lc, ga, gn, gc, e, h1.kept hM hk hY, h2.keptN (fun hn p o e hm => h3 hn p o e (hM p hm)) hk, fun hn p o e hm => ?_⟩
  rcases hY p hm with h5 | h5
  · exact h3 hn p o e h5
  · have := h2.lt hn p o e
    omega
theorem RefB.below {X : List Nat} {v : Value} {x : Bk} {w w' : World} (h : RefB X v x w) (hb : Below w.heap.size w w') : RefB X v x w' := h.kept (M := []) (fun p hp => by cases hp) (KeepB.of_below hb) (fun p hp => .inl hp)
def sliceLen (v : Value) : Nat := match v with
  | .slice _ n _ => n
  | _ => 0
set_option maxRecDepth 100000 in
set_option maxHeartbeats 16000000 in
theorem refAdd_any (X : List Nat) (x : Bk) (la : Option Addr) (ln lc : Nat) (ga : Option Addr) (gn gc : Nat) (ra : Option Addr) (rn rc : Nat) (rw : Bool) (r : Ro) (w : World) (hX : ∀ p ∈ X, p < w.heap.size) (hL : LinO X la ln lc x.L w) (hG : PairsIn .i64 ga gn gc x.G w) (hR : RowV .i64 (.agg #[.slice ra rn rc, .bool rw]) r w) (hxl : x.L.length ≤ 10000) (hxg : x.G.length ≤ 1024) (hrl : r.l.length ≤ 1024) :
    Calls Tryd.prog 15 #[.agg #[.slice la ln lc, .slice ga gn gc], .agg #[.slice ra rn rc, .bool rw]] w fun e w' => ∃ v, e = .returned v ∧ RefB X v (addB x r) w' ∧ Below w.heap.size w w' := by
  obtain ⟨rb, hrb⟩ : ∃ rb, w.heap.size = rb := ⟨_, rfl⟩
  rw [hrb]
  obtain ⟨P, hP⟩ : ∃ P : Ending → World → Prop, (fun e w' => ∃ v, e = .returned v ∧ RefB X v (addB x r) w' ∧ Below rb w w') = P := ⟨_, rfl⟩
  rw [hP]
  have HP := Lib.hid hP
  have HXl : Hid (∀ p ∈ X, p < rb) := Lib.hid (by rw [← hrb]; exact hX)
  have HRw : Hid (rw = r.wrapped) := Lib.hid hR.of.1
  obtain ⟨L, hLx⟩ : ∃ L, x.L = L := ⟨_, rfl⟩
  obtain ⟨G, hGx⟩ : ∃ G, x.G = G := ⟨_, rfl⟩
  rw [hLx] at hL hxl
  rw [hGx] at hG hxg
  obtain ⟨w1, hw1⟩ : ∃ w1, ((w.alloc (.cells #[.slice la ln lc, .slice ga gn gc] 33)).alloc (.cells #[.slice ra rn rc, .bool rw] 38)).alloc (.cells #[.slice none 0 0, .slice none 0 0] 33) = w1 := ⟨_, rfl⟩
  have hb1 : Below rb w w1 := by rw [← hw1, ← hrb]; exact (((Below.refl _ _).alloc (Nat.le_refl _) _).alloc (by rw [World.size_alloc]; omega) _).alloc (by rw [World.size_alloc, World.size_alloc]; omega) _
  have hs1 : w1.heap.size = rb + 3 := by rw [← hw1, World.size_alloc, World.size_alloc, World.size_alloc, hrb]
  have q2 : w1.heap[rb]? = some (.cells #[.slice la ln lc, .slice ga gn gc] 33 (0, 0)) := by
    rw [← hw1, Below.heap_alloc _ _ _ (by rw [World.size_alloc, World.size_alloc]; omega), Below.heap_alloc _ _ _ (by rw [World.size_alloc]; omega), ← hrb]
    exact heap_alloc_new w _
  have q3 : w1.heap[rb + 1]? = some (.cells #[.slice ra rn rc, .bool rw] 38 (0, 0)) := by
    rw [← hw1, Below.heap_alloc _ _ _ (by rw [World.size_alloc, World.size_alloc]; omega), ← hrb, ← World.size_alloc w (.cells #[.slice la ln lc, .slice ga gn gc] 33)]
    exact heap_alloc_new _ _
  have q4 : w1.heap[rb + 2]? = some (.cells #[.slice none 0 0, .slice none 0 0] 33 (0, 0)) := by
    have h := heap_alloc_new ((w.alloc (.cells #[.slice la ln lc, .slice ga gn gc] 33)).alloc (.cells #[.slice ra rn rc, .bool rw] 38)) (.cells #[.slice none 0 0, .slice none 0 0] 33)
    rw [World.size_alloc, World.size_alloc, hrb, hw1] at h
    exact h
  have HC : Hid (w1.cell? ⟨rb, 0, none⟩ = some (.slice la ln lc) ∧ w1.cell? ⟨rb, 1, none⟩ = some (.slice ga gn gc) ∧ w1.cell? ⟨rb + 1, 0, none⟩ = some (.slice ra rn rc) ∧ w1.cell? ⟨rb + 1, 1, none⟩ = some (.bool rw)) := Lib.hid ⟨by rw [cell_block q2]; rfl, by rw [cell_block q2]; rfl, by rw [cell_block q3]; rfl, by rw [cell_block q3]; rfl⟩
  have hrow := hR.belowAll (by rw [hrb]; exact hb1)
  have HRv := Lib.hid hrow
  have HG := Lib.hid (hG.belowAll (by rw [hrb]; exact hb1))
  have HL0 : Hid (∃ us, SvsIn la ln lc us w1 ∧ SvsV us L w1 ∧ ∀ u ∈ us, u.n ≠ 0 → ∀ p o, u.a = some ⟨p, o, none⟩ → p < rb ∧ p ∉ X) := Lib.hid (by
    obtain ⟨us, h1, h2, h3, -⟩ := hL
    exact ⟨us, h1.belowAll (by rw [hrb]; exact hb1), h2.belowAll (by rw [hrb]; exact hb1), fun u hu hn p o e => ⟨by rw [← hrb]; exact h2.lt u hu hn p o e, h3 u hu hn p o e⟩⟩)
  have HS1 : Hid (rb < w1.heap.size ∧ rb + 1 < w1.heap.size) := Lib.hid ⟨by omega, by omega⟩
  have HSz := Lib.hid hs1
  have HGl := Lib.hid hxg
  have HLl := Lib.hid hxl
  have HRl := Lib.hid hrl
  have HRg : Hid ((glyphs r).length ≤ 1024) := Lib.hid (Nat.le_trans (glyphs_len r) hrl)
  have HQ4 := Lib.hid q4
  have HB1 := Lib.hid hb1
  have HW1 := Lib.hid hw1
  have HRb := Lib.hid hrb
  have HX : Hid (x = ⟨L, G⟩) := Lib.hid (by rw [← hLx, ← hGx])
  clear hP hX hL hG hR hxl hxg hrl hw1 hb1 hs1 q2 q3 q4 hrow hrb hLx hGx
  go_enter Tryd.func15, Tryd.ntmps15
  go_upto_region 1 with fail
  rw [HW1.out, HRb.out]
  refine Go.Proofs.YtkggmcnocpgnbaaDoor.R.wp_region_due [0, 3, 5, 6, 7] [1, 1, 1, 2, 2, 3, 4, 5] (by kernel_rfl) (RAS w1 G (glyphs r)) (fun _ _ => True) (RAOk rb ga gn gc ra rn rc rw) (by rfl) (by kernel_rfl) (by kernel_rfl) (by kernel_rfl) (by kernel_rfl) ?hcong ?hOk ?hop ?hdone ?h0
  case hcong => exact fun k f f2 u hs hst => RAS.cong (fun hk => hs 7 (Go.Proofs.YtkggmcnocpgnbaaDoor.R.mem_slots (by subst hk; kernel_rfl))) (fun hk => hs 10 (Go.Proofs.YtkggmcnocpgnbaaDoor.R.mem_slots (by subst hk; kernel_rfl))) (fun hk => hs 10 (Go.Proofs.YtkggmcnocpgnbaaDoor.R.mem_slots (by subst hk; kernel_rfl))) (fun hk => hs 12 (Go.Proofs.YtkggmcnocpgnbaaDoor.R.mem_slots (by subst hk; kernel_rfl))) (fun hk => hs 13 (Go.Proofs.YtkggmcnocpgnbaaDoor.R.mem_slots (by subst hk; kernel_rfl))) (fun hk => hs 5 (Go.Proofs.YtkggmcnocpgnbaaDoor.R.mem_slots (by subst hk; kernel_rfl))) hst
  case hOk => intro i u w1 w2 h hr; unfold RAOk at h ⊢; split <;> first | exact True.intro | exact h
  case h0 => exact (Below.refl _ _).drew
  case hop =>
    refine ⟨?_, ?_, ?_, ?_, ?_, ?_, ?_, ?_, trivial⟩
    · intro z v hst hag hdep
      refine ⟨rfl, fun K hK => ?_⟩
      have h0 : Below w1.heap.size w1 v := hst
      have hsz : 7 < z.tmps.size := by rw [hag.2.1]; show 7 < 39; decide
      have HSt := Lib.hid h0
      clear hdep hag h0 hst
      go_simp
      exact hK _ _ trivial True.intro ⟨HSt.out.trans (((Below.refl _ _).alloc (Nat.le_refl _) _).mono HSt.out.size), _, Go.Proofs.YtkggmcnocpgnbaaDoor.R.slot_same hsz, (OwnP.lit .i64 _ v w1.heap.size HSt.out.size).toQ⟩
    · intro k z v hk hst hag hdep
      refine .inl ⟨rfl, fun K hK => ?_⟩
      have d2 : z.tmps.getD 2 undef = .pointer (some ⟨rb, 0, none⟩) := hag.2.2 2 (by kernel_rfl)
      have e2 := d2
      rw [Array.getD_eq_getD_getElem?] at e2
      have HSt := Lib.hid hst
      clear hdep hag hst
      go_simp
      exact hK _ _ trivial rfl HSt.out
    · intro k z v hk hst hag hdep
      refine .inl ⟨rfl, fun K hK => ?_⟩
      have d8 : z.tmps.getD 8 undef = .pointer (some ⟨rb, 1, none⟩) := hdep { on := 1, ground := .data } (by simp) rfl _ _ rfl rfl
      have e8 := d8
      rw [Array.getD_eq_getD_getElem?] at e8
      have h0 := RAS.base hst
      have l0 := (h0.cell (p := ⟨rb, 1, none⟩) HS1.out.1).trans HC.out.2.1
      have HSt := Lib.hid hst
      clear hdep hag hst
      go_simp
      exact hK _ _ trivial rfl HSt.out
    · intro z v hst hag hdep
      refine ⟨rfl, fun K hK => ?_⟩
      have d9 : z.tmps.getD 9 undef = .slice ga gn gc := hdep { on := 2, ground := .data } (by simp) rfl _ _ rfl rfl
      have e9 := d9
      rw [Array.getD_eq_getD_getElem?] at e9
      obtain ⟨h0, v7, f7, h7⟩ := hst
      have d7 : z.tmps.getD 7 undef = v7 := f7
      have hsz : 10 < z.tmps.size := by rw [hag.2.1]; show 10 < 39; decide
      have HSt := Lib.hid h0
      have H7 := Lib.hid h7
      clear hdep hag h0 h7 f7
      refine wp_append_q lineT _ _ rfl rfl w1.heap.size v7 [] ga gn gc G d7 d9 H7.out (HG.out.belowAll HSt.out) (by decide) (by have := HGl.out; omega) HSt.out.size ?_
      intro v' w' k1
      exact hK _ _ trivial True.intro ⟨HSt.out.grown k1.grown HSt.out.size (fun q hq => (H7.out.own q hq).1), v', Go.Proofs.YtkggmcnocpgnbaaDoor.R.slot_same hsz, by simpa using k1.own⟩
    · intro k z v hk hst hag hdep
      refine .inl ⟨rfl, fun K hK => ?_⟩
      have d3 : z.tmps.getD 3 undef = .pointer (some ⟨rb + 1, 0, none⟩) := hag.2.2 3 (by kernel_rfl)
      have e3 := d3
      rw [Array.getD_eq_getD_getElem?] at e3
      have h0 := RAS.base hst
      have l0 := (h0.cell (p := ⟨rb + 1, 0, none⟩) HS1.out.2).trans HC.out.2.2.1
      have l1 := (h0.cell (p := ⟨rb + 1, 1, none⟩) HS1.out.2).trans HC.out.2.2.2
      have HSt := Lib.hid hst
      clear hdep hag hst
      go_simp
      exact hK _ _ trivial rfl HSt.out
    · intro z v hst hag hdep
      refine ⟨rfl, fun K hK => ?_⟩
      have d11 : z.tmps.getD 11 undef = .agg #[.slice ra rn rc, .bool rw] := hdep { on := 4, ground := .data } (by simp) rfl _ _ rfl rfl
      have e11 := d11
      rw [Array.getD_eq_getD_getElem?] at e11
      obtain ⟨h0, v10, f10, h10⟩ := hst
      have hsz : 12 < z.tmps.size := by rw [hag.2.1]; show 12 < 39; decide
      have HCl := Lib.hid (refRowGlyphs_any (HRv.out.belowAll h0) (by have := HRl.out; omega))
      have HSt := Lib.hid h0
      have H10 := Lib.hid h10
      clear hdep hag h0 h10
      go_simp
      refine HCl.out.mono ?_
      rintro e w' ⟨a2, n2, c2, rfl, hp, hb⟩
      exact hK _ _ trivial True.intro ⟨HSt.out.trans (hb.mono HSt.out.size), ⟨v10, (Go.Proofs.YtkggmcnocpgnbaaDoor.R.slot_put (by decide)).trans f10, H10.out.below hb⟩, a2, n2, c2, Go.Proofs.YtkggmcnocpgnbaaDoor.R.slot_same hsz, hp⟩
    · intro z v hst hag hdep
      refine ⟨rfl, fun K hK => ?_⟩
      obtain ⟨h0, ⟨v10, f10, h10⟩, a2, n2, c2, f12, h12⟩ := hst
      have d10 : z.tmps.getD 10 undef = v10 := f10
      have d12 : z.tmps.getD 12 undef = .slice a2 n2 c2 := f12
      have hsz : 13 < z.tmps.size := by rw [hag.2.1]; show 13 < 39; decide
      have HSt := Lib.hid h0
      have H10 := Lib.hid h10
      have H12 := Lib.hid h12
      clear hdep hag h0 h10 h12 f10 f12
      refine wp_append_q2 lineT refGluT.slice _ _ rfl rfl w1.heap.size v10 G a2 n2 c2 (glyphs r) d10 d12 H10.out H12.out (by have := HGl.out; omega) (by have := HRg.out; omega) HSt.out.size ?_
      intro v' w' k1
      exact hK _ _ trivial True.intro ⟨HSt.out.grown k1.grown HSt.out.size (fun q hq => (H10.out.own q hq).1), v', Go.Proofs.YtkggmcnocpgnbaaDoor.R.slot_same hsz, k1.own⟩
    · intro z v hst hag hdep
      refine ⟨rfl, fun K hK => ?_⟩
      obtain ⟨h0, v13, f13, h13⟩ := hst
      have d13 : z.tmps.getD 13 undef = v13 := f13
      have e13 := d13
      rw [Array.getD_eq_getD_getElem?] at e13
      have hsz : 5 < z.tmps.size := by rw [hag.2.1]; show 5 < 39; decide
      have HSt := Lib.hid h0
      have H13 := Lib.hid h13
      clear hdep hag h0 h13 f13
      go_simp
      exact hK _ _ trivial True.intro ⟨HSt.out, v13, Go.Proofs.YtkggmcnocpgnbaaDoor.R.slot_same hsz, H13.out⟩
  case hdone =>
    intro z v hst hag hok
    obtain ⟨hB, v5, f5, hO⟩ := hst
    obtain ⟨aa, ac, rfl, -⟩ := hO.shape
    obtain ⟨an, han⟩ : ∃ n, (G ++ glyphs r).length = n := ⟨_, rfl⟩
    rw [han] at hO f5
    have d5 : z.tmps.getD 5 undef = .slice aa an ac := f5
    have HB := Lib.hid hB
    have HO := Lib.hid hO
    clear hB f5 hO
    obtain ⟨uu, hu, hzz⟩ := Go.Proofs.YtkggmcnocpgnbaaDoor.R.agree_frame [7, 8, 9, 10, 11, 12, 13, 5] rfl hag
    have e5 := (hu 5).trans d5
    subst hzz
    simp only [List.foldl_cons, List.foldl_nil]
    rw [e5]
    clear e5 d5 hu hag hok
    try dsimp only [Exit.then]
    simp only [List.setIfInBounds_toArray, List.set_cons_succ, List.set_cons_zero]
    generalize uu 7 = u7', uu 8 = u8', uu 9 = u9', uu 10 = u10', uu 11 = u11', uu 12 = u12', uu 13 = u13'
    clear uu
    rename_i K hK
    refine hK _ _ ?_
    have HAn := Lib.hid han
    have hcx : cutB ⟨L, G ++ glyphs r⟩ = cutB ⟨L, G ++ glyphs r⟩ := rfl
    obtain ⟨s1, hs1⟩ : ∃ s, v.heap.size = s := ⟨_, rfl⟩
    obtain ⟨w5, hw5⟩ : ∃ w5, v.alloc (.cells #[] 31) = w5 := ⟨_, rfl⟩
    have hb5 : Below v.heap.size v w5 := by rw [← hw5]; exact (Below.refl _ _).alloc (Nat.le_refl _) _
    have hlit : OwnS s1 (.slice (some ⟨s1, 0, none⟩) 0 0) [] w5 := by
      have h := OwnS.lit v s1 (by rw [hs1]; exact Nat.le_refl _)
      rw [hs1, hw5] at h
      exact h
    have hB5 : Below w1.heap.size w1 w5 := HB.out.trans (hb5.mono HB.out.size)
    have k0 : w5.cell? ⟨rb, 0, none⟩ = some (.slice la ln lc) := (hB5.cell (p := ⟨rb, 0, none⟩) HS1.out.1).trans HC.out.1
    have HB5 := Lib.hid hB5
    have HLit := Lib.hid hlit
    have HW5 := Lib.hid hw5
    have HSs := Lib.hid hs1
    have HS5 : Hid (s1 ≤ w5.heap.size ∧ w1.heap.size ≤ s1 ∧ Below s1 v w5) := Lib.hid ⟨by rw [← hs1]; exact hb5.size, by rw [← hs1]; exact HB.out.size, by rw [← hs1]; exact hb5⟩
    obtain ⟨us, hus0, huv0, hul0⟩ := HL0.out
    have HUl0 := Lib.hid hul0
    have hus := hus0.belowAll hB5
    have huv := huv0.belowAll hB5
    have HUs := Lib.hid hus
    have HUv := Lib.hid huv
    have hul : us.length ≤ 10000 := by rw [huv.1]; exact HLl.out
    have HUl := Lib.hid hul
    have HUo : Hid (∀ u ∈ us, u.n ≠ 0 → ∀ p o, u.a = some ⟨p, o, none⟩ → p < s1 ∧ p ∉ (rb + 2) :: X) := Lib.hid (fun u hu hn p o e => by
      have h1 := HUl0.out u hu hn p o e
      have h2 := HS5.out.2.1
      have h3 := HS1.out.1
      exact ⟨by omega, fun hm => by
        rcases List.mem_cons.1 hm with h4 | h4
        · omega
        · exact h1.2 h4⟩)
    have HOq : Hid (∀ q, (Value.slice aa an ac).ownBlock = some q → q < s1) := Lib.hid (fun q hq => by rw [← HSs.out]; exact (HO.out.own q hq).2.1)
    clear hcx hs1 hw5 hb5 hlit hB5 hus huv hus0 huv0 hul0 hul han k0
    have k0 : (v.alloc (.cells #[] 31)).cell? ⟨rb, 0, none⟩ = some (.slice la ln lc) := by rw [HW5.out]; exact (HB5.out.cell (p := ⟨rb, 0, none⟩) HS1.out.1).trans HC.out.1
    go_wp2_with (at_builtin; (try rw [HW5.out, HSs.out]); refine wpList_append_svs rfl _ _ rfl rfl s1 (.slice (some ⟨s1, 0, none⟩) 0 0) [] la ln lc us rfl rfl HLit.out HUs.out (by decide) (by have := HUl.out; omega) HS5.out.1 ?_)
    intro v6 w6 hO6 hg6
    have hb6 : Below s1 w5 w6 := (Below.refl _ _).grown hg6 HS5.out.1 (fun q hq => (HLit.out.ownBlock q hq).1)
    have HR6 : Hid (RefL s1 ((rb + 2) :: X) v6 L w6) := Lib.hid ⟨us, by simpa using hO6, ⟨HUv.out.1, fun i d q hd hq => (HUv.out.2 i d q hd hq).oldKept (fun hn p o e => (HUo.out d (List.mem_of_getElem? hd) hn p o e).1) hb6⟩, HUo.out⟩
    have HB6 : Hid (Below w1.heap.size w1 w6 ∧ Below s1 v w6) := Lib.hid ⟨HB5.out.trans (hb6.mono HS5.out.2.1), HS5.out.2.2.trans hb6⟩
    clear hO6 hg6 hb6 k0
    go_wp2_with fail
    go_loopw [5, 6] (fun va vl wr => Hid (∃ y : Bk, cutB y = cutB ⟨L, G ++ glyphs r⟩ ∧ y.G.length + y.L.length ≤ 20000 ∧ OwnQ .i64 63 w1.heap.size va y.G wr ∧ (∀ q, va.ownBlock = some q → q < s1) ∧ RefL s1 ((rb + 2) :: X) vl y.L wr ∧ Below w1.heap.size w1 wr ∧ Below s1 v wr)) (fun va _ _ => sliceLen va)
    case atStart => exact Lib.hid ⟨⟨L, G ++ glyphs r⟩, rfl, by show (G ++ glyphs r).length + L.length ≤ 20000; rw [List.length_append]; have h1 := HGl.out; have h2 := HRg.out; have h3 := HLl.out; omega, HO.out.oldKept HOq.out HB6.out.2, HOq.out, HR6.out, HB6.out.1, HB6.out.2⟩
    case round =>
      obtain ⟨y, hcy, hyl, hO, hq, hRl, hB, hBv⟩ := hrel.out
      obtain ⟨ya, yc, rfl, hp, -⟩ := hO.shape
      obtain ⟨yn, hyn⟩ : ∃ n, y.G.length = n := ⟨_, rfl⟩
      rw [hyn] at hO hq hp hyl ⊢
      have hXs : ∀ p ∈ (rb + 2) :: X, p < s1 := fun p hp => by
        have h1 := HS5.out.2.1
        have h2 := HSz.out
        rcases List.mem_cons.1 hp with h5 | h5
        · omega
        · have := HXl.out p h5; omega
      obtain ⟨va, vc, rfl, hlin⟩ := hRl.shape hXs
      have HXs := Lib.hid hXs
      clear hXs
      obtain ⟨vn, hvn⟩ : ∃ n, y.L.length = n := ⟨_, rfl⟩
      rw [hvn] at hRl hlin hyl ⊢
      have hfit := hp.fit
      have htop := hp.top
      by_cases hge : 1024 ≤ yn
      · have hd1 : decide ((yn : Int) ≥ 1024) = true := decide_eq_true (by omega)
        have hd2 : decide (1024 ≤ (yn : Int)) = true := decide_eq_true (by omega)
        have hkg : (1024 : Int) ≤ yc := by omega
        obtain ⟨us2, hus2, huv2, huo2⟩ := hRl
        obtain ⟨w7, hw7⟩ : ∃ w7, wr.alloc (.cells #[.slice ya 1024 yc] 31) = w7 := ⟨_, rfl⟩
        obtain ⟨p7, hp7⟩ : ∃ p, wr.heap.size = p := ⟨_, rfl⟩
        have hb7 : Below wr.heap.size wr w7 := by rw [← hw7]; exact (Below.refl _ _).alloc (Nat.le_refl _) _
        have hone : SvsIn (some ⟨p7, 0, none⟩) 1 1 [⟨ya, 1024, yc⟩] w7 := by
          rw [← hw7, ← hp7]
          exact svs_one wr ⟨ya, 1024, yc⟩
        have H2 := Lib.hid (hus2.belowAll hb7)
        have HV2 := Lib.hid (huv2.belowAll hb7)
        have HO2 := Lib.hid huo2
        have HOne := Lib.hid hone
        have HPt : Hid (PairsIn .i64 ya 1024 yc (y.G.take 1024) w7) := Lib.hid ((hp.take 1024 hge).belowAll hb7)
        have HQ : Hid (∀ q, (Value.slice ya yn yc).ownBlock = some q → q < s1) := Lib.hid hq
        have HB7 : Hid (Below w1.heap.size w1 w7 ∧ Below s1 v w7 ∧ s1 ≤ w7.heap.size) := Lib.hid ⟨hB.trans (hb7.mono hB.size), hBv.trans (hb7.mono (by have := hBv.size; rw [HSs.out] at this; exact this)), by have := hBv.size; rw [HSs.out] at this; exact Nat.le_trans this hb7.size⟩
        have HOg := Lib.hid (hO.below hb7)
        have HCy : Hid (cutB (endB y 1024) = cutB ⟨L, G ++ glyphs r⟩) := Lib.hid (by rw [← hcy, cutB_step (x := y) (by rw [hyn]; exact hge)])
        have HYl : Hid ((y.G.drop 1024).length + (y.L ++ [y.G.take 1024]).length ≤ 20000) := Lib.hid (by rw [List.length_drop, List.length_append, hyn, hvn, List.length_singleton]; omega)
        have HUl2 : Hid ((us2.length : Int) ≤ 1000000) := Lib.hid (by rw [huv2.1, hvn]; omega)
        have HW7 := Lib.hid hw7
        have HP7 := Lib.hid hp7
        have hgeI : (1024 : Int) ≤ yn := by omega
        clear hcy hO hq hB hBv hp hlin hyn hvn hus2 huv2 huo2 hw7 hp7 hb7 hone hyl hrel hge
        go_wp2_with (at_builtin; (try rw [HW7.out, HP7.out]); refine wpList_append_svs rfl _ _ rfl rfl s1 (.slice va vn vc) us2 (some ⟨p7, 0, none⟩) 1 1 [⟨ya, 1024, yc⟩] rfl rfl H2.out HOne.out HUl2.out (by simp) HB7.out.2.2 ?_)
        intro v8 w8 hO8 hg8
        have hb8 : Below s1 w7 w8 := (Below.refl _ _).grown hg8 HB7.out.2.2 (fun q hq => (H2.out.ownBlock q hq).1)
        have hol : ∀ q, (Value.slice ya yn yc).ownBlock = some q → q < s1 := HQ.out
        have HR8 : Hid (RefL s1 ((rb + 2) :: X) v8 (y.L ++ [y.G.take 1024]) w8) := Lib.hid (RefL.added HV2.out HO2.out HPt.out (fun _ p o e => by
          have e' : ya = some ⟨p, o, none⟩ := e
          have e2 : (Value.slice ya yn yc).ownBlock = some p := by rw [e']; rfl
          have h1 := (HOg.out.own p e2).1
          have h2 := HSz.out
          exact ⟨HQ.out p e2, fun hm => by
            rcases List.mem_cons.1 hm with h4 | h4
            · omega
            · have := HXl.out p h4; omega⟩) hO8 hb8)
        have HO8 : Hid (OwnQ .i64 63 w1.heap.size (.slice ya yn yc) y.G w8) := Lib.hid (HOg.out.oldKept HQ.out hb8)
        have HB8 : Hid (Below w1.heap.size w1 w8 ∧ Below s1 v w8) := Lib.hid ⟨HB7.out.1.trans (hb8.mono HS5.out.2.1), HB7.out.2.1.trans hb8⟩
        have fin : ∀ (av : Option Addr) (n9 c9 : Nat), OwnQ .i64 63 w1.heap.size (.slice av n9 c9) (y.G.drop 1024) w8 → (∀ q, (Value.slice av n9 c9).ownBlock = some q → q < s1) → Hid (∃ y : Bk, cutB y = cutB ⟨L, G ++ glyphs r⟩ ∧ y.G.length + y.L.length ≤ 20000 ∧ OwnQ .i64 63 w1.heap.size (.slice av n9 c9) y.G w8 ∧ (∀ q, (Value.slice av n9 c9).ownBlock = some q → q < s1) ∧ RefL s1 ((rb + 2) :: X) v8 y.L w8 ∧ Below w1.heap.size w1 w8 ∧ Below s1 v w8) := fun av n9 c9 h1 h2 => Lib.hid ⟨endB y 1024, HCy.out, HYl.out, h1, h2, HR8.out, HB8.out.1, HB8.out.2⟩
        have HFin := Lib.hid fin
        clear hO8 hg8 hb8 hol fin
        by_cases hcz : yc = 1024
        · have hnz : yn = 1024 := by omega
          have HE := HFin.out ya 0 0 (by have h := HO8.out.drop0; rw [hnz] at h; exact h) (fun q hq => HQ.out q (by cases ya <;> exact hq))
          subst hcz
          subst hnz
          go_wp2_with fail
          go_roundw
          case rel => exact HE
          case measure => simp [sliceLen]
        · have HE := HFin.out (Option.map (fun x => x.add (1024 * 2)) ya) (yn - 1024) (yc - 1024) (HO8.out.drop2 1024 (by omega)) (fun q hq => HQ.out q (by
            cases ya with
            | none => cases hq
            | some ad =>
              have h10 : (ad.add (1024 * 2)).block = ad.block := by unfold Addr.add; split <;> rfl
              have hq' : some (ad.add (1024 * 2)).block = some q := hq
              rw [h10] at hq'
              exact hq'))
          have hz : ¬ yc - 1024 = 0 := by omega
          clear hcz
          go_wp2_with fail
          go_roundw
          case rel => exact HE
          case measure => simp [sliceLen]; omega
      · have hd1 : decide ((yn : Int) ≥ 1024) = false := decide_eq_false (by omega)
        have hd2 : decide (1024 ≤ (yn : Int)) = false := decide_eq_false (by omega)
        have hcut : y = cutB ⟨L, G ++ glyphs r⟩ := by rw [← hcy, cutB_done (x := y) (by omega)]
        have h4 : wr.heap[rb + 2]? = some (.cells #[.slice none 0 0, .slice none 0 0] 33 (0, 0)) := (hB.block (rb + 2) (by have := HSz.out; omega)).trans HQ4.out
        have k0 : wr.cell? ⟨rb + 1, 1, none⟩ = some (.bool rw) := (hB.cell (p := ⟨rb + 1, 1, none⟩) HS1.out.2).trans HC.out.2.2.2
        have hBw : Below rb w wr := HB1.out.trans (hB.mono (by have := HSz.out; omega))
        have hsz := HSz.out
        have hrs : rb ≤ wr.heap.size := by have := hB.size; omega
        have hoq : ∀ p o, ya = some ⟨p, o, none⟩ → p ∉ [rb + 2] := fun p o e hm => by
          have e2 : (Value.slice ya yn yc).ownBlock = some p := by rw [e]; rfl
          have h1 := (hO.own p e2).1
          have h2 := List.mem_singleton.1 hm
          omega
        have hs1r : rb + 2 < s1 := by have := HS5.out.2.1; omega
        clear hcy hrel
        by_cases hwr : rw = true
        · subst hwr
          have hx : addB x r = y := by
            unfold addB
            rw [if_pos HRw.out.symm, HX.out, hcut]
          obtain ⟨wE, hwE⟩ : ∃ wE, (wr.setCell ⟨rb + 2, 0, none⟩ (.slice va vn vc)).setCell ⟨rb + 2, 1, none⟩ (.slice ya yn yc) = wE := ⟨_, rfl⟩
          have hkE : KeepB [rb + 2] wr wE := by rw [← hwE]; exact (KeepB.setCell _).trans (KeepB.setCell _)
          have hend : Hid (P (.returned (.agg #[.slice va vn vc, .slice ya yn yc])) wE) := Lib.hid (by
            rw [← HP.out, hx]
            obtain ⟨a9, c9, e9, -, hl9⟩ := (hRl.struck (M := [rb + 2]) (fun p hp => ⟨by rw [List.mem_singleton.1 hp]; exact hs1r, by rw [List.mem_singleton.1 hp]; exact List.mem_cons_self ..⟩) hkE).shape (fun p hp => by
              rcases List.mem_cons.1 hp with h5 | h5
              · omega
              · have := HXl.out p h5; omega)
            rw [hvn] at e9 hl9
            injection e9 with e1 e2 e3
            subst e1 e3
            have hl9' : LinO X va vn vc y.L wE := hl9.kept (M := []) (fun p hp => by cases hp) (KeepB.refl _ _) (fun p hp => .inl (List.mem_cons_of_mem _ hp))
            exact ⟨_, rfl, ⟨va, vn, vc, ya, yn, yc, rfl, hl9', hp.keptN (fun _ => hoq) hkE, fun _ p o e hm => by
              have e2 : (Value.slice ya yn yc).ownBlock = some p := by rw [e]; rfl
              have h1 := (hO.own p e2).1
              have h2 := HXl.out p hm
              omega⟩, hkE.below (fun i hi => by have := List.mem_singleton.1 hi; omega) hBw hrs⟩)
          have s0 : wr.cell? ⟨rb + 1 + 1, 0, none⟩ = some (.slice none 0 0) := by rw [cell_block h4]; rfl
          have s1' : wr.cell? ⟨rb + 1 + 1, 1, none⟩ = some (.slice none 0 0) := by rw [cell_block h4]; rfl
          have f0 : wr.frozen? ⟨rb + 1 + 1, 0, none⟩ = false := frozen_block h4 0
          have f1 : wr.frozen? ⟨rb + 1 + 1, 1, none⟩ = false := frozen_block h4 1
          have HWe : Hid ((wr.setCell ⟨rb + 1 + 1, 0, none⟩ (.slice va vn vc)).setCell ⟨rb + 1 + 1, 1, none⟩ (.slice ya yn yc) = wE) := Lib.hid hwE
          clear hyl hx hwE hkE hcut h4 hBw hoq hRl hO hq hB hBv hp hlin hyn hvn hge
          go_wp2_with fail
          refine bodyPost_ret (v := .agg #[.slice va vn vc, .slice ya yn yc]) (by rw [results_cell (fn := Tryd.f15) rfl]; go_simp <;> rfl) rfl ?_
          rw [HWe.out]
          exact hend.out
        · obtain rfl : rw = false := by simpa using hwr
          have hx : addB x r = ⟨y.L ++ [y.G], []⟩ := by
            unfold addB
            rw [if_neg (by rw [← HRw.out]; decide), HX.out, ← hcut]
            unfold endB
            rw [List.take_of_length_le (Nat.le_refl _), List.drop_of_length_le (Nat.le_refl _)]
          obtain ⟨us2, hus2, huv2, huo2⟩ := hRl
          obtain ⟨w7, hw7⟩ : ∃ w7, wr.alloc (.cells #[.slice ya yn yc] 31) = w7 := ⟨_, rfl⟩
          obtain ⟨p7, hp7⟩ : ∃ p, wr.heap.size = p := ⟨_, rfl⟩
          have hb7 : Below wr.heap.size wr w7 := by rw [← hw7]; exact (Below.refl _ _).alloc (Nat.le_refl _) _
          have hone : SvsIn (some ⟨p7, 0, none⟩) 1 1 [⟨ya, yn, yc⟩] w7 := by
            rw [← hw7, ← hp7]
            exact svs_one wr ⟨ya, yn, yc⟩
          have hsv := hBv.size
          rw [HSs.out] at hsv
          have H2 := Lib.hid (hus2.belowAll hb7)
          have HV2 := Lib.hid (huv2.belowAll hb7)
          have HO2 := Lib.hid huo2
          have HOne := Lib.hid hone
          have HPt := Lib.hid (hp.belowAll hb7)
          have HQ : Hid (ya ≠ none → ∀ p o, ya = some ⟨p, o, none⟩ → p < s1 ∧ p ∉ (rb + 2) :: X) := Lib.hid (fun _ p o e => by
            have e2 : (Value.slice ya yn yc).ownBlock = some p := by rw [e]; rfl
            have h1 := (hO.own p e2).1
            exact ⟨hq p e2, fun hm => by
              rcases List.mem_cons.1 hm with h4 | h4
              · omega
              · have := HXl.out p h4; omega⟩)
          have HB7 : Hid (Below rb w w7 ∧ s1 ≤ w7.heap.size ∧ rb ≤ w7.heap.size ∧ rb + 2 < s1 ∧ rb + 2 < w7.heap.size) := Lib.hid ⟨hBw.trans (hb7.mono hrs), Nat.le_trans hsv hb7.size, Nat.le_trans hrs hb7.size, hs1r, Nat.lt_of_lt_of_le hs1r (Nat.le_trans hsv hb7.size)⟩
          have HX9 := Lib.hid hx
          have HUl2 : Hid ((us2.length : Int) ≤ 1000000) := Lib.hid (by rw [huv2.1, hvn]; omega)
          have HW7 := Lib.hid hw7
          have HP7 := Lib.hid hp7
          have HQ7 : Hid (w7.heap[rb + 2]? = some (.cells #[.slice none 0 0, .slice none 0 0] 33 (0, 0))) := Lib.hid ((hb7.block (rb + 2) (Array.getElem?_eq_some_iff.1 h4).1).trans h4)
          have HVn := Lib.hid hvn
          clear hyl hx hcut hBw hoq hO hq hB hBv hp hlin hyn hvn hge hus2 huv2 huo2 hw7 hp7 hb7 hone h4 hrs hsv
          go_wp2_with (at_builtin; (try rw [HW7.out, HP7.out]); refine wpList_append_svs rfl _ _ rfl rfl s1 (.slice va vn vc) us2 (some ⟨p7, 0, none⟩) 1 1 [⟨ya, yn, yc⟩] rfl rfl H2.out HOne.out HUl2.out (by simp) HB7.out.2.1 ?_)
          intro v8 w8 hO8 hg8
          have hb8 : Below s1 w7 w8 := (Below.refl _ _).grown hg8 HB7.out.2.1 (fun q hq => (H2.out.ownBlock q hq).1)
          have hR8 : RefL s1 ((rb + 2) :: X) v8 (y.L ++ [y.G]) w8 := RefL.added HV2.out HO2.out HPt.out (fun _ p o e => HQ.out (by have e' : ya = some ⟨p, o, none⟩ := e; rw [e']; simp) p o e) hO8 hb8
          obtain ⟨xa, xc, rfl, -⟩ := hR8.shape HXs.out
          obtain ⟨xn, hxn⟩ : ∃ n, (y.L ++ [y.G]).length = n := ⟨_, rfl⟩
          rw [hxn] at hR8 ⊢
          have h4 := (hb8.block (rb + 2) HB7.out.2.2.2.1).trans HQ7.out
          obtain ⟨wE, hwE⟩ : ∃ wE, (w8.setCell ⟨rb + 1 + 1, 0, none⟩ (.slice xa xn xc)).setCell ⟨rb + 1 + 1, 1, none⟩ (.slice none 0 0) = wE := ⟨_, rfl⟩
          have hkE : KeepB [rb + 2] w8 wE := by rw [← hwE]; exact (KeepB.setCell (q := rb + 2) _).trans (KeepB.setCell (q := rb + 2) _)
          have hend : Hid (P (.returned (.agg #[.slice xa xn xc, .slice none 0 0])) wE) := Lib.hid (by
            rw [← HP.out, HX9.out]
            have hs1r := HB7.out.2.2.2.1
            obtain ⟨a9, c9, e9, -, hl9⟩ := (hR8.struck (M := [rb + 2]) (fun p hp => ⟨by rw [List.mem_singleton.1 hp]; exact hs1r, by rw [List.mem_singleton.1 hp]; exact List.mem_cons_self ..⟩) hkE).shape (fun p hp => by
              rcases List.mem_cons.1 hp with h5 | h5
              · omega
              · have := HXl.out p h5; omega)
            rw [hxn] at e9 hl9
            injection e9 with e1 e2 e3
            subst e1 e3
            have hl9' : LinO X xa xn xc (y.L ++ [y.G]) wE := hl9.kept (M := []) (fun p hp => by cases hp) (KeepB.refl _ _) (fun p hp => .inl (List.mem_cons_of_mem _ hp))
            exact ⟨_, rfl, ⟨xa, xn, xc, none, 0, 0, rfl, hl9', ⟨rfl, Nat.le_refl _, by decide, .inl rfl⟩, fun h => absurd rfl h⟩, hkE.below (fun i hi => by have := List.mem_singleton.1 hi; omega) (HB7.out.1.trans (hb8.mono (by have := HB7.out.2.2.2.1; omega))) (Nat.le_trans HB7.out.2.2.1 hb8.size)⟩)
          have s0 : w8.cell? ⟨rb + 1 + 1, 0, none⟩ = some (.slice none 0 0) := by rw [cell_block h4]; rfl
          have s1' : w8.cell? ⟨rb + 1 + 1, 1, none⟩ = some (.slice none 0 0) := by rw [cell_block h4]; rfl
          have f0 : w8.frozen? ⟨rb + 1 + 1, 0, none⟩ = false := frozen_block h4 0
          have f1 : w8.frozen? ⟨rb + 1 + 1, 1, none⟩ = false := frozen_block h4 1
          have HWe := Lib.hid hwE
          clear hO8 hg8 hb8 hR8 hxn h4 hwE hkE k0
          go_wp2_with fail
          refine bodyPost_ret (v := .agg #[.slice xa xn xc, .slice none 0 0]) (by rw [results_cell (fn := Tryd.f15) rfl]; go_simp <;> rfl) rfl ?_
          rw [HWe.out]
          exact hend.out
end Go.Proofs.YtkggmcnocpgnbaaDoor.K
