/- RowLength: no call but Resize makes more cells, or fewer; all that is erased is blanks: the walk. -/
import Derived.Test.YtmdnnpcofbhceaaDoorVPlays
import Derived.Test.YtmdnnpcofbhceaaDoorVSame
namespace Go.Proofs.YtmdnnpcofbhceaaDoor.K
open Go.RowKit

theorem run_field_rw (w : World) (v : Value) (b : Bool) : (Instr.field 26 (.agg #[v, .bool b]) 0).run Tryd.prog w = .ok v w := by kernel_rfl
theorem RowPost.rowN {rk : IntKind} {T : TypeId} {base : Nat} {l : List Cel} {b : Bool} {w : World} {e : Ending} {w' : World} (h : RowPost rk T base l b w e w') {n : Nat} (hn : l.length = n) : ∃ x y, e = .returned (.agg #[.slice x n y, .bool b]) ∧ RowV rk (.agg #[.slice x n y, .bool b]) ⟨l, b⟩ w' ∧ Below base w w' := by
  subst hn
  exact RowPost.row h (r := ⟨l, b⟩) rfl rfl
def LnOk (rb b b9 n : Nat) (x1 x9 : Option Addr) (y1 y9 : Nat) (g : Bool) (KD AT N S X : Int) (l : List Cel) : Nat → Value → World → Prop
  | 0, u, _ => u = .agg #[.slice x1 n y1, .bool g]
  | 1, u, _ => u = .pointer (some ⟨rb, 1, none⟩)
  | 2, u, _ => u = .int .i64 AT
  | 3, u, _ => u = .pointer (some ⟨rb, 4, none⟩)
  | 4, u, _ => u = .int .i32 X
  | 5, u, _ => u = .pointer (some ⟨rb, 3, none⟩)
  | 6, u, _ => u = .int .i64 S
  | 7, u, w => ∃ x y, u = .agg #[.slice x n y, .bool false] ∧ RowV .i32 (.agg #[.slice x n y, .bool false]) ⟨putS (W.ofS X) l AT X S, false⟩ w
  | 8, u, w => ∃ x y, u = .slice x n y
  | 9, u, _ => u = .int .i64 (n : Int)
  | 10, u, _ => u = .int .i64 (n : Int)
  | 11, u, _ => u = .bool true
  | 12, u, _ => u = .bool true
  | 13, u, _ => u = .agg #[.slice x1 n y1, .bool g]
  | 14, u, _ => u = .pointer (some ⟨rb, 1, none⟩)
  | 15, u, _ => u = .int .i64 AT
  | 16, u, _ => u = .pointer (some ⟨rb, 2, none⟩)
  | 17, u, _ => u = .int .i64 N
  | 18, u, _ => u = .pointer (some ⟨rb, 3, none⟩)
  | 19, u, _ => u = .int .i64 S
  | 20, u, w => ∃ x y, u = .agg #[.slice x n y, .bool false] ∧ RowV .i32 (.agg #[.slice x n y, .bool false]) ⟨eraseS l AT N S, false⟩ w
  | 21, u, w => ∃ x y, u = .slice x n y
  | 22, u, _ => u = .int .i64 (n : Int)
  | 23, u, _ => u = .int .i64 (n : Int)
  | 24, u, _ => u = .bool true
  | 25, u, _ => u = .bool true
  | 26, u, _ => u = .bool true
  | 27, u, _ => u = .agg #[.slice x1 n y1, .bool g]
  | 28, u, _ => u = .pointer (some ⟨rb, 1, none⟩)
  | 29, u, _ => u = .int .i64 AT
  | 30, u, _ => u = .pointer (some ⟨rb, 2, none⟩)
  | 31, u, _ => u = .int .i64 N
  | 32, u, _ => u = .pointer (some ⟨rb, 3, none⟩)
  | 33, u, _ => u = .int .i64 S
  | 34, u, w => ∃ x y, u = .agg #[.slice x n y, .bool false] ∧ RowV .i32 (.agg #[.slice x n y, .bool false]) ⟨insertS l AT N S, false⟩ w
  | 35, u, w => ∃ x y, u = .slice x n y
  | 36, u, _ => u = .int .i64 (n : Int)
  | 37, u, _ => u = .int .i64 (n : Int)
  | 38, u, _ => u = .bool true
  | 39, u, _ => u = .bool true
  | 40, u, _ => u = .bool true
  | 41, u, _ => u = .agg #[.slice x1 n y1, .bool g]
  | 42, u, _ => u = .pointer (some ⟨rb, 1, none⟩)
  | 43, u, _ => u = .int .i64 AT
  | 44, u, _ => u = .pointer (some ⟨rb, 2, none⟩)
  | 45, u, _ => u = .int .i64 N
  | 46, u, _ => u = .pointer (some ⟨rb, 3, none⟩)
  | 47, u, _ => u = .int .i64 S
  | 48, u, w => ∃ x y, u = .agg #[.slice x n y, .bool false] ∧ RowV .i32 (.agg #[.slice x n y, .bool false]) ⟨deleteS l AT N S, false⟩ w
  | 49, u, w => ∃ x y, u = .slice x n y
  | 50, u, _ => u = .int .i64 (n : Int)
  | 51, u, _ => u = .int .i64 (n : Int)
  | 52, u, _ => u = .bool true
  | 53, u, _ => u = .bool true
  | 54, u, _ => u = .bool true
  | 55, u, _ => u = .agg #[.slice x1 n y1, .bool g]
  | 56, u, _ => u = .pointer (some ⟨rb, 3, none⟩)
  | 57, u, _ => u = .int .i64 S
  | 58, u, w => ∃ x y, u = .agg #[.slice x n y, .bool true] ∧ RowV .i32 (.agg #[.slice x n y, .bool true]) ⟨fillS l S, true⟩ w
  | 59, u, w => ∃ x y, u = .slice x n y
  | 60, u, _ => u = .int .i64 (n : Int)
  | 61, u, _ => u = .int .i64 (n : Int)
  | 62, u, _ => u = .bool true
  | 63, u, _ => u = .bool true
  | 64, u, _ => u = .bool true
  | 65, u, _ => u = .agg #[.slice x9 n y9, .bool false]
  | 66, u, _ => u = .int .i64 (n : Int)
  | 67, u, _ => u = .pointer (some ⟨rb, 3, none⟩)
  | 68, u, _ => u = .int .i64 S
  | 69, u, w => ∃ x y, u = .agg #[.slice x n y, .bool false] ∧ RowV .i32 (.agg #[.slice x n y, .bool false]) ⟨blanks n S, false⟩ w
  | 70, u, _ => u = .bool true
  | 71, u, _ => u = .bool true
  | _, _, _ => True
set_option maxRecDepth 100000 in
set_option maxHeartbeats 32000000 in
theorem length_walk (a : Option Addr) (n0 c0 : Nat) (l0 : List Cel) (wr0 : Bool) (A : ActR) (w : World) (hT : W.Tab w) (hC : CelsIn .i32 a n0 l0 w) (hnil : a = none → c0 = 0) (hcap : n0 ≤ c0) (hmx : (c0 : Int) ≤ 9223372036854775807) :
    Calls Tryd.prog 5 #[.slice a n0 c0, .bool wr0, actV A] w fun e w' => e = .returned (.bool true) ∧ Below w.heap.size w w' := by
  obtain ⟨KD, AT, N, S, X⟩ := A
  unfold actV
  simp only
  obtain ⟨rb, hrb⟩ : ∃ rb, w.heap.size = rb := ⟨_, rfl⟩
  rw [hrb]
  obtain ⟨w0, hw0⟩ : ∃ w0, w.alloc (.cells #[.int .i64 KD, .int .i64 AT, .int .i64 N, .int .i64 S, .int .i32 X] 35) = w0 := ⟨_, rfl⟩
  have hb0 : Below rb w w0 := by rw [← hw0, ← hrb]; exact (Below.refl _ _).alloc (Nat.le_refl _) _
  have o3 : w0.heap[rb]? = some (.cells #[.int .i64 KD, .int .i64 AT, .int .i64 N, .int .i64 S, .int .i32 X] 35 (0, 0)) := by rw [← hw0, ← hrb]; exact World.alloc_heap_new _ _
  have hs0 : w0.heap.size = rb + 1 := by rw [← hw0, World.size_alloc, hrb]
  obtain ⟨l, hl⟩ : ∃ l, l0.take 40 = l := ⟨_, rfl⟩
  obtain ⟨n, hn⟩ : ∃ n, l.length = n := ⟨_, rfl⟩
  have hn40 : n ≤ 40 := by rw [← hn, ← hl, List.length_take]; omega
  have HLl := Lib.hid hn
  have HRb := Lib.hid hrb
  have HT0 : Hid (W.Tab w0) := Lib.hid (hT.belowAll (by rw [hrb]; exact hb0))
  have HC0 : Hid (CelsIn .i32 a n0 l0 w0) := Lib.hid (hC.belowAll (by rw [hrb]; exact hb0))
  have HAw := Lib.hid (awake_any w0 HT0.out)
  have HNil := Lib.hid hnil
  have HCap := Lib.hid hcap
  have HB0 := Lib.hid hb0
  have HO3 := Lib.hid o3
  have HS0 := Lib.hid hs0
  have HW0 := Lib.hid hw0
  have HL0 := Lib.hid hl
  clear hrb hT hC hnil hcap hb0 o3 hs0 hw0 hl hn
  go_enter Tryd.func5, Tryd.ntmps5
  go_upto_region 1 with fail
  rw [HW0.out, HRb.out]
  go_upto_region 3 with (go_at_call 13; refine HAw.out.mono ?_; rintro e w1 ⟨rfl, hb1⟩)
  have H1 := Lib.hid (any_any a n0 c0 wr0 l0 w1 (HC0.out.belowAll hb1) HNil.out HCap.out hmx)
  rw [HL0.out] at H1
  have HB1 : Hid (Below w0.heap.size w0 w1) := Lib.hid hb1
  clear hb1 HAw
  go_wp2_with fail
  refine H1.out.mono ?_
  intro e w2 hp2
  obtain ⟨x1, y1, rfl, hV2, hb2⟩ := RowPost.rowN hp2 (n := n) HLl.out
  have HB2 := Lib.hid (HB1.out.trans (hb2.mono HB1.out.size))
  obtain ⟨b, hb⟩ : ∃ b, w2.heap.size = b := ⟨_, rfl⟩
  obtain ⟨w3, hw3⟩ : ∃ w3, w2.alloc (.cells #[.slice x1 n y1, .bool wr0] 26) = w3 := ⟨_, rfl⟩
  have hb23 : Below w2.heap.size w2 w3 := by rw [← hw3]; exact (Below.refl _ _).alloc (Nat.le_refl _) _
  have hR3 : RoB 26 b (.slice x1 n y1) wr0 w3 := by rw [← hw3, ← hb]; exact RoB.new _ _ _ _
  have HB3 := Lib.hid (HB2.out.trans (hb23.mono HB2.out.size))
  have hV3 := hV2.belowAll hb23
  obtain ⟨-, i3, hn3, hc3, hm3, -⟩ := hV3.of
  have z0 := hR3.c0
  have z1 := hR3.c1
  have hA3 : ∀ u, Below w0.heap.size w0 u → u.heap[rb]? = some (.cells #[.int .i64 KD, .int .i64 AT, .int .i64 N, .int .i64 S, .int .i32 X] 35 (0, 0)) := fun u hu => (hu.block rb (by rw [HS0.out]; omega)).trans HO3.out
  have z3 : w3.cell? ⟨rb, 3, none⟩ = some (.int .i64 S) := by simp [World.cell?, hA3 w3 HB3.out]
  have H2 := Lib.hid (rowErase_any x1 n y1 wr0 l 0 (n : Int) S w3 i3 hn3 (by omega))
  have he : eraseS l 0 (n : Int) S = blanks n S := by rw [← HLl.out]; exact erase_all l S
  rw [he] at H2
  have HV3 := Lib.hid hV3
  have HR3 := Lib.hid hR3
  have HW3 := Lib.hid hw3
  have HBb := Lib.hid hb
  have HA3 := Lib.hid hA3
  clear hp2 hb2 hV2 hb23 hR3 hw3 hb hV3 i3 hn3 hc3 hA3 he H1
  go_upto_region 4 with fail
  rw [HW3.out, HBb.out]
  go_wp2_with fail
  refine H2.out.mono ?_
  intro e w4 hp4
  obtain ⟨x9, y9, rfl, hV4, hb4⟩ := RowPost.rowN hp4 (n := n) (blanks_length n S)
  obtain ⟨b9, hb9⟩ : ∃ b9, w4.heap.size = b9 := ⟨_, rfl⟩
  obtain ⟨w5, hw5⟩ : ∃ w5, w4.alloc (.cells #[.slice x9 n y9, .bool false] 26) = w5 := ⟨_, rfl⟩
  have hb45 : Below w4.heap.size w4 w5 := by rw [← hw5]; exact (Below.refl _ _).alloc (Nat.le_refl _) _
  have hR5 : RoB 26 b9 (.slice x9 n y9) false w5 := by rw [← hw5, ← hb9]; exact RoB.new _ _ _ _
  have hb35 : Below w3.heap.size w3 w5 := hb4.trans (hb45.mono hb4.size)
  have HB5 := Lib.hid (HB3.out.trans (hb35.mono HB3.out.size))
  have hb5 := HA3.out w5 HB5.out
  have k1 := HR3.out.belowAll hb35
  have hV5 := HV3.out.belowAll hb35
  obtain ⟨-, i5, hn5, hc5, hm5, -⟩ := hV5.of
  have HE := Lib.hid (hV4.belowAll hb45)
  have HI := Lib.hid i5
  have HN := Lib.hid hn5
  have HC1 := Lib.hid hc5
  have HM1 := Lib.hid hm5
  have HT : Hid (W.Tab w5) := Lib.hid (HT0.out.belowAll HB5.out)
  have HR0 := Lib.hid k1.c0
  have HR1 := Lib.hid k1.c1
  have HE0 := Lib.hid hR5.c0
  have HE1 := Lib.hid hR5.c1
  have HA0 : Hid (w5.cell? ⟨rb, 0, none⟩ = some (.int .i64 KD)) := Lib.hid (by simp [World.cell?, hb5])
  have HA1 : Hid (w5.cell? ⟨rb, 1, none⟩ = some (.int .i64 AT)) := Lib.hid (by simp [World.cell?, hb5])
  have HA2 : Hid (w5.cell? ⟨rb, 2, none⟩ = some (.int .i64 N)) := Lib.hid (by simp [World.cell?, hb5])
  have HA4 : Hid (w5.cell? ⟨rb, 4, none⟩ = some (.int .i32 X)) := Lib.hid (by simp [World.cell?, hb5])
  have HZb : Hid (b < w5.heap.size) := Lib.hid k1.lt
  have HZ9 : Hid (b9 < w5.heap.size) := Lib.hid hR5.lt
  have HZa : Hid (rb < w5.heap.size) := Lib.hid (Array.getElem?_eq_some_iff.1 hb5).1
  have HA3 : Hid (w5.cell? ⟨rb, 3, none⟩ = some (.int .i64 S)) := Lib.hid (by simp [World.cell?, hb5])
  have HW5 := Lib.hid hw5
  have HB9 := Lib.hid hb9
  obtain ⟨g, hg⟩ : ∃ g, wr0 = g := ⟨_, rfl⟩
  subst hg
  clear hp4 hV4 hb4 hb9 hw5 hb45 hR5 hb35 hb5 k1 hV5 i5 hn5 hc5 hm5 z0 z1 z3 H2 HR3 HV3 HO3
  go_upto_region 6 with fail
  rw [HW5.out, HB9.out]
  refine Go.Proofs.YtmdnnpcofbhceaaDoor.R.wp_region_tail 72 (by kernel_rfl) (fun u => Below w5.heap.size w5 u) (fun u v => Below u.heap.size u v) (LnOk rb b b9 n x1 x9 y1 y9 wr0 KD AT N S X l) (by rfl) (by kernel_rfl) (by decide) (by kernel_rfl) (by kernel_rfl) (by kernel_rfl) ?hC ?hOk ?hop ?hdone ((Below.refl _ _).drew)
  case hC => exact fun u v hu huv => hu.trans (huv.mono hu.size)
  case hOk =>
    intro i x u u' hv huu
    unfold LnOk at hv ⊢
    split at hv
    all_goals first | exact hv | (obtain ⟨x, y, e, h⟩ := hv; exact ⟨x, y, e, h.belowAll huu⟩) | trivial
  case hop =>
    refine ⟨?_, ?_, ?_, ?_, ?_, ?_, ?_, ?_, ?_, ?_, ?_, ?_, ?_, ?_, ?_, ?_, ?_, ?_, ?_, ?_, ?_, ?_, ?_, ?_, ?_, ?_, ?_, ?_, ?_, ?_, ?_, ?_, ?_, ?_, ?_, ?_, ?_, ?_, ?_, ?_, ?_, ?_, ?_, ?_, ?_, ?_, ?_, ?_, ?_, ?_, ?_, ?_, ?_, ?_, ?_, ?_, ?_, ?_, ?_, ?_, ?_, ?_, ?_, ?_, ?_, ?_, ?_, ?_, ?_, ?_, ?_, ?_, trivial⟩
    · as_aux_lemma =>
        intro z v hz hag hdep
        refine .inl ⟨rfl, fun K hK => ?_⟩
        have d7 : z.tmps.getD 7 undef = .pointer (some ⟨b, 0, none⟩) := hag.2.2 7 (by kernel_rfl)
        have e7 := d7
        rw [Array.getD_eq_getD_getElem?] at e7
        have l0 := (hz.cell (p := ⟨b, 0, none⟩) HZb.out).trans HR0.out
        have l1 := (hz.cell (p := ⟨b, 1, none⟩) HZb.out).trans HR1.out
        clear hz
        clear hdep hag 
        go_simp
        exact hK _ _ (Below.refl _ _) rfl
    · as_aux_lemma =>
        intro z v hz hag hdep
        refine .inl ⟨rfl, fun K hK => ?_⟩
        have d5 : z.tmps.getD 5 undef = .pointer (some ⟨rb, 0, none⟩) := hag.2.2 5 (by kernel_rfl)
        have e5 := d5
        rw [Array.getD_eq_getD_getElem?] at e5
        clear hz
        clear hdep hag 
        go_simp
        exact hK _ _ (Below.refl _ _) rfl
    · as_aux_lemma =>
        intro z v hz hag hdep
        refine .inl ⟨rfl, fun K hK => ?_⟩
        have d24 : z.tmps.getD 24 undef = .pointer (some ⟨rb, 1, none⟩) := hdep { on := 1, ground := .data } (by simp) rfl _ _ rfl rfl
        have e24 := d24
        rw [Array.getD_eq_getD_getElem?] at e24
        have l0 := (hz.cell (p := ⟨rb, 1, none⟩) HZa.out).trans HA1.out
        clear hz
        clear hdep hag 
        go_simp
        exact hK _ _ (Below.refl _ _) rfl
    · as_aux_lemma =>
        intro z v hz hag hdep
        refine .inl ⟨rfl, fun K hK => ?_⟩
        have d5 : z.tmps.getD 5 undef = .pointer (some ⟨rb, 0, none⟩) := hag.2.2 5 (by kernel_rfl)
        have e5 := d5
        rw [Array.getD_eq_getD_getElem?] at e5
        clear hz
        clear hdep hag 
        go_simp
        exact hK _ _ (Below.refl _ _) rfl
    · as_aux_lemma =>
        intro z v hz hag hdep
        refine .inl ⟨rfl, fun K hK => ?_⟩
        have d26 : z.tmps.getD 26 undef = .pointer (some ⟨rb, 4, none⟩) := hdep { on := 3, ground := .data } (by simp) rfl _ _ rfl rfl
        have e26 := d26
        rw [Array.getD_eq_getD_getElem?] at e26
        have l0 := (hz.cell (p := ⟨rb, 4, none⟩) HZa.out).trans HA4.out
        clear hz
        clear hdep hag 
        go_simp
        exact hK _ _ (Below.refl _ _) rfl
    · as_aux_lemma =>
        intro z v hz hag hdep
        refine .inl ⟨rfl, fun K hK => ?_⟩
        have d5 : z.tmps.getD 5 undef = .pointer (some ⟨rb, 0, none⟩) := hag.2.2 5 (by kernel_rfl)
        have e5 := d5
        rw [Array.getD_eq_getD_getElem?] at e5
        clear hz
        clear hdep hag 
        go_simp
        exact hK _ _ (Below.refl _ _) rfl
    · as_aux_lemma =>
        intro z v hz hag hdep
        refine .inl ⟨rfl, fun K hK => ?_⟩
        have d28 : z.tmps.getD 28 undef = .pointer (some ⟨rb, 3, none⟩) := hdep { on := 5, ground := .data } (by simp) rfl _ _ rfl rfl
        have e28 := d28
        rw [Array.getD_eq_getD_getElem?] at e28
        have l0 := (hz.cell (p := ⟨rb, 3, none⟩) HZa.out).trans HA3.out
        clear hz
        clear hdep hag 
        go_simp
        exact hK _ _ (Below.refl _ _) rfl
    · as_aux_lemma =>
        intro z v hz hag hdep
        refine .inl ⟨rfl, fun K hK => ?_⟩
        have d23 : z.tmps.getD 23 undef = .agg #[.slice x1 n y1, .bool wr0] := hdep { on := 0, ground := .data } (by simp) rfl _ _ rfl rfl
        have e23 := d23
        rw [Array.getD_eq_getD_getElem?] at e23
        have d25 : z.tmps.getD 25 undef = .int .i64 AT := hdep { on := 2, ground := .data } (by simp) rfl _ _ rfl rfl
        have e25 := d25
        rw [Array.getD_eq_getD_getElem?] at e25
        have d27 : z.tmps.getD 27 undef = .int .i32 X := hdep { on := 4, ground := .data } (by simp) rfl _ _ rfl rfl
        have e27 := d27
        rw [Array.getD_eq_getD_getElem?] at e27
        have d29 : z.tmps.getD 29 undef = .int .i64 S := hdep { on := 6, ground := .data } (by simp) rfl _ _ rfl rfl
        have e29 := d29
        rw [Array.getD_eq_getD_getElem?] at e29
        have HC := Lib.hid (rowPut_any x1 n y1 wr0 l AT X S v (HT.out.belowAll hz) (HI.out.belowAll hz) HN.out (by omega))
        clear hdep hag hz
        go_simp
        refine HC.out.mono ?_
        intro e w' hp
        obtain ⟨x', y', rfl, h1, h2⟩ := RowPost.rowN hp (n := n) (by rw [put_length]; exact HLl.out)
        exact hK _ _ h2 ⟨x', y', rfl, h1⟩
    · as_aux_lemma =>
        intro z v hz hag hdep
        refine .inl ⟨rfl, fun K hK => ?_⟩
        have d30' : LnOk rb b b9 n x1 x9 y1 y9 wr0 KD AT N S X l 7 (z.tmps.getD 30 undef) v := hdep { on := 7, ground := .data } (by simp) rfl _ _ rfl rfl
        simp only [LnOk] at d30'
        obtain ⟨x30, y30, d30, hr30⟩ := d30'
        have e30 := d30
        rw [Array.getD_eq_getD_getElem?] at e30
        have hfld := run_field_rw v (.slice x30 n y30) false
        clear hdep hag hz
        go_simp
        exact hK _ _ (Below.refl _ _) ⟨_, _, rfl⟩
    · as_aux_lemma =>
        intro z v hz hag hdep
        refine .inl ⟨rfl, fun K hK => ?_⟩
        have d31' : LnOk rb b b9 n x1 x9 y1 y9 wr0 KD AT N S X l 8 (z.tmps.getD 31 undef) v := hdep { on := 8, ground := .data } (by simp) rfl _ _ rfl rfl
        simp only [LnOk] at d31'
        obtain ⟨x31, y31, d31⟩ := d31'
        have e31 := d31
        rw [Array.getD_eq_getD_getElem?] at e31
        clear hz
        clear hdep hag 
        go_simp
        exact hK _ _ (Below.refl _ _) rfl
    · as_aux_lemma =>
        intro z v hz hag hdep
        refine .inl ⟨rfl, fun K hK => ?_⟩
        have d8 : z.tmps.getD 8 undef = .int .i64 (n : Int) := hag.2.2 8 (by kernel_rfl)
        have e8 := d8
        rw [Array.getD_eq_getD_getElem?] at e8
        clear hz
        clear hdep hag 
        go_simp
        exact hK _ _ (Below.refl _ _) rfl
    · as_aux_lemma =>
        intro z v hz hag hdep
        refine .inl ⟨rfl, fun K hK => ?_⟩
        have d32 : z.tmps.getD 32 undef = .int .i64 (n : Int) := hdep { on := 9, ground := .data } (by simp) rfl _ _ rfl rfl
        have e32 := d32
        rw [Array.getD_eq_getD_getElem?] at e32
        have d33 : z.tmps.getD 33 undef = .int .i64 (n : Int) := hdep { on := 10, ground := .data } (by simp) rfl _ _ rfl rfl
        have e33 := d33
        rw [Array.getD_eq_getD_getElem?] at e33
        clear hz
        clear hdep hag 
        go_simp
        exact hK _ _ (Below.refl _ _) rfl
    · as_aux_lemma =>
        intro z v hz hag hdep
        refine .inl ⟨rfl, fun K hK => ?_⟩
        have d34 : z.tmps.getD 34 undef = .bool true := hdep { on := 11, ground := .data } (by simp) rfl _ _ rfl rfl
        have e34 := d34
        rw [Array.getD_eq_getD_getElem?] at e34
        clear hz
        clear hdep hag 
        go_simp
        exact hK _ _ (Below.refl _ _) rfl
    · as_aux_lemma =>
        intro z v hz hag hdep
        have dg : LnOk rb b b9 n x1 x9 y1 y9 wr0 KD AT N S X l 12 (z.tmps.getD 35 undef) v := hdep { on := 12, ground := .guard } (by simp) rfl _ _ rfl rfl
        simp only [LnOk] at dg
        refine .inl ⟨Go.Proofs.YtmdnnpcofbhceaaDoor.R.wanted_of (j := 12) rfl rfl rfl dg (by rw [hag.2.1]; show 35 < 95; decide), fun K hK => ?_⟩
        have d7 : z.tmps.getD 7 undef = .pointer (some ⟨b, 0, none⟩) := hag.2.2 7 (by kernel_rfl)
        have e7 := d7
        rw [Array.getD_eq_getD_getElem?] at e7
        have l0 := (hz.cell (p := ⟨b, 0, none⟩) HZb.out).trans HR0.out
        have l1 := (hz.cell (p := ⟨b, 1, none⟩) HZb.out).trans HR1.out
        clear hz
        clear hdep hag 
        go_simp
        exact hK _ _ (Below.refl _ _) rfl
    · as_aux_lemma =>
        intro z v hz hag hdep
        have dg : LnOk rb b b9 n x1 x9 y1 y9 wr0 KD AT N S X l 12 (z.tmps.getD 35 undef) v := hdep { on := 12, ground := .guard } (by simp) rfl _ _ rfl rfl
        simp only [LnOk] at dg
        refine .inl ⟨Go.Proofs.YtmdnnpcofbhceaaDoor.R.wanted_of (j := 12) rfl rfl rfl dg (by rw [hag.2.1]; show 35 < 95; decide), fun K hK => ?_⟩
        have d5 : z.tmps.getD 5 undef = .pointer (some ⟨rb, 0, none⟩) := hag.2.2 5 (by kernel_rfl)
        have e5 := d5
        rw [Array.getD_eq_getD_getElem?] at e5
        clear hz
        clear hdep hag 
        go_simp
        exact hK _ _ (Below.refl _ _) rfl
    · as_aux_lemma =>
        intro z v hz hag hdep
        have dg : LnOk rb b b9 n x1 x9 y1 y9 wr0 KD AT N S X l 12 (z.tmps.getD 35 undef) v := hdep { on := 12, ground := .guard } (by simp) rfl _ _ rfl rfl
        simp only [LnOk] at dg
        refine .inl ⟨Go.Proofs.YtmdnnpcofbhceaaDoor.R.wanted_of (j := 12) rfl rfl rfl dg (by rw [hag.2.1]; show 35 < 95; decide), fun K hK => ?_⟩
        have d37 : z.tmps.getD 37 undef = .pointer (some ⟨rb, 1, none⟩) := hdep { on := 14, ground := .data } (by simp) rfl _ _ rfl rfl
        have e37 := d37
        rw [Array.getD_eq_getD_getElem?] at e37
        have l0 := (hz.cell (p := ⟨rb, 1, none⟩) HZa.out).trans HA1.out
        clear hz
        clear hdep hag 
        go_simp
        exact hK _ _ (Below.refl _ _) rfl
    · as_aux_lemma =>
        intro z v hz hag hdep
        have dg : LnOk rb b b9 n x1 x9 y1 y9 wr0 KD AT N S X l 12 (z.tmps.getD 35 undef) v := hdep { on := 12, ground := .guard } (by simp) rfl _ _ rfl rfl
        simp only [LnOk] at dg
        refine .inl ⟨Go.Proofs.YtmdnnpcofbhceaaDoor.R.wanted_of (j := 12) rfl rfl rfl dg (by rw [hag.2.1]; show 35 < 95; decide), fun K hK => ?_⟩
        have d5 : z.tmps.getD 5 undef = .pointer (some ⟨rb, 0, none⟩) := hag.2.2 5 (by kernel_rfl)
        have e5 := d5
        rw [Array.getD_eq_getD_getElem?] at e5
        clear hz
        clear hdep hag 
        go_simp
        exact hK _ _ (Below.refl _ _) rfl
    · as_aux_lemma =>
        intro z v hz hag hdep
        have dg : LnOk rb b b9 n x1 x9 y1 y9 wr0 KD AT N S X l 12 (z.tmps.getD 35 undef) v := hdep { on := 12, ground := .guard } (by simp) rfl _ _ rfl rfl
        simp only [LnOk] at dg
        refine .inl ⟨Go.Proofs.YtmdnnpcofbhceaaDoor.R.wanted_of (j := 12) rfl rfl rfl dg (by rw [hag.2.1]; show 35 < 95; decide), fun K hK => ?_⟩
        have d39 : z.tmps.getD 39 undef = .pointer (some ⟨rb, 2, none⟩) := hdep { on := 16, ground := .data } (by simp) rfl _ _ rfl rfl
        have e39 := d39
        rw [Array.getD_eq_getD_getElem?] at e39
        have l0 := (hz.cell (p := ⟨rb, 2, none⟩) HZa.out).trans HA2.out
        clear hz
        clear hdep hag 
        go_simp
        exact hK _ _ (Below.refl _ _) rfl
    · as_aux_lemma =>
        intro z v hz hag hdep
        have dg : LnOk rb b b9 n x1 x9 y1 y9 wr0 KD AT N S X l 12 (z.tmps.getD 35 undef) v := hdep { on := 12, ground := .guard } (by simp) rfl _ _ rfl rfl
        simp only [LnOk] at dg
        refine .inl ⟨Go.Proofs.YtmdnnpcofbhceaaDoor.R.wanted_of (j := 12) rfl rfl rfl dg (by rw [hag.2.1]; show 35 < 95; decide), fun K hK => ?_⟩
        have d5 : z.tmps.getD 5 undef = .pointer (some ⟨rb, 0, none⟩) := hag.2.2 5 (by kernel_rfl)
        have e5 := d5
        rw [Array.getD_eq_getD_getElem?] at e5
        clear hz
        clear hdep hag 
        go_simp
        exact hK _ _ (Below.refl _ _) rfl
    · as_aux_lemma =>
        intro z v hz hag hdep
        have dg : LnOk rb b b9 n x1 x9 y1 y9 wr0 KD AT N S X l 12 (z.tmps.getD 35 undef) v := hdep { on := 12, ground := .guard } (by simp) rfl _ _ rfl rfl
        simp only [LnOk] at dg
        refine .inl ⟨Go.Proofs.YtmdnnpcofbhceaaDoor.R.wanted_of (j := 12) rfl rfl rfl dg (by rw [hag.2.1]; show 35 < 95; decide), fun K hK => ?_⟩
        have d41 : z.tmps.getD 41 undef = .pointer (some ⟨rb, 3, none⟩) := hdep { on := 18, ground := .data } (by simp) rfl _ _ rfl rfl
        have e41 := d41
        rw [Array.getD_eq_getD_getElem?] at e41
        have l0 := (hz.cell (p := ⟨rb, 3, none⟩) HZa.out).trans HA3.out
        clear hz
        clear hdep hag 
        go_simp
        exact hK _ _ (Below.refl _ _) rfl
    · as_aux_lemma =>
        intro z v hz hag hdep
        have dg : LnOk rb b b9 n x1 x9 y1 y9 wr0 KD AT N S X l 12 (z.tmps.getD 35 undef) v := hdep { on := 12, ground := .guard } (by simp) rfl _ _ rfl rfl
        simp only [LnOk] at dg
        refine .inl ⟨Go.Proofs.YtmdnnpcofbhceaaDoor.R.wanted_of (j := 12) rfl rfl rfl dg (by rw [hag.2.1]; show 35 < 95; decide), fun K hK => ?_⟩
        have d36 : z.tmps.getD 36 undef = .agg #[.slice x1 n y1, .bool wr0] := hdep { on := 13, ground := .data } (by simp) rfl _ _ rfl rfl
        have e36 := d36
        rw [Array.getD_eq_getD_getElem?] at e36
        have d38 : z.tmps.getD 38 undef = .int .i64 AT := hdep { on := 15, ground := .data } (by simp) rfl _ _ rfl rfl
        have e38 := d38
        rw [Array.getD_eq_getD_getElem?] at e38
        have d40 : z.tmps.getD 40 undef = .int .i64 N := hdep { on := 17, ground := .data } (by simp) rfl _ _ rfl rfl
        have e40 := d40
        rw [Array.getD_eq_getD_getElem?] at e40
        have d42 : z.tmps.getD 42 undef = .int .i64 S := hdep { on := 19, ground := .data } (by simp) rfl _ _ rfl rfl
        have e42 := d42
        rw [Array.getD_eq_getD_getElem?] at e42
        have HC := Lib.hid (rowErase_any x1 n y1 wr0 l AT N S v (HI.out.belowAll hz) HN.out (by omega))
        clear hdep hag hz
        go_simp
        refine HC.out.mono ?_
        intro e w' hp
        obtain ⟨x', y', rfl, h1, h2⟩ := RowPost.rowN hp (n := n) (by rw [erase_length]; exact HLl.out)
        exact hK _ _ h2 ⟨x', y', rfl, h1⟩
    · as_aux_lemma =>
        intro z v hz hag hdep
        have dg : LnOk rb b b9 n x1 x9 y1 y9 wr0 KD AT N S X l 12 (z.tmps.getD 35 undef) v := hdep { on := 12, ground := .guard } (by simp) rfl _ _ rfl rfl
        simp only [LnOk] at dg
        refine .inl ⟨Go.Proofs.YtmdnnpcofbhceaaDoor.R.wanted_of (j := 12) rfl rfl rfl dg (by rw [hag.2.1]; show 35 < 95; decide), fun K hK => ?_⟩
        have d43' : LnOk rb b b9 n x1 x9 y1 y9 wr0 KD AT N S X l 20 (z.tmps.getD 43 undef) v := hdep { on := 20, ground := .data } (by simp) rfl _ _ rfl rfl
        simp only [LnOk] at d43'
        obtain ⟨x43, y43, d43, hr43⟩ := d43'
        have e43 := d43
        rw [Array.getD_eq_getD_getElem?] at e43
        have hfld := run_field_rw v (.slice x43 n y43) false
        clear hdep hag hz
        go_simp
        exact hK _ _ (Below.refl _ _) ⟨_, _, rfl⟩
    · as_aux_lemma =>
        intro z v hz hag hdep
        have dg : LnOk rb b b9 n x1 x9 y1 y9 wr0 KD AT N S X l 12 (z.tmps.getD 35 undef) v := hdep { on := 12, ground := .guard } (by simp) rfl _ _ rfl rfl
        simp only [LnOk] at dg
        refine .inl ⟨Go.Proofs.YtmdnnpcofbhceaaDoor.R.wanted_of (j := 12) rfl rfl rfl dg (by rw [hag.2.1]; show 35 < 95; decide), fun K hK => ?_⟩
        have d44' : LnOk rb b b9 n x1 x9 y1 y9 wr0 KD AT N S X l 21 (z.tmps.getD 44 undef) v := hdep { on := 21, ground := .data } (by simp) rfl _ _ rfl rfl
        simp only [LnOk] at d44'
        obtain ⟨x44, y44, d44⟩ := d44'
        have e44 := d44
        rw [Array.getD_eq_getD_getElem?] at e44
        clear hz
        clear hdep hag 
        go_simp
        exact hK _ _ (Below.refl _ _) rfl
    · as_aux_lemma =>
        intro z v hz hag hdep
        have dg : LnOk rb b b9 n x1 x9 y1 y9 wr0 KD AT N S X l 12 (z.tmps.getD 35 undef) v := hdep { on := 12, ground := .guard } (by simp) rfl _ _ rfl rfl
        simp only [LnOk] at dg
        refine .inl ⟨Go.Proofs.YtmdnnpcofbhceaaDoor.R.wanted_of (j := 12) rfl rfl rfl dg (by rw [hag.2.1]; show 35 < 95; decide), fun K hK => ?_⟩
        have d8 : z.tmps.getD 8 undef = .int .i64 (n : Int) := hag.2.2 8 (by kernel_rfl)
        have e8 := d8
        rw [Array.getD_eq_getD_getElem?] at e8
        clear hz
        clear hdep hag 
        go_simp
        exact hK _ _ (Below.refl _ _) rfl
    · as_aux_lemma =>
        intro z v hz hag hdep
        have dg : LnOk rb b b9 n x1 x9 y1 y9 wr0 KD AT N S X l 12 (z.tmps.getD 35 undef) v := hdep { on := 12, ground := .guard } (by simp) rfl _ _ rfl rfl
        simp only [LnOk] at dg
        refine .inl ⟨Go.Proofs.YtmdnnpcofbhceaaDoor.R.wanted_of (j := 12) rfl rfl rfl dg (by rw [hag.2.1]; show 35 < 95; decide), fun K hK => ?_⟩
        have d45 : z.tmps.getD 45 undef = .int .i64 (n : Int) := hdep { on := 22, ground := .data } (by simp) rfl _ _ rfl rfl
        have e45 := d45
        rw [Array.getD_eq_getD_getElem?] at e45
        have d46 : z.tmps.getD 46 undef = .int .i64 (n : Int) := hdep { on := 23, ground := .data } (by simp) rfl _ _ rfl rfl
        have e46 := d46
        rw [Array.getD_eq_getD_getElem?] at e46
        clear hz
        clear hdep hag 
        go_simp
        exact hK _ _ (Below.refl _ _) rfl
    · as_aux_lemma =>
        intro z v hz hag hdep
        refine .inl ⟨rfl, fun K hK => ?_⟩
        have d35 : z.tmps.getD 35 undef = .bool true := hdep { on := 12, ground := .data } (by simp) rfl _ _ rfl rfl
        have e35 := d35
        rw [Array.getD_eq_getD_getElem?] at e35
        have d47 : z.tmps.getD 47 undef = .bool true := hdep { on := 24, ground := .data } (by simp) rfl _ _ rfl rfl
        have e47 := d47
        rw [Array.getD_eq_getD_getElem?] at e47
        clear hz
        clear hdep hag 
        go_simp
        exact hK _ _ (Below.refl _ _) rfl
    · as_aux_lemma =>
        intro z v hz hag hdep
        refine .inl ⟨rfl, fun K hK => ?_⟩
        have d48 : z.tmps.getD 48 undef = .bool true := hdep { on := 25, ground := .data } (by simp) rfl _ _ rfl rfl
        have e48 := d48
        rw [Array.getD_eq_getD_getElem?] at e48
        clear hz
        clear hdep hag 
        go_simp
        exact hK _ _ (Below.refl _ _) rfl
    · as_aux_lemma =>
        intro z v hz hag hdep
        have dg : LnOk rb b b9 n x1 x9 y1 y9 wr0 KD AT N S X l 26 (z.tmps.getD 49 undef) v := hdep { on := 26, ground := .guard } (by simp) rfl _ _ rfl rfl
        simp only [LnOk] at dg
        refine .inl ⟨Go.Proofs.YtmdnnpcofbhceaaDoor.R.wanted_of (j := 26) rfl rfl rfl dg (by rw [hag.2.1]; show 49 < 95; decide), fun K hK => ?_⟩
        have d7 : z.tmps.getD 7 undef = .pointer (some ⟨b, 0, none⟩) := hag.2.2 7 (by kernel_rfl)
        have e7 := d7
        rw [Array.getD_eq_getD_getElem?] at e7
        have l0 := (hz.cell (p := ⟨b, 0, none⟩) HZb.out).trans HR0.out
        have l1 := (hz.cell (p := ⟨b, 1, none⟩) HZb.out).trans HR1.out
        clear hz
        clear hdep hag 
        go_simp
        exact hK _ _ (Below.refl _ _) rfl
    · as_aux_lemma =>
        intro z v hz hag hdep
        have dg : LnOk rb b b9 n x1 x9 y1 y9 wr0 KD AT N S X l 26 (z.tmps.getD 49 undef) v := hdep { on := 26, ground := .guard } (by simp) rfl _ _ rfl rfl
        simp only [LnOk] at dg
        refine .inl ⟨Go.Proofs.YtmdnnpcofbhceaaDoor.R.wanted_of (j := 26) rfl rfl rfl dg (by rw [hag.2.1]; show 49 < 95; decide), fun K hK => ?_⟩
        have d5 : z.tmps.getD 5 undef = .pointer (some ⟨rb, 0, none⟩) := hag.2.2 5 (by kernel_rfl)
        have e5 := d5
        rw [Array.getD_eq_getD_getElem?] at e5
        clear hz
        clear hdep hag 
        go_simp
        exact hK _ _ (Below.refl _ _) rfl
    · as_aux_lemma =>
        intro z v hz hag hdep
        have dg : LnOk rb b b9 n x1 x9 y1 y9 wr0 KD AT N S X l 26 (z.tmps.getD 49 undef) v := hdep { on := 26, ground := .guard } (by simp) rfl _ _ rfl rfl
        simp only [LnOk] at dg
        refine .inl ⟨Go.Proofs.YtmdnnpcofbhceaaDoor.R.wanted_of (j := 26) rfl rfl rfl dg (by rw [hag.2.1]; show 49 < 95; decide), fun K hK => ?_⟩
        have d51 : z.tmps.getD 51 undef = .pointer (some ⟨rb, 1, none⟩) := hdep { on := 28, ground := .data } (by simp) rfl _ _ rfl rfl
        have e51 := d51
        rw [Array.getD_eq_getD_getElem?] at e51
        have l0 := (hz.cell (p := ⟨rb, 1, none⟩) HZa.out).trans HA1.out
        clear hz
        clear hdep hag 
        go_simp
        exact hK _ _ (Below.refl _ _) rfl
    · as_aux_lemma =>
        intro z v hz hag hdep
        have dg : LnOk rb b b9 n x1 x9 y1 y9 wr0 KD AT N S X l 26 (z.tmps.getD 49 undef) v := hdep { on := 26, ground := .guard } (by simp) rfl _ _ rfl rfl
        simp only [LnOk] at dg
        refine .inl ⟨Go.Proofs.YtmdnnpcofbhceaaDoor.R.wanted_of (j := 26) rfl rfl rfl dg (by rw [hag.2.1]; show 49 < 95; decide), fun K hK => ?_⟩
        have d5 : z.tmps.getD 5 undef = .pointer (some ⟨rb, 0, none⟩) := hag.2.2 5 (by kernel_rfl)
        have e5 := d5
        rw [Array.getD_eq_getD_getElem?] at e5
        clear hz
        clear hdep hag 
        go_simp
        exact hK _ _ (Below.refl _ _) rfl
    · as_aux_lemma =>
        intro z v hz hag hdep
        have dg : LnOk rb b b9 n x1 x9 y1 y9 wr0 KD AT N S X l 26 (z.tmps.getD 49 undef) v := hdep { on := 26, ground := .guard } (by simp) rfl _ _ rfl rfl
        simp only [LnOk] at dg
        refine .inl ⟨Go.Proofs.YtmdnnpcofbhceaaDoor.R.wanted_of (j := 26) rfl rfl rfl dg (by rw [hag.2.1]; show 49 < 95; decide), fun K hK => ?_⟩
        have d53 : z.tmps.getD 53 undef = .pointer (some ⟨rb, 2, none⟩) := hdep { on := 30, ground := .data } (by simp) rfl _ _ rfl rfl
        have e53 := d53
        rw [Array.getD_eq_getD_getElem?] at e53
        have l0 := (hz.cell (p := ⟨rb, 2, none⟩) HZa.out).trans HA2.out
        clear hz
        clear hdep hag 
        go_simp
        exact hK _ _ (Below.refl _ _) rfl
    · as_aux_lemma =>
        intro z v hz hag hdep
        have dg : LnOk rb b b9 n x1 x9 y1 y9 wr0 KD AT N S X l 26 (z.tmps.getD 49 undef) v := hdep { on := 26, ground := .guard } (by simp) rfl _ _ rfl rfl
        simp only [LnOk] at dg
        refine .inl ⟨Go.Proofs.YtmdnnpcofbhceaaDoor.R.wanted_of (j := 26) rfl rfl rfl dg (by rw [hag.2.1]; show 49 < 95; decide), fun K hK => ?_⟩
        have d5 : z.tmps.getD 5 undef = .pointer (some ⟨rb, 0, none⟩) := hag.2.2 5 (by kernel_rfl)
        have e5 := d5
        rw [Array.getD_eq_getD_getElem?] at e5
        clear hz
        clear hdep hag 
        go_simp
        exact hK _ _ (Below.refl _ _) rfl
    · as_aux_lemma =>
        intro z v hz hag hdep
        have dg : LnOk rb b b9 n x1 x9 y1 y9 wr0 KD AT N S X l 26 (z.tmps.getD 49 undef) v := hdep { on := 26, ground := .guard } (by simp) rfl _ _ rfl rfl
        simp only [LnOk] at dg
        refine .inl ⟨Go.Proofs.YtmdnnpcofbhceaaDoor.R.wanted_of (j := 26) rfl rfl rfl dg (by rw [hag.2.1]; show 49 < 95; decide), fun K hK => ?_⟩
        have d55 : z.tmps.getD 55 undef = .pointer (some ⟨rb, 3, none⟩) := hdep { on := 32, ground := .data } (by simp) rfl _ _ rfl rfl
        have e55 := d55
        rw [Array.getD_eq_getD_getElem?] at e55
        have l0 := (hz.cell (p := ⟨rb, 3, none⟩) HZa.out).trans HA3.out
        clear hz
        clear hdep hag 
        go_simp
        exact hK _ _ (Below.refl _ _) rfl
    · as_aux_lemma =>
        intro z v hz hag hdep
        have dg : LnOk rb b b9 n x1 x9 y1 y9 wr0 KD AT N S X l 26 (z.tmps.getD 49 undef) v := hdep { on := 26, ground := .guard } (by simp) rfl _ _ rfl rfl
        simp only [LnOk] at dg
        refine .inl ⟨Go.Proofs.YtmdnnpcofbhceaaDoor.R.wanted_of (j := 26) rfl rfl rfl dg (by rw [hag.2.1]; show 49 < 95; decide), fun K hK => ?_⟩
        have d50 : z.tmps.getD 50 undef = .agg #[.slice x1 n y1, .bool wr0] := hdep { on := 27, ground := .data } (by simp) rfl _ _ rfl rfl
        have e50 := d50
        rw [Array.getD_eq_getD_getElem?] at e50
        have d52 : z.tmps.getD 52 undef = .int .i64 AT := hdep { on := 29, ground := .data } (by simp) rfl _ _ rfl rfl
        have e52 := d52
        rw [Array.getD_eq_getD_getElem?] at e52
        have d54 : z.tmps.getD 54 undef = .int .i64 N := hdep { on := 31, ground := .data } (by simp) rfl _ _ rfl rfl
        have e54 := d54
        rw [Array.getD_eq_getD_getElem?] at e54
        have d56 : z.tmps.getD 56 undef = .int .i64 S := hdep { on := 33, ground := .data } (by simp) rfl _ _ rfl rfl
        have e56 := d56
        rw [Array.getD_eq_getD_getElem?] at e56
        have HC := Lib.hid (rowInsert_any x1 n y1 wr0 l AT N S v (HI.out.belowAll hz) HN.out HC1.out HM1.out (by omega))
        clear hdep hag hz
        go_simp
        refine HC.out.mono ?_
        intro e w' hp
        obtain ⟨x', y', rfl, h1, h2⟩ := RowPost.rowN hp (n := n) (by rw [insert_length]; exact HLl.out)
        exact hK _ _ h2 ⟨x', y', rfl, h1⟩
    · as_aux_lemma =>
        intro z v hz hag hdep
        have dg : LnOk rb b b9 n x1 x9 y1 y9 wr0 KD AT N S X l 26 (z.tmps.getD 49 undef) v := hdep { on := 26, ground := .guard } (by simp) rfl _ _ rfl rfl
        simp only [LnOk] at dg
        refine .inl ⟨Go.Proofs.YtmdnnpcofbhceaaDoor.R.wanted_of (j := 26) rfl rfl rfl dg (by rw [hag.2.1]; show 49 < 95; decide), fun K hK => ?_⟩
        have d57' : LnOk rb b b9 n x1 x9 y1 y9 wr0 KD AT N S X l 34 (z.tmps.getD 57 undef) v := hdep { on := 34, ground := .data } (by simp) rfl _ _ rfl rfl
        simp only [LnOk] at d57'
        obtain ⟨x57, y57, d57, hr57⟩ := d57'
        have e57 := d57
        rw [Array.getD_eq_getD_getElem?] at e57
        have hfld := run_field_rw v (.slice x57 n y57) false
        clear hdep hag hz
        go_simp
        exact hK _ _ (Below.refl _ _) ⟨_, _, rfl⟩
    · as_aux_lemma =>
        intro z v hz hag hdep
        have dg : LnOk rb b b9 n x1 x9 y1 y9 wr0 KD AT N S X l 26 (z.tmps.getD 49 undef) v := hdep { on := 26, ground := .guard } (by simp) rfl _ _ rfl rfl
        simp only [LnOk] at dg
        refine .inl ⟨Go.Proofs.YtmdnnpcofbhceaaDoor.R.wanted_of (j := 26) rfl rfl rfl dg (by rw [hag.2.1]; show 49 < 95; decide), fun K hK => ?_⟩
        have d58' : LnOk rb b b9 n x1 x9 y1 y9 wr0 KD AT N S X l 35 (z.tmps.getD 58 undef) v := hdep { on := 35, ground := .data } (by simp) rfl _ _ rfl rfl
        simp only [LnOk] at d58'
        obtain ⟨x58, y58, d58⟩ := d58'
        have e58 := d58
        rw [Array.getD_eq_getD_getElem?] at e58
        clear hz
        clear hdep hag 
        go_simp
        exact hK _ _ (Below.refl _ _) rfl
    · as_aux_lemma =>
        intro z v hz hag hdep
        have dg : LnOk rb b b9 n x1 x9 y1 y9 wr0 KD AT N S X l 26 (z.tmps.getD 49 undef) v := hdep { on := 26, ground := .guard } (by simp) rfl _ _ rfl rfl
        simp only [LnOk] at dg
        refine .inl ⟨Go.Proofs.YtmdnnpcofbhceaaDoor.R.wanted_of (j := 26) rfl rfl rfl dg (by rw [hag.2.1]; show 49 < 95; decide), fun K hK => ?_⟩
        have d8 : z.tmps.getD 8 undef = .int .i64 (n : Int) := hag.2.2 8 (by kernel_rfl)
        have e8 := d8
        rw [Array.getD_eq_getD_getElem?] at e8
        clear hz
        clear hdep hag 
        go_simp
        exact hK _ _ (Below.refl _ _) rfl
    · as_aux_lemma =>
        intro z v hz hag hdep
        have dg : LnOk rb b b9 n x1 x9 y1 y9 wr0 KD AT N S X l 26 (z.tmps.getD 49 undef) v := hdep { on := 26, ground := .guard } (by simp) rfl _ _ rfl rfl
        simp only [LnOk] at dg
        refine .inl ⟨Go.Proofs.YtmdnnpcofbhceaaDoor.R.wanted_of (j := 26) rfl rfl rfl dg (by rw [hag.2.1]; show 49 < 95; decide), fun K hK => ?_⟩
        have d59 : z.tmps.getD 59 undef = .int .i64 (n : Int) := hdep { on := 36, ground := .data } (by simp) rfl _ _ rfl rfl
        have e59 := d59
        rw [Array.getD_eq_getD_getElem?] at e59
        have d60 : z.tmps.getD 60 undef = .int .i64 (n : Int) := hdep { on := 37, ground := .data } (by simp) rfl _ _ rfl rfl
        have e60 := d60
        rw [Array.getD_eq_getD_getElem?] at e60
        clear hz
        clear hdep hag 
        go_simp
        exact hK _ _ (Below.refl _ _) rfl
    · as_aux_lemma =>
        intro z v hz hag hdep
        refine .inl ⟨rfl, fun K hK => ?_⟩
        have d49 : z.tmps.getD 49 undef = .bool true := hdep { on := 26, ground := .data } (by simp) rfl _ _ rfl rfl
        have e49 := d49
        rw [Array.getD_eq_getD_getElem?] at e49
        have d61 : z.tmps.getD 61 undef = .bool true := hdep { on := 38, ground := .data } (by simp) rfl _ _ rfl rfl
        have e61 := d61
        rw [Array.getD_eq_getD_getElem?] at e61
        clear hz
        clear hdep hag 
        go_simp
        exact hK _ _ (Below.refl _ _) rfl
    · as_aux_lemma =>
        intro z v hz hag hdep
        refine .inl ⟨rfl, fun K hK => ?_⟩
        have d62 : z.tmps.getD 62 undef = .bool true := hdep { on := 39, ground := .data } (by simp) rfl _ _ rfl rfl
        have e62 := d62
        rw [Array.getD_eq_getD_getElem?] at e62
        clear hz
        clear hdep hag 
        go_simp
        exact hK _ _ (Below.refl _ _) rfl
    · as_aux_lemma =>
        intro z v hz hag hdep
        have dg : LnOk rb b b9 n x1 x9 y1 y9 wr0 KD AT N S X l 40 (z.tmps.getD 63 undef) v := hdep { on := 40, ground := .guard } (by simp) rfl _ _ rfl rfl
        simp only [LnOk] at dg
        refine .inl ⟨Go.Proofs.YtmdnnpcofbhceaaDoor.R.wanted_of (j := 40) rfl rfl rfl dg (by rw [hag.2.1]; show 63 < 95; decide), fun K hK => ?_⟩
        have d7 : z.tmps.getD 7 undef = .pointer (some ⟨b, 0, none⟩) := hag.2.2 7 (by kernel_rfl)
        have e7 := d7
        rw [Array.getD_eq_getD_getElem?] at e7
        have l0 := (hz.cell (p := ⟨b, 0, none⟩) HZb.out).trans HR0.out
        have l1 := (hz.cell (p := ⟨b, 1, none⟩) HZb.out).trans HR1.out
        clear hz
        clear hdep hag 
        go_simp
        exact hK _ _ (Below.refl _ _) rfl
    · as_aux_lemma =>
        intro z v hz hag hdep
        have dg : LnOk rb b b9 n x1 x9 y1 y9 wr0 KD AT N S X l 40 (z.tmps.getD 63 undef) v := hdep { on := 40, ground := .guard } (by simp) rfl _ _ rfl rfl
        simp only [LnOk] at dg
        refine .inl ⟨Go.Proofs.YtmdnnpcofbhceaaDoor.R.wanted_of (j := 40) rfl rfl rfl dg (by rw [hag.2.1]; show 63 < 95; decide), fun K hK => ?_⟩
        have d5 : z.tmps.getD 5 undef = .pointer (some ⟨rb, 0, none⟩) := hag.2.2 5 (by kernel_rfl)
        have e5 := d5
        rw [Array.getD_eq_getD_getElem?] at e5
        clear hz
        clear hdep hag 
        go_simp
        exact hK _ _ (Below.refl _ _) rfl
    · as_aux_lemma =>
        intro z v hz hag hdep
        have dg : LnOk rb b b9 n x1 x9 y1 y9 wr0 KD AT N S X l 40 (z.tmps.getD 63 undef) v := hdep { on := 40, ground := .guard } (by simp) rfl _ _ rfl rfl
        simp only [LnOk] at dg
        refine .inl ⟨Go.Proofs.YtmdnnpcofbhceaaDoor.R.wanted_of (j := 40) rfl rfl rfl dg (by rw [hag.2.1]; show 63 < 95; decide), fun K hK => ?_⟩
        have d65 : z.tmps.getD 65 undef = .pointer (some ⟨rb, 1, none⟩) := hdep { on := 42, ground := .data } (by simp) rfl _ _ rfl rfl
        have e65 := d65
        rw [Array.getD_eq_getD_getElem?] at e65
        have l0 := (hz.cell (p := ⟨rb, 1, none⟩) HZa.out).trans HA1.out
        clear hz
        clear hdep hag 
        go_simp
        exact hK _ _ (Below.refl _ _) rfl
    · as_aux_lemma =>
        intro z v hz hag hdep
        have dg : LnOk rb b b9 n x1 x9 y1 y9 wr0 KD AT N S X l 40 (z.tmps.getD 63 undef) v := hdep { on := 40, ground := .guard } (by simp) rfl _ _ rfl rfl
        simp only [LnOk] at dg
        refine .inl ⟨Go.Proofs.YtmdnnpcofbhceaaDoor.R.wanted_of (j := 40) rfl rfl rfl dg (by rw [hag.2.1]; show 63 < 95; decide), fun K hK => ?_⟩
        have d5 : z.tmps.getD 5 undef = .pointer (some ⟨rb, 0, none⟩) := hag.2.2 5 (by kernel_rfl)
        have e5 := d5
        rw [Array.getD_eq_getD_getElem?] at e5
        clear hz
        clear hdep hag 
        go_simp
        exact hK _ _ (Below.refl _ _) rfl
    · as_aux_lemma =>
        intro z v hz hag hdep
        have dg : LnOk rb b b9 n x1 x9 y1 y9 wr0 KD AT N S X l 40 (z.tmps.getD 63 undef) v := hdep { on := 40, ground := .guard } (by simp) rfl _ _ rfl rfl
        simp only [LnOk] at dg
        refine .inl ⟨Go.Proofs.YtmdnnpcofbhceaaDoor.R.wanted_of (j := 40) rfl rfl rfl dg (by rw [hag.2.1]; show 63 < 95; decide), fun K hK => ?_⟩
        have d67 : z.tmps.getD 67 undef = .pointer (some ⟨rb, 2, none⟩) := hdep { on := 44, ground := .data } (by simp) rfl _ _ rfl rfl
        have e67 := d67
        rw [Array.getD_eq_getD_getElem?] at e67
        have l0 := (hz.cell (p := ⟨rb, 2, none⟩) HZa.out).trans HA2.out
        clear hz
        clear hdep hag 
        go_simp
        exact hK _ _ (Below.refl _ _) rfl
    · as_aux_lemma =>
        intro z v hz hag hdep
        have dg : LnOk rb b b9 n x1 x9 y1 y9 wr0 KD AT N S X l 40 (z.tmps.getD 63 undef) v := hdep { on := 40, ground := .guard } (by simp) rfl _ _ rfl rfl
        simp only [LnOk] at dg
        refine .inl ⟨Go.Proofs.YtmdnnpcofbhceaaDoor.R.wanted_of (j := 40) rfl rfl rfl dg (by rw [hag.2.1]; show 63 < 95; decide), fun K hK => ?_⟩
        have d5 : z.tmps.getD 5 undef = .pointer (some ⟨rb, 0, none⟩) := hag.2.2 5 (by kernel_rfl)
        have e5 := d5
        rw [Array.getD_eq_getD_getElem?] at e5
        clear hz
        clear hdep hag 
        go_simp
        exact hK _ _ (Below.refl _ _) rfl
    · as_aux_lemma =>
        intro z v hz hag hdep
        have dg : LnOk rb b b9 n x1 x9 y1 y9 wr0 KD AT N S X l 40 (z.tmps.getD 63 undef) v := hdep { on := 40, ground := .guard } (by simp) rfl _ _ rfl rfl
        simp only [LnOk] at dg
        refine .inl ⟨Go.Proofs.YtmdnnpcofbhceaaDoor.R.wanted_of (j := 40) rfl rfl rfl dg (by rw [hag.2.1]; show 63 < 95; decide), fun K hK => ?_⟩
        have d69 : z.tmps.getD 69 undef = .pointer (some ⟨rb, 3, none⟩) := hdep { on := 46, ground := .data } (by simp) rfl _ _ rfl rfl
        have e69 := d69
        rw [Array.getD_eq_getD_getElem?] at e69
        have l0 := (hz.cell (p := ⟨rb, 3, none⟩) HZa.out).trans HA3.out
        clear hz
        clear hdep hag 
        go_simp
        exact hK _ _ (Below.refl _ _) rfl
    · as_aux_lemma =>
        intro z v hz hag hdep
        have dg : LnOk rb b b9 n x1 x9 y1 y9 wr0 KD AT N S X l 40 (z.tmps.getD 63 undef) v := hdep { on := 40, ground := .guard } (by simp) rfl _ _ rfl rfl
        simp only [LnOk] at dg
        refine .inl ⟨Go.Proofs.YtmdnnpcofbhceaaDoor.R.wanted_of (j := 40) rfl rfl rfl dg (by rw [hag.2.1]; show 63 < 95; decide), fun K hK => ?_⟩
        have d64 : z.tmps.getD 64 undef = .agg #[.slice x1 n y1, .bool wr0] := hdep { on := 41, ground := .data } (by simp) rfl _ _ rfl rfl
        have e64 := d64
        rw [Array.getD_eq_getD_getElem?] at e64
        have d66 : z.tmps.getD 66 undef = .int .i64 AT := hdep { on := 43, ground := .data } (by simp) rfl _ _ rfl rfl
        have e66 := d66
        rw [Array.getD_eq_getD_getElem?] at e66
        have d68 : z.tmps.getD 68 undef = .int .i64 N := hdep { on := 45, ground := .data } (by simp) rfl _ _ rfl rfl
        have e68 := d68
        rw [Array.getD_eq_getD_getElem?] at e68
        have d70 : z.tmps.getD 70 undef = .int .i64 S := hdep { on := 47, ground := .data } (by simp) rfl _ _ rfl rfl
        have e70 := d70
        rw [Array.getD_eq_getD_getElem?] at e70
        have HC := Lib.hid (rowDelete_any x1 n y1 wr0 l AT N S v (HI.out.belowAll hz) HN.out HC1.out HM1.out (by omega))
        clear hdep hag hz
        go_simp
        refine HC.out.mono ?_
        intro e w' hp
        obtain ⟨x', y', rfl, h1, h2⟩ := RowPost.rowN hp (n := n) (by rw [delete_length]; exact HLl.out)
        exact hK _ _ h2 ⟨x', y', rfl, h1⟩
    · as_aux_lemma =>
        intro z v hz hag hdep
        have dg : LnOk rb b b9 n x1 x9 y1 y9 wr0 KD AT N S X l 40 (z.tmps.getD 63 undef) v := hdep { on := 40, ground := .guard } (by simp) rfl _ _ rfl rfl
        simp only [LnOk] at dg
        refine .inl ⟨Go.Proofs.YtmdnnpcofbhceaaDoor.R.wanted_of (j := 40) rfl rfl rfl dg (by rw [hag.2.1]; show 63 < 95; decide), fun K hK => ?_⟩
        have d71' : LnOk rb b b9 n x1 x9 y1 y9 wr0 KD AT N S X l 48 (z.tmps.getD 71 undef) v := hdep { on := 48, ground := .data } (by simp) rfl _ _ rfl rfl
        simp only [LnOk] at d71'
        obtain ⟨x71, y71, d71, hr71⟩ := d71'
        have e71 := d71
        rw [Array.getD_eq_getD_getElem?] at e71
        have hfld := run_field_rw v (.slice x71 n y71) false
        clear hdep hag hz
        go_simp
        exact hK _ _ (Below.refl _ _) ⟨_, _, rfl⟩
    · as_aux_lemma =>
        intro z v hz hag hdep
        have dg : LnOk rb b b9 n x1 x9 y1 y9 wr0 KD AT N S X l 40 (z.tmps.getD 63 undef) v := hdep { on := 40, ground := .guard } (by simp) rfl _ _ rfl rfl
        simp only [LnOk] at dg
        refine .inl ⟨Go.Proofs.YtmdnnpcofbhceaaDoor.R.wanted_of (j := 40) rfl rfl rfl dg (by rw [hag.2.1]; show 63 < 95; decide), fun K hK => ?_⟩
        have d72' : LnOk rb b b9 n x1 x9 y1 y9 wr0 KD AT N S X l 49 (z.tmps.getD 72 undef) v := hdep { on := 49, ground := .data } (by simp) rfl _ _ rfl rfl
        simp only [LnOk] at d72'
        obtain ⟨x72, y72, d72⟩ := d72'
        have e72 := d72
        rw [Array.getD_eq_getD_getElem?] at e72
        clear hz
        clear hdep hag 
        go_simp
        exact hK _ _ (Below.refl _ _) rfl
    · as_aux_lemma =>
        intro z v hz hag hdep
        have dg : LnOk rb b b9 n x1 x9 y1 y9 wr0 KD AT N S X l 40 (z.tmps.getD 63 undef) v := hdep { on := 40, ground := .guard } (by simp) rfl _ _ rfl rfl
        simp only [LnOk] at dg
        refine .inl ⟨Go.Proofs.YtmdnnpcofbhceaaDoor.R.wanted_of (j := 40) rfl rfl rfl dg (by rw [hag.2.1]; show 63 < 95; decide), fun K hK => ?_⟩
        have d8 : z.tmps.getD 8 undef = .int .i64 (n : Int) := hag.2.2 8 (by kernel_rfl)
        have e8 := d8
        rw [Array.getD_eq_getD_getElem?] at e8
        clear hz
        clear hdep hag 
        go_simp
        exact hK _ _ (Below.refl _ _) rfl
    · as_aux_lemma =>
        intro z v hz hag hdep
        have dg : LnOk rb b b9 n x1 x9 y1 y9 wr0 KD AT N S X l 40 (z.tmps.getD 63 undef) v := hdep { on := 40, ground := .guard } (by simp) rfl _ _ rfl rfl
        simp only [LnOk] at dg
        refine .inl ⟨Go.Proofs.YtmdnnpcofbhceaaDoor.R.wanted_of (j := 40) rfl rfl rfl dg (by rw [hag.2.1]; show 63 < 95; decide), fun K hK => ?_⟩
        have d73 : z.tmps.getD 73 undef = .int .i64 (n : Int) := hdep { on := 50, ground := .data } (by simp) rfl _ _ rfl rfl
        have e73 := d73
        rw [Array.getD_eq_getD_getElem?] at e73
        have d74 : z.tmps.getD 74 undef = .int .i64 (n : Int) := hdep { on := 51, ground := .data } (by simp) rfl _ _ rfl rfl
        have e74 := d74
        rw [Array.getD_eq_getD_getElem?] at e74
        clear hz
        clear hdep hag 
        go_simp
        exact hK _ _ (Below.refl _ _) rfl
    · as_aux_lemma =>
        intro z v hz hag hdep
        refine .inl ⟨rfl, fun K hK => ?_⟩
        have d63 : z.tmps.getD 63 undef = .bool true := hdep { on := 40, ground := .data } (by simp) rfl _ _ rfl rfl
        have e63 := d63
        rw [Array.getD_eq_getD_getElem?] at e63
        have d75 : z.tmps.getD 75 undef = .bool true := hdep { on := 52, ground := .data } (by simp) rfl _ _ rfl rfl
        have e75 := d75
        rw [Array.getD_eq_getD_getElem?] at e75
        clear hz
        clear hdep hag 
        go_simp
        exact hK _ _ (Below.refl _ _) rfl
    · as_aux_lemma =>
        intro z v hz hag hdep
        refine .inl ⟨rfl, fun K hK => ?_⟩
        have d76 : z.tmps.getD 76 undef = .bool true := hdep { on := 53, ground := .data } (by simp) rfl _ _ rfl rfl
        have e76 := d76
        rw [Array.getD_eq_getD_getElem?] at e76
        clear hz
        clear hdep hag 
        go_simp
        exact hK _ _ (Below.refl _ _) rfl
    · as_aux_lemma =>
        intro z v hz hag hdep
        have dg : LnOk rb b b9 n x1 x9 y1 y9 wr0 KD AT N S X l 54 (z.tmps.getD 77 undef) v := hdep { on := 54, ground := .guard } (by simp) rfl _ _ rfl rfl
        simp only [LnOk] at dg
        refine .inl ⟨Go.Proofs.YtmdnnpcofbhceaaDoor.R.wanted_of (j := 54) rfl rfl rfl dg (by rw [hag.2.1]; show 77 < 95; decide), fun K hK => ?_⟩
        have d7 : z.tmps.getD 7 undef = .pointer (some ⟨b, 0, none⟩) := hag.2.2 7 (by kernel_rfl)
        have e7 := d7
        rw [Array.getD_eq_getD_getElem?] at e7
        have l0 := (hz.cell (p := ⟨b, 0, none⟩) HZb.out).trans HR0.out
        have l1 := (hz.cell (p := ⟨b, 1, none⟩) HZb.out).trans HR1.out
        clear hz
        clear hdep hag 
        go_simp
        exact hK _ _ (Below.refl _ _) rfl
    · as_aux_lemma =>
        intro z v hz hag hdep
        have dg : LnOk rb b b9 n x1 x9 y1 y9 wr0 KD AT N S X l 54 (z.tmps.getD 77 undef) v := hdep { on := 54, ground := .guard } (by simp) rfl _ _ rfl rfl
        simp only [LnOk] at dg
        refine .inl ⟨Go.Proofs.YtmdnnpcofbhceaaDoor.R.wanted_of (j := 54) rfl rfl rfl dg (by rw [hag.2.1]; show 77 < 95; decide), fun K hK => ?_⟩
        have d5 : z.tmps.getD 5 undef = .pointer (some ⟨rb, 0, none⟩) := hag.2.2 5 (by kernel_rfl)
        have e5 := d5
        rw [Array.getD_eq_getD_getElem?] at e5
        clear hz
        clear hdep hag 
        go_simp
        exact hK _ _ (Below.refl _ _) rfl
    · as_aux_lemma =>
        intro z v hz hag hdep
        have dg : LnOk rb b b9 n x1 x9 y1 y9 wr0 KD AT N S X l 54 (z.tmps.getD 77 undef) v := hdep { on := 54, ground := .guard } (by simp) rfl _ _ rfl rfl
        simp only [LnOk] at dg
        refine .inl ⟨Go.Proofs.YtmdnnpcofbhceaaDoor.R.wanted_of (j := 54) rfl rfl rfl dg (by rw [hag.2.1]; show 77 < 95; decide), fun K hK => ?_⟩
        have d79 : z.tmps.getD 79 undef = .pointer (some ⟨rb, 3, none⟩) := hdep { on := 56, ground := .data } (by simp) rfl _ _ rfl rfl
        have e79 := d79
        rw [Array.getD_eq_getD_getElem?] at e79
        have l0 := (hz.cell (p := ⟨rb, 3, none⟩) HZa.out).trans HA3.out
        clear hz
        clear hdep hag 
        go_simp
        exact hK _ _ (Below.refl _ _) rfl
    · as_aux_lemma =>
        intro z v hz hag hdep
        have dg : LnOk rb b b9 n x1 x9 y1 y9 wr0 KD AT N S X l 54 (z.tmps.getD 77 undef) v := hdep { on := 54, ground := .guard } (by simp) rfl _ _ rfl rfl
        simp only [LnOk] at dg
        refine .inl ⟨Go.Proofs.YtmdnnpcofbhceaaDoor.R.wanted_of (j := 54) rfl rfl rfl dg (by rw [hag.2.1]; show 77 < 95; decide), fun K hK => ?_⟩
        have d78 : z.tmps.getD 78 undef = .agg #[.slice x1 n y1, .bool wr0] := hdep { on := 55, ground := .data } (by simp) rfl _ _ rfl rfl
        have e78 := d78
        rw [Array.getD_eq_getD_getElem?] at e78
        have d80 : z.tmps.getD 80 undef = .int .i64 S := hdep { on := 57, ground := .data } (by simp) rfl _ _ rfl rfl
        have e80 := d80
        rw [Array.getD_eq_getD_getElem?] at e80
        have HC := Lib.hid (rowFill_any x1 n y1 wr0 l S v (HI.out.belowAll hz) HN.out (by omega))
        clear hdep hag hz
        go_simp
        refine HC.out.mono ?_
        intro e w' hp
        obtain ⟨x', y', rfl, h1, h2⟩ := RowPost.rowN hp (n := n) (by rw [fill_length]; exact HLl.out)
        exact hK _ _ h2 ⟨x', y', rfl, h1⟩
    · as_aux_lemma =>
        intro z v hz hag hdep
        have dg : LnOk rb b b9 n x1 x9 y1 y9 wr0 KD AT N S X l 54 (z.tmps.getD 77 undef) v := hdep { on := 54, ground := .guard } (by simp) rfl _ _ rfl rfl
        simp only [LnOk] at dg
        refine .inl ⟨Go.Proofs.YtmdnnpcofbhceaaDoor.R.wanted_of (j := 54) rfl rfl rfl dg (by rw [hag.2.1]; show 77 < 95; decide), fun K hK => ?_⟩
        have d81' : LnOk rb b b9 n x1 x9 y1 y9 wr0 KD AT N S X l 58 (z.tmps.getD 81 undef) v := hdep { on := 58, ground := .data } (by simp) rfl _ _ rfl rfl
        simp only [LnOk] at d81'
        obtain ⟨x81, y81, d81, hr81⟩ := d81'
        have e81 := d81
        rw [Array.getD_eq_getD_getElem?] at e81
        have hfld := run_field_rw v (.slice x81 n y81) true
        clear hdep hag hz
        go_simp
        exact hK _ _ (Below.refl _ _) ⟨_, _, rfl⟩
    · as_aux_lemma =>
        intro z v hz hag hdep
        have dg : LnOk rb b b9 n x1 x9 y1 y9 wr0 KD AT N S X l 54 (z.tmps.getD 77 undef) v := hdep { on := 54, ground := .guard } (by simp) rfl _ _ rfl rfl
        simp only [LnOk] at dg
        refine .inl ⟨Go.Proofs.YtmdnnpcofbhceaaDoor.R.wanted_of (j := 54) rfl rfl rfl dg (by rw [hag.2.1]; show 77 < 95; decide), fun K hK => ?_⟩
        have d82' : LnOk rb b b9 n x1 x9 y1 y9 wr0 KD AT N S X l 59 (z.tmps.getD 82 undef) v := hdep { on := 59, ground := .data } (by simp) rfl _ _ rfl rfl
        simp only [LnOk] at d82'
        obtain ⟨x82, y82, d82⟩ := d82'
        have e82 := d82
        rw [Array.getD_eq_getD_getElem?] at e82
        clear hz
        clear hdep hag 
        go_simp
        exact hK _ _ (Below.refl _ _) rfl
    · as_aux_lemma =>
        intro z v hz hag hdep
        have dg : LnOk rb b b9 n x1 x9 y1 y9 wr0 KD AT N S X l 54 (z.tmps.getD 77 undef) v := hdep { on := 54, ground := .guard } (by simp) rfl _ _ rfl rfl
        simp only [LnOk] at dg
        refine .inl ⟨Go.Proofs.YtmdnnpcofbhceaaDoor.R.wanted_of (j := 54) rfl rfl rfl dg (by rw [hag.2.1]; show 77 < 95; decide), fun K hK => ?_⟩
        have d8 : z.tmps.getD 8 undef = .int .i64 (n : Int) := hag.2.2 8 (by kernel_rfl)
        have e8 := d8
        rw [Array.getD_eq_getD_getElem?] at e8
        clear hz
        clear hdep hag 
        go_simp
        exact hK _ _ (Below.refl _ _) rfl
    · as_aux_lemma =>
        intro z v hz hag hdep
        have dg : LnOk rb b b9 n x1 x9 y1 y9 wr0 KD AT N S X l 54 (z.tmps.getD 77 undef) v := hdep { on := 54, ground := .guard } (by simp) rfl _ _ rfl rfl
        simp only [LnOk] at dg
        refine .inl ⟨Go.Proofs.YtmdnnpcofbhceaaDoor.R.wanted_of (j := 54) rfl rfl rfl dg (by rw [hag.2.1]; show 77 < 95; decide), fun K hK => ?_⟩
        have d83 : z.tmps.getD 83 undef = .int .i64 (n : Int) := hdep { on := 60, ground := .data } (by simp) rfl _ _ rfl rfl
        have e83 := d83
        rw [Array.getD_eq_getD_getElem?] at e83
        have d84 : z.tmps.getD 84 undef = .int .i64 (n : Int) := hdep { on := 61, ground := .data } (by simp) rfl _ _ rfl rfl
        have e84 := d84
        rw [Array.getD_eq_getD_getElem?] at e84
        clear hz
        clear hdep hag 
        go_simp
        exact hK _ _ (Below.refl _ _) rfl
    · as_aux_lemma =>
        intro z v hz hag hdep
        refine .inl ⟨rfl, fun K hK => ?_⟩
        have d77 : z.tmps.getD 77 undef = .bool true := hdep { on := 54, ground := .data } (by simp) rfl _ _ rfl rfl
        have e77 := d77
        rw [Array.getD_eq_getD_getElem?] at e77
        have d85 : z.tmps.getD 85 undef = .bool true := hdep { on := 62, ground := .data } (by simp) rfl _ _ rfl rfl
        have e85 := d85
        rw [Array.getD_eq_getD_getElem?] at e85
        clear hz
        clear hdep hag 
        go_simp
        exact hK _ _ (Below.refl _ _) rfl
    · as_aux_lemma =>
        intro z v hz hag hdep
        refine .inl ⟨rfl, fun K hK => ?_⟩
        have d86 : z.tmps.getD 86 undef = .bool true := hdep { on := 63, ground := .data } (by simp) rfl _ _ rfl rfl
        have e86 := d86
        rw [Array.getD_eq_getD_getElem?] at e86
        clear hz
        clear hdep hag 
        go_simp
        exact hK _ _ (Below.refl _ _) rfl
    · as_aux_lemma =>
        intro z v hz hag hdep
        have dg : LnOk rb b b9 n x1 x9 y1 y9 wr0 KD AT N S X l 64 (z.tmps.getD 87 undef) v := hdep { on := 64, ground := .guard } (by simp) rfl _ _ rfl rfl
        simp only [LnOk] at dg
        refine .inl ⟨Go.Proofs.YtmdnnpcofbhceaaDoor.R.wanted_of (j := 64) rfl rfl rfl dg (by rw [hag.2.1]; show 87 < 95; decide), fun K hK => ?_⟩
        have d9 : z.tmps.getD 9 undef = .pointer (some ⟨b9, 0, none⟩) := hag.2.2 9 (by kernel_rfl)
        have e9 := d9
        rw [Array.getD_eq_getD_getElem?] at e9
        have l0 := (hz.cell (p := ⟨b9, 0, none⟩) HZ9.out).trans HE0.out
        have l1 := (hz.cell (p := ⟨b9, 1, none⟩) HZ9.out).trans HE1.out
        clear hz
        clear hdep hag 
        go_simp
        exact hK _ _ (Below.refl _ _) rfl
    · as_aux_lemma =>
        intro z v hz hag hdep
        have dg : LnOk rb b b9 n x1 x9 y1 y9 wr0 KD AT N S X l 64 (z.tmps.getD 87 undef) v := hdep { on := 64, ground := .guard } (by simp) rfl _ _ rfl rfl
        simp only [LnOk] at dg
        refine .inl ⟨Go.Proofs.YtmdnnpcofbhceaaDoor.R.wanted_of (j := 64) rfl rfl rfl dg (by rw [hag.2.1]; show 87 < 95; decide), fun K hK => ?_⟩
        have d8 : z.tmps.getD 8 undef = .int .i64 (n : Int) := hag.2.2 8 (by kernel_rfl)
        have e8 := d8
        rw [Array.getD_eq_getD_getElem?] at e8
        clear hz
        clear hdep hag 
        go_simp
        exact hK _ _ (Below.refl _ _) rfl
    · as_aux_lemma =>
        intro z v hz hag hdep
        have dg : LnOk rb b b9 n x1 x9 y1 y9 wr0 KD AT N S X l 64 (z.tmps.getD 87 undef) v := hdep { on := 64, ground := .guard } (by simp) rfl _ _ rfl rfl
        simp only [LnOk] at dg
        refine .inl ⟨Go.Proofs.YtmdnnpcofbhceaaDoor.R.wanted_of (j := 64) rfl rfl rfl dg (by rw [hag.2.1]; show 87 < 95; decide), fun K hK => ?_⟩
        have d5 : z.tmps.getD 5 undef = .pointer (some ⟨rb, 0, none⟩) := hag.2.2 5 (by kernel_rfl)
        have e5 := d5
        rw [Array.getD_eq_getD_getElem?] at e5
        clear hz
        clear hdep hag 
        go_simp
        exact hK _ _ (Below.refl _ _) rfl
    · as_aux_lemma =>
        intro z v hz hag hdep
        have dg : LnOk rb b b9 n x1 x9 y1 y9 wr0 KD AT N S X l 64 (z.tmps.getD 87 undef) v := hdep { on := 64, ground := .guard } (by simp) rfl _ _ rfl rfl
        simp only [LnOk] at dg
        refine .inl ⟨Go.Proofs.YtmdnnpcofbhceaaDoor.R.wanted_of (j := 64) rfl rfl rfl dg (by rw [hag.2.1]; show 87 < 95; decide), fun K hK => ?_⟩
        have d90 : z.tmps.getD 90 undef = .pointer (some ⟨rb, 3, none⟩) := hdep { on := 67, ground := .data } (by simp) rfl _ _ rfl rfl
        have e90 := d90
        rw [Array.getD_eq_getD_getElem?] at e90
        have l0 := (hz.cell (p := ⟨rb, 3, none⟩) HZa.out).trans HA3.out
        clear hz
        clear hdep hag 
        go_simp
        exact hK _ _ (Below.refl _ _) rfl
    · as_aux_lemma =>
        intro z v hz hag hdep
        have dg : LnOk rb b b9 n x1 x9 y1 y9 wr0 KD AT N S X l 64 (z.tmps.getD 87 undef) v := hdep { on := 64, ground := .guard } (by simp) rfl _ _ rfl rfl
        simp only [LnOk] at dg
        refine .inl ⟨Go.Proofs.YtmdnnpcofbhceaaDoor.R.wanted_of (j := 64) rfl rfl rfl dg (by rw [hag.2.1]; show 87 < 95; decide), fun K hK => ?_⟩
        have d89 : z.tmps.getD 89 undef = .int .i64 (n : Int) := hdep { on := 66, ground := .data } (by simp) rfl _ _ rfl rfl
        have e89 := d89
        rw [Array.getD_eq_getD_getElem?] at e89
        have d91 : z.tmps.getD 91 undef = .int .i64 S := hdep { on := 68, ground := .data } (by simp) rfl _ _ rfl rfl
        have e91 := d91
        rw [Array.getD_eq_getD_getElem?] at e91
        have HC := Lib.hid (rowBlank_any (n : Int) S v)
        have hnn : nearN (n : Int) = n := by unfold nearN; omega
        rw [hnn] at HC
        clear hdep hag hz
        go_simp
        refine HC.out.mono ?_
        intro e w' hp
        obtain ⟨x', y', rfl, h1, h2⟩ := RowPost.rowN hp (n := n) (by rw [blanks_length])
        exact hK _ _ h2 ⟨x', y', rfl, h1⟩
    · as_aux_lemma =>
        intro z v hz hag hdep
        have dg : LnOk rb b b9 n x1 x9 y1 y9 wr0 KD AT N S X l 64 (z.tmps.getD 87 undef) v := hdep { on := 64, ground := .guard } (by simp) rfl _ _ rfl rfl
        simp only [LnOk] at dg
        refine .inl ⟨Go.Proofs.YtmdnnpcofbhceaaDoor.R.wanted_of (j := 64) rfl rfl rfl dg (by rw [hag.2.1]; show 87 < 95; decide), fun K hK => ?_⟩
        have d88 : z.tmps.getD 88 undef = .agg #[.slice x9 n y9, .bool false] := hdep { on := 65, ground := .data } (by simp) rfl _ _ rfl rfl
        have e88 := d88
        rw [Array.getD_eq_getD_getElem?] at e88
        have d92' : LnOk rb b b9 n x1 x9 y1 y9 wr0 KD AT N S X l 69 (z.tmps.getD 92 undef) v := hdep { on := 69, ground := .data } (by simp) rfl _ _ rfl rfl
        simp only [LnOk] at d92'
        obtain ⟨x92, y92, d92, hr92⟩ := d92'
        have e92 := d92
        rw [Array.getD_eq_getD_getElem?] at e92
        have i1 := (HE.out.belowAll hz).of
        have i2 := hr92.of
        have HC := Lib.hid (rowSame_any x9 x92 n n y9 y92 false false (blanks n S) (blanks n S) v i1.2.1 i2.2.1 (by omega) (by omega))
        have hdd : decide ((⟨blanks n S, false⟩ : Ro) = ⟨blanks n S, false⟩) = true := by simp
        rw [hdd] at HC
        clear hdep hag hz i1 i2 hdd
        go_simp
        refine HC.out.mono ?_
        rintro e w' ⟨rfl, h2⟩
        exact hK _ _ h2 rfl
    · as_aux_lemma =>
        intro z v hz hag hdep
        refine .inl ⟨rfl, fun K hK => ?_⟩
        have d87 : z.tmps.getD 87 undef = .bool true := hdep { on := 64, ground := .data } (by simp) rfl _ _ rfl rfl
        have e87 := d87
        rw [Array.getD_eq_getD_getElem?] at e87
        have d93 : z.tmps.getD 93 undef = .bool true := hdep { on := 70, ground := .data } (by simp) rfl _ _ rfl rfl
        have e93 := d93
        rw [Array.getD_eq_getD_getElem?] at e93
        clear hz
        clear hdep hag 
        go_simp
        exact hK _ _ (Below.refl _ _) rfl

  case hdone =>
    intro z u hu hag hok hno
    clear hno
    have d94 : z.tmps.getD 94 undef = .bool true := hok 71 _ 94 (by decide) rfl rfl
    have hdf := hag.1
    have hsz := hag.2.1
    have HU : Hid (Below rb w u) := Lib.hid ((HB0.out.trans (HB5.out.mono (by rw [HS0.out]; omega))).trans (hu.mono (by have := HZa.out; omega)))
    clear hok hag hu
    show wpList _ _ _ [_] _ _
    go_wp2_with fail
    exact bodyPost_ret (results_tmp rfl _ _ _) rfl ⟨by simp [hsz], HU.out⟩
end Go.Proofs.YtmdnnpcofbhceaaDoor.K
