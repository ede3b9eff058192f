/- The law's Is of a grid: is it the document's? -/
import Derived.Test.YtmdnnpcofbhceaaDoorMerged21
namespace Go.Proofs.YtmdnnpcofbhceaaDoor.K
open Go.RowKit

/-- while Is runs: the document's grid is in block p -/
structure IsI (g q : Nat) (L : List Nat) (x : Gd) (W0 : Nat) (a : Option Addr) (n c p : Nat) (ta : Option Addr) (tc rb : Nat) (w u : World) : Prop where
  gr : Gr g q x u
  rl : RowsL .i64 L a n c x.rs u
  xb : GrB p W0 (.slice a n c) u
  tx : StrsIn ta n tc (x.rs.map txt) u
  b : Below rb w u
  s : rb ≤ u.heap.size
theorem IsI.below {g q : Nat} {L : List Nat} {x : Gd} {W0 : Nat} {a : Option Addr} {n c p : Nat} {ta : Option Addr} {tc rb : Nat} {w u v : World} (h : IsI g q L x W0 a n c p ta tc rb w u) (hb : Below u.heap.size u v) : IsI g q L x W0 a n c p ta tc rb w v :=
  ⟨h.gr.below hb, h.rl.below hb, h.xb.belowAll hb, h.tx.belowAll hb, h.b.trans (hb.mono h.s), Nat.le_trans h.s hb.size⟩
structure Is8 (g q : Nat) (L : List Nat) (x : Gd) (W0 : Nat) (a : Option Addr) (n c p tb tof tc rb : Nat) (ya : Option Addr) (yn yc : Nat) (yb : Bool) (p9 : Nat) (r : Ro) (w u : World) : Prop where
  i : IsI g q L x W0 a n c p (some ⟨tb, tof, none⟩) tc rb w u
  ro : RoB 30 p9 (.slice ya yn yc) yb u
  ry : RowV .i64 (.agg #[.slice ya yn yc, .bool yb]) r u
theorem Is8.below {g q : Nat} {L : List Nat} {x : Gd} {W0 : Nat} {a : Option Addr} {n c p tb tof tc rb : Nat} {ya : Option Addr} {yn yc : Nat} {yb : Bool} {p9 : Nat} {r : Ro} {w u v : World} (h : Is8 g q L x W0 a n c p tb tof tc rb ya yn yc yb p9 r w u) (hb : Below u.heap.size u v) : Is8 g q L x W0 a n c p tb tof tc rb ya yn yc yb p9 r w v :=
  ⟨h.i.below hb, h.ro.belowAll hb, h.ry.belowAll hb⟩
theorem Is8.cell {g q : Nat} {L : List Nat} {x : Gd} {W0 : Nat} {a : Option Addr} {n c p tb tof tc rb : Nat} {ya : Option Addr} {yn yc : Nat} {yb : Bool} {p9 : Nat} {r : Ro} {w u : World} (h : Is8 g q L x W0 a n c p tb tof tc rb ya yn yc yb p9 r w u) {j : Nat} {T : ByteArray} (hT : (x.rs.map txt)[j]? = some T) : u.cell? ⟨tb, tof + j, none⟩ = some (.string T) := by
  obtain ⟨b, off, e, -, hi⟩ := h.i.tx.at_.resolve_left (fun e => by rw [e] at hT; simp at hT)
  cases e
  exact hi j T hT
def IsOk3 (g : Nat) (x : Gd) (W0 : Nat) (a : Option Addr) (n c p : Nat) (ta : Option Addr) (tc : Nat) : Nat → Value → World → Prop
  | 0, u, _ => u = .int .i64 (W0 : Int)
  | 1, u, _ => u = .pointer (some ⟨p, 0, none⟩)
  | 2, u, _ => u = .int .i64 (W0 : Int)
  | 3, u, _ => u = .bool false
  | 4, u, _ => u = .bool false
  | 5, u, _ => u = .int .i64 (n : Int)
  | 6, u, _ => u = .pointer (some ⟨p, 1, none⟩)
  | 7, u, _ => u = .slice a n c
  | 8, u, _ => u = .int .i64 (n : Int)
  | 9, u, _ => u = .bool false
  | 10, u, _ => u = .bool false
  | 11, u, _ => u = .bool false
  | 12, u, _ => u = .pointer (some ⟨g, 0, none⟩)
  | 13, u, w => ∃ a m c, u = .slice a m c ∧ RowsL .i32 [] a m c x.rs w
  | 14, u, _ => u = .pointer (some ⟨p, 1, none⟩)
  | 15, u, _ => u = .slice a n c
  | 16, u, _ => u = .bool true
  | 17, u, _ => u = .bool false
  | 18, u, _ => u = .bool false
  | 19, u, _ => u = .bool false
  | 20, u, _ => u = .slice ta n tc
  | 21, u, _ => u = .int .i64 (n : Int)
  | 22, u, _ => u = .int .i64 (n : Int)
  | 23, u, _ => u = .bool false
  | 24, u, _ => u = .bool false
  | 25, u, _ => u = .bool false
  | 26, u, _ => u = .pointer (some ⟨g, 0, none⟩)
  | 27, u, w => ∃ a c b, u = .agg #[.slice a 0 c, .bool b]
  | 28, u, w => ∃ a c, u = .slice a 0 c
  | 29, u, _ => u = .int .i64 0
  | 30, u, _ => u = .bool false
  | 31, u, _ => u = .bool false
  | 32, u, _ => u = .bool false
  | 33, u, _ => u = .pointer (some ⟨g, 0, none⟩)
  | 34, u, _ => u = .int .i64 (n : Int)
  | 35, u, w => ∃ a c b, u = .agg #[.slice a 0 c, .bool b]
  | 36, u, w => ∃ a c, u = .slice a 0 c
  | 37, u, _ => u = .int .i64 0
  | 38, u, _ => u = .bool false
  | 39, u, _ => u = .bool false
  | _, _, _ => True
def IsOk8 (g j : Nat) (r : Ro) (T : ByteArray) (ya : Option Addr) (yn yc : Nat) (yb : Bool) (tb tof n tc : Nat) : Nat → Value → World → Prop
  | 0, u, _ => u = .pointer (some ⟨g, 0, none⟩)
  | 1, u, _ => u = .int .i64 (j : Int)
  | 2, u, w => ∃ a m c b, u = .agg #[.slice a m c, .bool b] ∧ RowV .i32 (.agg #[.slice a m c, .bool b]) r w
  | 3, u, _ => u = .agg #[.slice ya yn yc, .bool yb]
  | 4, u, _ => u = .bool true
  | 5, u, _ => u = .bool false
  | 6, u, _ => u = .bool false
  | 7, u, _ => u = .slice (some ⟨tb, tof, none⟩) n tc
  | 8, u, _ => u = .int .i64 (j : Int)
  | 9, u, _ => u = .pointer (some ⟨tb, tof + j, none⟩)
  | 10, u, _ => u = .string T
  | 11, u, _ => u = .agg #[.slice ya yn yc, .bool yb]
  | 12, u, _ => u = .string T
  | 13, u, _ => u = .bool false
  | 14, u, _ => u = .bool false
  | _, _, _ => True
set_option maxRecDepth 100000 in
set_option maxHeartbeats 16000000 in
theorem lawIs_any {g q : Nat} {L : List Nat} {x : Gd} {v : Value} (w : World) (h : Gr g q x w) (hv : RefG L v x w) :
    Calls Tryd.prog 34 #[.pointer (some ⟨g, 0, none⟩), v] w fun e w' => e = .returned (.bool true) ∧ Below w.heap.size w w' := by
  obtain ⟨rb, hrb⟩ : ∃ rb, w.heap.size = rb := ⟨_, rfl⟩
  rw [hrb]
  obtain ⟨P, hP⟩ : ∃ P : Ending → World → Prop, (fun e w' => e = .returned (.bool true) ∧ Below rb w w') = P := ⟨_, rfl⟩
  rw [hP]
  have HP := Lib.hid hP
  obtain ⟨a, n, c, rfl, hrl⟩ := hv
  unfold refV
  have hn := hrl.len
  have hx := h.ok
  obtain ⟨w1, hw1⟩ : ∃ w1, w.alloc (.cells #[.int .i64 (x.W : Int), .slice a n c] 59) = w1 := ⟨_, rfl⟩
  have b01 : Below w.heap.size w w1 := by rw [← hw1]; exact (Below.refl _ _).alloc (Nat.le_refl _) _
  have hx1 : GrB rb x.W (.slice a n c) w1 := by rw [← hw1, ← hrb]; exact GrB.new w x.W _
  have hsz : Calls Tryd.prog 43 #[.pointer (some ⟨g, 0, none⟩)] w1 fun e w' => e = .returned (.tuple #[.int .i64 (x.W : Int), .int .i64 (x.rs.length : Int)]) ∧ Below w1.heap.size w1 w' := by
    obtain ⟨us, cap, hga⟩ := h.below b01
    exact size_any w1 hga
  have hgr1 := h.below b01
  have hrl1 := hrl.below b01
  obtain ⟨W0, hW0⟩ : ∃ W0, x.W = W0 := ⟨_, rfl⟩
  rw [← hn] at hsz
  rw [hW0] at hw1 hx1 hsz
  rw [hW0]
  have hb01 : Below rb w w1 := by rw [← hrb]; exact b01
  have hs1 : rb ≤ w1.heap.size := by rw [← hrb]; exact b01.size
  have q1 : ((W0 : Int) != (W0 : Int)) = false := by simp
  have q2 : ((n : Int) != (n : Int)) = false := by simp
  have HM1 : Hid (rowAt x.rs (-1) = ⟨[], false⟩) := Lib.hid (by unfold rowAt; rw [if_neg (by omega)])
  have HN1 : Hid (rowAt x.rs (n : Int) = ⟨[], false⟩) := Lib.hid (by unfold rowAt; rw [if_neg (by omega)])
  have HN0 : Hid (n ≤ 1000) := Lib.hid (by rw [hn]; exact hx.h2)
  have HOk := Lib.hid hx
  have HLn := Lib.hid hn
  have HW1 := Lib.hid hw1
  have HRb := Lib.hid hrb
  have HX1 := Lib.hid hx1
  have HG1 := Lib.hid hgr1
  have HR1 := Lib.hid hrl1
  have HSz := Lib.hid hsz
  have HB1 : Hid (Below rb w w1 ∧ rb ≤ w1.heap.size) := Lib.hid ⟨hb01, hs1⟩
  clear hP h hrl hn hx hw1 b01 hx1 hsz hgr1 hrl1 hW0 hrb hb01 hs1
  go_enter Tryd.func34, Tryd.ntmps34
  go_upto_region 1 with fail
  try rw [HW1.out]
  try rw [HRb.out]
  go_wp2_with fail
  refine HSz.out.mono ?_
  rintro e w2 ⟨rfl, hb2⟩
  have HT2 := Lib.hid (gtext_any w2 (HG1.out.below hb2))
  have HB2 := Lib.hid hb2
  clear hb2 HSz
  go_wp2_with fail
  refine HT2.out.mono ?_
  rintro e w3 ⟨ta, tc, rfl, hS, hb3⟩
  rw [← HLn.out] at hS
  rw [← HLn.out]
  have hI : IsI g q L x W0 a n c rb ta tc rb w w3 := ⟨(HG1.out.below HB2.out).below hb3, (HR1.out.below HB2.out).below hb3, (HX1.out.belowAll HB2.out).belowAll hb3, hS, (HB1.out.1.trans (HB2.out.mono HB1.out.2)).trans (hb3.mono (Nat.le_trans HB1.out.2 HB2.out.size)), Nat.le_trans (Nat.le_trans HB1.out.2 HB2.out.size) hb3.size⟩
  have HI := Lib.hid hI
  obtain ⟨p, hp⟩ : ∃ p, rb = p := ⟨_, rfl⟩
  have HI3 : Hid (IsI g q L x W0 a n c p ta tc rb w w3) := Lib.hid (by rw [← hp]; exact hI)
  clear hI hS hb3 HT2 HB2 HB1 HX1 HG1 HR1 HI HW1
  go_upto_region 3 with fail
  try rw [hp]
  clear hp
  refine Go.Proofs.YtmdnnpcofbhceaaDoor.R.wp_region_prog [] (by kernel_rfl) (fun _ _ u => IsI g q L x W0 a n c p ta tc rb w u) (fun a b => Below a.heap.size a b) (IsOk3 g x W0 a n c p ta tc) (by rfl) (by kernel_rfl) (by kernel_rfl) (by kernel_rfl) ?hcong ?hOk ?hop ?hdone ?h0
  case hcong => intro k f f2 u hs hst; exact hst
  case hOk => intro i u w1 w2 h hr; unfold IsOk3 at h ⊢; split at h <;> first | exact h | (obtain ⟨a1, m1, c1, e, h⟩ := h; exact ⟨a1, m1, c1, e, h.below hr⟩)
  case h0 => exact HI3.out.below ((Below.refl _ _).drew)
  case hop =>
    refine ⟨?_, ?_, ?_, ?_, ?_, ?_, ?_, ?_, ?_, ?_, ?_, ?_, ?_, ?_, ?_, ?_, ?_, ?_, ?_, ?_, ?_, ?_, ?_, ?_, ?_, ?_, ?_, ?_, ?_, ?_, ?_, ?_, ?_, ?_, ?_, ?_, ?_, ?_, ?_, ?_, trivial⟩
    · intro k z v hst hag hdep
      refine .inl ⟨rfl, fun K hK => ?_⟩
      have d5 : z.tmps.getD 5 undef = .int .i64 (W0 : Int) := hag.2.2 5 (by kernel_rfl)
      have e5 := d5
      rw [Array.getD_eq_getD_getElem?] at e5
      have HSt := Lib.hid hst
      clear hdep hag hst
      go_simp
      exact hK _ _ (Below.refl _ _) rfl HSt.out
    · intro k z v hst hag hdep
      refine .inl ⟨rfl, fun K hK => ?_⟩
      have d3 : z.tmps.getD 3 undef = .pointer (some ⟨p, 0, none⟩) := hag.2.2 3 (by kernel_rfl)
      have e3 := d3
      rw [Array.getD_eq_getD_getElem?] at e3
      have HSt := Lib.hid hst
      clear hdep hag hst
      go_simp
      exact hK _ _ (Below.refl _ _) rfl HSt.out
    · intro k z v hst hag hdep
      refine .inl ⟨rfl, fun K hK => ?_⟩
      have d18 : z.tmps.getD 18 undef = .pointer (some ⟨p, 0, none⟩) := hdep { on := 1, ground := .data } (by simp) rfl _ _ rfl rfl
      have e18 := d18
      rw [Array.getD_eq_getD_getElem?] at e18
      have hst : IsI g q L x W0 a n c p ta tc rb w v := hst
      have l0 := hst.xb.c0
      have HSt := Lib.hid hst
      clear hdep hag hst
      go_simp
      exact hK _ _ (Below.refl _ _) rfl HSt.out
    · intro k z v hst hag hdep
      refine .inl ⟨rfl, fun K hK => ?_⟩
      have d17 : z.tmps.getD 17 undef = .int .i64 (W0 : Int) := hdep { on := 0, ground := .data } (by simp) rfl _ _ rfl rfl
      have e17 := d17
      rw [Array.getD_eq_getD_getElem?] at e17
      have d19 : z.tmps.getD 19 undef = .int .i64 (W0 : Int) := hdep { on := 2, ground := .data } (by simp) rfl _ _ rfl rfl
      have e19 := d19
      rw [Array.getD_eq_getD_getElem?] at e19
      have HSt := Lib.hid hst
      clear hdep hag hst
      go_simp
      exact hK _ _ (Below.refl _ _) rfl HSt.out
    · intro k z v hst hag hdep
      refine .inl ⟨rfl, fun K hK => ?_⟩
      have d20 : z.tmps.getD 20 undef = .bool false := hdep { on := 3, ground := .data } (by simp) rfl _ _ rfl rfl
      have e20 := d20
      rw [Array.getD_eq_getD_getElem?] at e20
      have HSt := Lib.hid hst
      clear hdep hag hst
      go_simp
      exact hK _ _ (Below.refl _ _) rfl HSt.out
    · intro k z v hst hag hdep
      have dg : IsOk3 g x W0 a n c p ta tc 4 (z.tmps.getD 21 undef) v := hdep { on := 4, ground := .guard } (by simp) rfl _ _ rfl rfl
      simp only [IsOk3] at dg
      refine .inl ⟨Go.Proofs.YtmdnnpcofbhceaaDoor.R.wanted_of (j := 4) rfl rfl rfl dg (by rw [hag.2.1]; show 21 < 81; decide), fun K hK => ?_⟩
      have d6 : z.tmps.getD 6 undef = .int .i64 (n : Int) := hag.2.2 6 (by kernel_rfl)
      have e6 := d6
      rw [Array.getD_eq_getD_getElem?] at e6
      have HSt := Lib.hid hst
      clear hdep hag hst
      go_simp
      exact hK _ _ (Below.refl _ _) rfl HSt.out
    · intro k z v hst hag hdep
      have dg : IsOk3 g x W0 a n c p ta tc 4 (z.tmps.getD 21 undef) v := hdep { on := 4, ground := .guard } (by simp) rfl _ _ rfl rfl
      simp only [IsOk3] at dg
      refine .inl ⟨Go.Proofs.YtmdnnpcofbhceaaDoor.R.wanted_of (j := 4) rfl rfl rfl dg (by rw [hag.2.1]; show 21 < 81; decide), fun K hK => ?_⟩
      have d3 : z.tmps.getD 3 undef = .pointer (some ⟨p, 0, none⟩) := hag.2.2 3 (by kernel_rfl)
      have e3 := d3
      rw [Array.getD_eq_getD_getElem?] at e3
      have HSt := Lib.hid hst
      clear hdep hag hst
      go_simp
      exact hK _ _ (Below.refl _ _) rfl HSt.out
    · intro k z v hst hag hdep
      have dg : IsOk3 g x W0 a n c p ta tc 4 (z.tmps.getD 21 undef) v := hdep { on := 4, ground := .guard } (by simp) rfl _ _ rfl rfl
      simp only [IsOk3] at dg
      refine .inl ⟨Go.Proofs.YtmdnnpcofbhceaaDoor.R.wanted_of (j := 4) rfl rfl rfl dg (by rw [hag.2.1]; show 21 < 81; decide), fun K hK => ?_⟩
      have d23 : z.tmps.getD 23 undef = .pointer (some ⟨p, 1, none⟩) := hdep { on := 6, ground := .data } (by simp) rfl _ _ rfl rfl
      have e23 := d23
      rw [Array.getD_eq_getD_getElem?] at e23
      have hst : IsI g q L x W0 a n c p ta tc rb w v := hst
      have l1 := hst.xb.c1
      have HSt := Lib.hid hst
      clear hdep hag hst
      go_simp
      exact hK _ _ (Below.refl _ _) rfl HSt.out
    · intro k z v hst hag hdep
      have dg : IsOk3 g x W0 a n c p ta tc 4 (z.tmps.getD 21 undef) v := hdep { on := 4, ground := .guard } (by simp) rfl _ _ rfl rfl
      simp only [IsOk3] at dg
      refine .inl ⟨Go.Proofs.YtmdnnpcofbhceaaDoor.R.wanted_of (j := 4) rfl rfl rfl dg (by rw [hag.2.1]; show 21 < 81; decide), fun K hK => ?_⟩
      have d24 : z.tmps.getD 24 undef = .slice a n c := hdep { on := 7, ground := .data } (by simp) rfl _ _ rfl rfl
      have e24 := d24
      rw [Array.getD_eq_getD_getElem?] at e24
      have HSt := Lib.hid hst
      clear hdep hag hst
      go_simp
      exact hK _ _ (Below.refl _ _) rfl HSt.out
    · intro k z v hst hag hdep
      have dg : IsOk3 g x W0 a n c p ta tc 4 (z.tmps.getD 21 undef) v := hdep { on := 4, ground := .guard } (by simp) rfl _ _ rfl rfl
      simp only [IsOk3] at dg
      refine .inl ⟨Go.Proofs.YtmdnnpcofbhceaaDoor.R.wanted_of (j := 4) rfl rfl rfl dg (by rw [hag.2.1]; show 21 < 81; decide), fun K hK => ?_⟩
      have d22 : z.tmps.getD 22 undef = .int .i64 (n : Int) := hdep { on := 5, ground := .data } (by simp) rfl _ _ rfl rfl
      have e22 := d22
      rw [Array.getD_eq_getD_getElem?] at e22
      have d25 : z.tmps.getD 25 undef = .int .i64 (n : Int) := hdep { on := 8, ground := .data } (by simp) rfl _ _ rfl rfl
      have e25 := d25
      rw [Array.getD_eq_getD_getElem?] at e25
      have HSt := Lib.hid hst
      clear hdep hag hst
      go_simp
      exact hK _ _ (Below.refl _ _) rfl HSt.out
    · intro k z v hst hag hdep
      refine .inl ⟨rfl, fun K hK => ?_⟩
      have d21 : z.tmps.getD 21 undef = .bool false := hdep { on := 4, ground := .data } (by simp) rfl _ _ rfl rfl
      have e21 := d21
      rw [Array.getD_eq_getD_getElem?] at e21
      have d26 : z.tmps.getD 26 undef = .bool false := hdep { on := 9, ground := .data } (by simp) rfl _ _ rfl rfl
      have e26 := d26
      rw [Array.getD_eq_getD_getElem?] at e26
      have HSt := Lib.hid hst
      clear hdep hag hst
      go_simp
      exact hK _ _ (Below.refl _ _) rfl HSt.out
    · intro k z v hst hag hdep
      refine .inl ⟨rfl, fun K hK => ?_⟩
      have d27 : z.tmps.getD 27 undef = .bool false := hdep { on := 10, ground := .data } (by simp) rfl _ _ rfl rfl
      have e27 := d27
      rw [Array.getD_eq_getD_getElem?] at e27
      have HSt := Lib.hid hst
      clear hdep hag hst
      go_simp
      exact hK _ _ (Below.refl _ _) rfl HSt.out
    · intro k z v hst hag hdep
      have dg : IsOk3 g x W0 a n c p ta tc 11 (z.tmps.getD 28 undef) v := hdep { on := 11, ground := .guard } (by simp) rfl _ _ rfl rfl
      simp only [IsOk3] at dg
      refine .inl ⟨Go.Proofs.YtmdnnpcofbhceaaDoor.R.wanted_of (j := 11) rfl rfl rfl dg (by rw [hag.2.1]; show 28 < 81; decide), fun K hK => ?_⟩
      have d0 : z.tmps.getD 0 undef = .pointer (some ⟨g, 0, none⟩) := hag.2.2 0 (by kernel_rfl)
      have e0 := d0
      rw [Array.getD_eq_getD_getElem?] at e0
      have HSt := Lib.hid hst
      clear hdep hag hst
      go_simp
      exact hK _ _ (Below.refl _ _) rfl HSt.out
    · intro k z v hst hag hdep
      have dg : IsOk3 g x W0 a n c p ta tc 11 (z.tmps.getD 28 undef) v := hdep { on := 11, ground := .guard } (by simp) rfl _ _ rfl rfl
      simp only [IsOk3] at dg
      refine .inl ⟨Go.Proofs.YtmdnnpcofbhceaaDoor.R.wanted_of (j := 11) rfl rfl rfl dg (by rw [hag.2.1]; show 28 < 81; decide), fun K hK => ?_⟩
      have d29 : z.tmps.getD 29 undef = .pointer (some ⟨g, 0, none⟩) := hdep { on := 12, ground := .data } (by simp) rfl _ _ rfl rfl
      have e29 := d29
      rw [Array.getD_eq_getD_getElem?] at e29
      have hst : IsI g q L x W0 a n c p ta tc rb w v := hst
      obtain ⟨us, cap, hga⟩ := hst.gr
      have HC := Lib.hid (rows_any (L := []) v hga (fun p hp => by cases hp))
      have HSt := Lib.hid hst
      clear hdep hag hst hga
      go_simp
      refine HC.out.mono ?_
      rintro e w' ⟨a6, n6, c6, us6, rfl, hR, -, -, hb⟩
      exact hK _ _ hb ⟨a6, n6, c6, rfl, hR⟩ (HSt.out.below hb)
    · intro k z v hst hag hdep
      have dg : IsOk3 g x W0 a n c p ta tc 11 (z.tmps.getD 28 undef) v := hdep { on := 11, ground := .guard } (by simp) rfl _ _ rfl rfl
      simp only [IsOk3] at dg
      refine .inl ⟨Go.Proofs.YtmdnnpcofbhceaaDoor.R.wanted_of (j := 11) rfl rfl rfl dg (by rw [hag.2.1]; show 28 < 81; decide), fun K hK => ?_⟩
      have d3 : z.tmps.getD 3 undef = .pointer (some ⟨p, 0, none⟩) := hag.2.2 3 (by kernel_rfl)
      have e3 := d3
      rw [Array.getD_eq_getD_getElem?] at e3
      have HSt := Lib.hid hst
      clear hdep hag hst
      go_simp
      exact hK _ _ (Below.refl _ _) rfl HSt.out
    · intro k z v hst hag hdep
      have dg : IsOk3 g x W0 a n c p ta tc 11 (z.tmps.getD 28 undef) v := hdep { on := 11, ground := .guard } (by simp) rfl _ _ rfl rfl
      simp only [IsOk3] at dg
      refine .inl ⟨Go.Proofs.YtmdnnpcofbhceaaDoor.R.wanted_of (j := 11) rfl rfl rfl dg (by rw [hag.2.1]; show 28 < 81; decide), fun K hK => ?_⟩
      have d31 : z.tmps.getD 31 undef = .pointer (some ⟨p, 1, none⟩) := hdep { on := 14, ground := .data } (by simp) rfl _ _ rfl rfl
      have e31 := d31
      rw [Array.getD_eq_getD_getElem?] at e31
      have hst : IsI g q L x W0 a n c p ta tc rb w v := hst
      have l1 := hst.xb.c1
      have HSt := Lib.hid hst
      clear hdep hag hst
      go_simp
      exact hK _ _ (Below.refl _ _) rfl HSt.out
    · intro k z v hst hag hdep
      have dg : IsOk3 g x W0 a n c p ta tc 11 (z.tmps.getD 28 undef) v := hdep { on := 11, ground := .guard } (by simp) rfl _ _ rfl rfl
      simp only [IsOk3] at dg
      refine .inl ⟨Go.Proofs.YtmdnnpcofbhceaaDoor.R.wanted_of (j := 11) rfl rfl rfl dg (by rw [hag.2.1]; show 28 < 81; decide), fun K hK => ?_⟩
      have d30' : IsOk3 g x W0 a n c p ta tc 13 (z.tmps.getD 30 undef) v := hdep { on := 13, ground := .data } (by simp) rfl _ _ rfl rfl
      simp only [IsOk3] at d30'
      obtain ⟨ra, rm, rc, d30, hR⟩ := d30'
      have e30 := d30
      rw [Array.getD_eq_getD_getElem?] at e30
      have d32 : z.tmps.getD 32 undef = .slice a n c := hdep { on := 15, ground := .data } (by simp) rfl _ _ rfl rfl
      have e32 := d32
      rw [Array.getD_eq_getD_getElem?] at e32
      have hst : IsI g q L x W0 a n c p ta tc rb w v := hst
      have HC := Lib.hid (lawRows_any v hR hst.rl HOk.out.rng (fun r hr => by rw [HOk.out.len r hr]; exact HOk.out.w2) (fun r hr => by rw [HOk.out.len r hr]; exact HOk.out.w2) (by rw [hR.len]; exact HOk.out.h2) HN0.out)
      rw [decide_eq_true rfl] at HC
      have HSt := Lib.hid hst
      clear hdep hag hst hR
      go_simp
      refine HC.out.mono ?_
      rintro e w' ⟨rfl, hb⟩
      exact hK _ _ hb rfl (HSt.out.below hb)
    · intro k z v hst hag hdep
      have dg : IsOk3 g x W0 a n c p ta tc 11 (z.tmps.getD 28 undef) v := hdep { on := 11, ground := .guard } (by simp) rfl _ _ rfl rfl
      simp only [IsOk3] at dg
      refine .inl ⟨Go.Proofs.YtmdnnpcofbhceaaDoor.R.wanted_of (j := 11) rfl rfl rfl dg (by rw [hag.2.1]; show 28 < 81; decide), fun K hK => ?_⟩
      have d33 : z.tmps.getD 33 undef = .bool true := hdep { on := 16, ground := .data } (by simp) rfl _ _ rfl rfl
      have e33 := d33
      rw [Array.getD_eq_getD_getElem?] at e33
      have HSt := Lib.hid hst
      clear hdep hag hst
      go_simp
      exact hK _ _ (Below.refl _ _) rfl HSt.out
    · intro k z v hst hag hdep
      refine .inl ⟨rfl, fun K hK => ?_⟩
      have d28 : z.tmps.getD 28 undef = .bool false := hdep { on := 11, ground := .data } (by simp) rfl _ _ rfl rfl
      have e28 := d28
      rw [Array.getD_eq_getD_getElem?] at e28
      have d34 : z.tmps.getD 34 undef = .bool false := hdep { on := 17, ground := .data } (by simp) rfl _ _ rfl rfl
      have e34 := d34
      rw [Array.getD_eq_getD_getElem?] at e34
      have HSt := Lib.hid hst
      clear hdep hag hst
      go_simp
      exact hK _ _ (Below.refl _ _) rfl HSt.out
    · intro k z v hst hag hdep
      refine .inl ⟨rfl, fun K hK => ?_⟩
      have d35 : z.tmps.getD 35 undef = .bool false := hdep { on := 18, ground := .data } (by simp) rfl _ _ rfl rfl
      have e35 := d35
      rw [Array.getD_eq_getD_getElem?] at e35
      have HSt := Lib.hid hst
      clear hdep hag hst
      go_simp
      exact hK _ _ (Below.refl _ _) rfl HSt.out
    · intro k z v hst hag hdep
      have dg : IsOk3 g x W0 a n c p ta tc 19 (z.tmps.getD 36 undef) v := hdep { on := 19, ground := .guard } (by simp) rfl _ _ rfl rfl
      simp only [IsOk3] at dg
      refine .inl ⟨Go.Proofs.YtmdnnpcofbhceaaDoor.R.wanted_of (j := 19) rfl rfl rfl dg (by rw [hag.2.1]; show 36 < 81; decide), fun K hK => ?_⟩
      have d7 : z.tmps.getD 7 undef = .slice ta n tc := hag.2.2 7 (by kernel_rfl)
      have e7 := d7
      rw [Array.getD_eq_getD_getElem?] at e7
      have HSt := Lib.hid hst
      clear hdep hag hst
      go_simp
      exact hK _ _ (Below.refl _ _) rfl HSt.out
    · intro k z v hst hag hdep
      have dg : IsOk3 g x W0 a n c p ta tc 19 (z.tmps.getD 36 undef) v := hdep { on := 19, ground := .guard } (by simp) rfl _ _ rfl rfl
      simp only [IsOk3] at dg
      refine .inl ⟨Go.Proofs.YtmdnnpcofbhceaaDoor.R.wanted_of (j := 19) rfl rfl rfl dg (by rw [hag.2.1]; show 36 < 81; decide), fun K hK => ?_⟩
      have d37 : z.tmps.getD 37 undef = .slice ta n tc := hdep { on := 20, ground := .data } (by simp) rfl _ _ rfl rfl
      have e37 := d37
      rw [Array.getD_eq_getD_getElem?] at e37
      have HSt := Lib.hid hst
      clear hdep hag hst
      go_simp
      exact hK _ _ (Below.refl _ _) rfl HSt.out
    · intro k z v hst hag hdep
      have dg : IsOk3 g x W0 a n c p ta tc 19 (z.tmps.getD 36 undef) v := hdep { on := 19, ground := .guard } (by simp) rfl _ _ rfl rfl
      simp only [IsOk3] at dg
      refine .inl ⟨Go.Proofs.YtmdnnpcofbhceaaDoor.R.wanted_of (j := 19) rfl rfl rfl dg (by rw [hag.2.1]; show 36 < 81; decide), fun K hK => ?_⟩
      have d6 : z.tmps.getD 6 undef = .int .i64 (n : Int) := hag.2.2 6 (by kernel_rfl)
      have e6 := d6
      rw [Array.getD_eq_getD_getElem?] at e6
      have HSt := Lib.hid hst
      clear hdep hag hst
      go_simp
      exact hK _ _ (Below.refl _ _) rfl HSt.out
    · intro k z v hst hag hdep
      have dg : IsOk3 g x W0 a n c p ta tc 19 (z.tmps.getD 36 undef) v := hdep { on := 19, ground := .guard } (by simp) rfl _ _ rfl rfl
      simp only [IsOk3] at dg
      refine .inl ⟨Go.Proofs.YtmdnnpcofbhceaaDoor.R.wanted_of (j := 19) rfl rfl rfl dg (by rw [hag.2.1]; show 36 < 81; decide), fun K hK => ?_⟩
      have d38 : z.tmps.getD 38 undef = .int .i64 (n : Int) := hdep { on := 21, ground := .data } (by simp) rfl _ _ rfl rfl
      have e38 := d38
      rw [Array.getD_eq_getD_getElem?] at e38
      have d39 : z.tmps.getD 39 undef = .int .i64 (n : Int) := hdep { on := 22, ground := .data } (by simp) rfl _ _ rfl rfl
      have e39 := d39
      rw [Array.getD_eq_getD_getElem?] at e39
      have HSt := Lib.hid hst
      clear hdep hag hst
      go_simp
      exact hK _ _ (Below.refl _ _) rfl HSt.out
    · intro k z v hst hag hdep
      refine .inl ⟨rfl, fun K hK => ?_⟩
      have d36 : z.tmps.getD 36 undef = .bool false := hdep { on := 19, ground := .data } (by simp) rfl _ _ rfl rfl
      have e36 := d36
      rw [Array.getD_eq_getD_getElem?] at e36
      have d40 : z.tmps.getD 40 undef = .bool false := hdep { on := 23, ground := .data } (by simp) rfl _ _ rfl rfl
      have e40 := d40
      rw [Array.getD_eq_getD_getElem?] at e40
      have HSt := Lib.hid hst
      clear hdep hag hst
      go_simp
      exact hK _ _ (Below.refl _ _) rfl HSt.out
    · intro k z v hst hag hdep
      refine .inl ⟨rfl, fun K hK => ?_⟩
      have d41 : z.tmps.getD 41 undef = .bool false := hdep { on := 24, ground := .data } (by simp) rfl _ _ rfl rfl
      have e41 := d41
      rw [Array.getD_eq_getD_getElem?] at e41
      have HSt := Lib.hid hst
      clear hdep hag hst
      go_simp
      exact hK _ _ (Below.refl _ _) rfl HSt.out
    · intro k z v hst hag hdep
      have dg : IsOk3 g x W0 a n c p ta tc 25 (z.tmps.getD 42 undef) v := hdep { on := 25, ground := .guard } (by simp) rfl _ _ rfl rfl
      simp only [IsOk3] at dg
      refine .inl ⟨Go.Proofs.YtmdnnpcofbhceaaDoor.R.wanted_of (j := 25) rfl rfl rfl dg (by rw [hag.2.1]; show 42 < 81; decide), fun K hK => ?_⟩
      have d0 : z.tmps.getD 0 undef = .pointer (some ⟨g, 0, none⟩) := hag.2.2 0 (by kernel_rfl)
      have e0 := d0
      rw [Array.getD_eq_getD_getElem?] at e0
      have HSt := Lib.hid hst
      clear hdep hag hst
      go_simp
      exact hK _ _ (Below.refl _ _) rfl HSt.out
    · intro k z v hst hag hdep
      have dg : IsOk3 g x W0 a n c p ta tc 25 (z.tmps.getD 42 undef) v := hdep { on := 25, ground := .guard } (by simp) rfl _ _ rfl rfl
      simp only [IsOk3] at dg
      refine .inl ⟨Go.Proofs.YtmdnnpcofbhceaaDoor.R.wanted_of (j := 25) rfl rfl rfl dg (by rw [hag.2.1]; show 42 < 81; decide), fun K hK => ?_⟩
      have d43 : z.tmps.getD 43 undef = .pointer (some ⟨g, 0, none⟩) := hdep { on := 26, ground := .data } (by simp) rfl _ _ rfl rfl
      have e43 := d43
      rw [Array.getD_eq_getD_getElem?] at e43
      have hst : IsI g q L x W0 a n c p ta tc rb w v := hst
      obtain ⟨us, cap, hga⟩ := hst.gr
      have HC := Lib.hid (row_any (-1) v hga)
      rw [HM1.out] at HC
      have HSt := Lib.hid hst
      clear hdep hag hst hga
      go_simp
      refine HC.out.mono ?_
      rintro e w' ⟨⟨pa, pn, pc, pb⟩, rfl, hR, hb⟩
      unfold Rv.val at hR ⊢
      simp only at hR ⊢
      obtain ⟨-, -, -, -, -, hpn⟩ := hR.of
      obtain rfl : pn = 0 := hpn
      exact hK _ _ hb ⟨pa, pc, pb, rfl⟩ (HSt.out.below hb)
    · intro k z v hst hag hdep
      have dg : IsOk3 g x W0 a n c p ta tc 25 (z.tmps.getD 42 undef) v := hdep { on := 25, ground := .guard } (by simp) rfl _ _ rfl rfl
      simp only [IsOk3] at dg
      refine .inl ⟨Go.Proofs.YtmdnnpcofbhceaaDoor.R.wanted_of (j := 25) rfl rfl rfl dg (by rw [hag.2.1]; show 42 < 81; decide), fun K hK => ?_⟩
      have d44' : IsOk3 g x W0 a n c p ta tc 27 (z.tmps.getD 44 undef) v := hdep { on := 27, ground := .data } (by simp) rfl _ _ rfl rfl
      simp only [IsOk3] at d44'
      obtain ⟨ea, ec, eb, d44⟩ := d44'
      have e44 := d44
      rw [Array.getD_eq_getD_getElem?] at e44
      have HSt := Lib.hid hst
      clear hdep hag hst
      go_simp
      exact hK _ _ (Below.refl _ _) ⟨ea, ec, rfl⟩ HSt.out
    · intro k z v hst hag hdep
      have dg : IsOk3 g x W0 a n c p ta tc 25 (z.tmps.getD 42 undef) v := hdep { on := 25, ground := .guard } (by simp) rfl _ _ rfl rfl
      simp only [IsOk3] at dg
      refine .inl ⟨Go.Proofs.YtmdnnpcofbhceaaDoor.R.wanted_of (j := 25) rfl rfl rfl dg (by rw [hag.2.1]; show 42 < 81; decide), fun K hK => ?_⟩
      have d45' : IsOk3 g x W0 a n c p ta tc 28 (z.tmps.getD 45 undef) v := hdep { on := 28, ground := .data } (by simp) rfl _ _ rfl rfl
      simp only [IsOk3] at d45'
      obtain ⟨ea, ec, d45⟩ := d45'
      have e45 := d45
      rw [Array.getD_eq_getD_getElem?] at e45
      have HSt := Lib.hid hst
      clear hdep hag hst
      go_simp
      exact hK _ _ (Below.refl _ _) rfl HSt.out
    · intro k z v hst hag hdep
      have dg : IsOk3 g x W0 a n c p ta tc 25 (z.tmps.getD 42 undef) v := hdep { on := 25, ground := .guard } (by simp) rfl _ _ rfl rfl
      simp only [IsOk3] at dg
      refine .inl ⟨Go.Proofs.YtmdnnpcofbhceaaDoor.R.wanted_of (j := 25) rfl rfl rfl dg (by rw [hag.2.1]; show 42 < 81; decide), fun K hK => ?_⟩
      have d46 : z.tmps.getD 46 undef = .int .i64 0 := hdep { on := 29, ground := .data } (by simp) rfl _ _ rfl rfl
      have e46 := d46
      rw [Array.getD_eq_getD_getElem?] at e46
      have HSt := Lib.hid hst
      clear hdep hag hst
      go_simp
      exact hK _ _ (Below.refl _ _) rfl HSt.out
    · intro k z v hst hag hdep
      refine .inl ⟨rfl, fun K hK => ?_⟩
      have d42 : z.tmps.getD 42 undef = .bool false := hdep { on := 25, ground := .data } (by simp) rfl _ _ rfl rfl
      have e42 := d42
      rw [Array.getD_eq_getD_getElem?] at e42
      have d47 : z.tmps.getD 47 undef = .bool false := hdep { on := 30, ground := .data } (by simp) rfl _ _ rfl rfl
      have e47 := d47
      rw [Array.getD_eq_getD_getElem?] at e47
      have HSt := Lib.hid hst
      clear hdep hag hst
      go_simp
      exact hK _ _ (Below.refl _ _) rfl HSt.out
    · intro k z v hst hag hdep
      refine .inl ⟨rfl, fun K hK => ?_⟩
      have d48 : z.tmps.getD 48 undef = .bool false := hdep { on := 31, ground := .data } (by simp) rfl _ _ rfl rfl
      have e48 := d48
      rw [Array.getD_eq_getD_getElem?] at e48
      have HSt := Lib.hid hst
      clear hdep hag hst
      go_simp
      exact hK _ _ (Below.refl _ _) rfl HSt.out
    · intro k z v hst hag hdep
      have dg : IsOk3 g x W0 a n c p ta tc 32 (z.tmps.getD 49 undef) v := hdep { on := 32, ground := .guard } (by simp) rfl _ _ rfl rfl
      simp only [IsOk3] at dg
      refine .inl ⟨Go.Proofs.YtmdnnpcofbhceaaDoor.R.wanted_of (j := 32) rfl rfl rfl dg (by rw [hag.2.1]; show 49 < 81; decide), fun K hK => ?_⟩
      have d0 : z.tmps.getD 0 undef = .pointer (some ⟨g, 0, none⟩) := hag.2.2 0 (by kernel_rfl)
      have e0 := d0
      rw [Array.getD_eq_getD_getElem?] at e0
      have HSt := Lib.hid hst
      clear hdep hag hst
      go_simp
      exact hK _ _ (Below.refl _ _) rfl HSt.out
    · intro k z v hst hag hdep
      have dg : IsOk3 g x W0 a n c p ta tc 32 (z.tmps.getD 49 undef) v := hdep { on := 32, ground := .guard } (by simp) rfl _ _ rfl rfl
      simp only [IsOk3] at dg
      refine .inl ⟨Go.Proofs.YtmdnnpcofbhceaaDoor.R.wanted_of (j := 32) rfl rfl rfl dg (by rw [hag.2.1]; show 49 < 81; decide), fun K hK => ?_⟩
      have d6 : z.tmps.getD 6 undef = .int .i64 (n : Int) := hag.2.2 6 (by kernel_rfl)
      have e6 := d6
      rw [Array.getD_eq_getD_getElem?] at e6
      have HSt := Lib.hid hst
      clear hdep hag hst
      go_simp
      exact hK _ _ (Below.refl _ _) rfl HSt.out
    · intro k z v hst hag hdep
      have dg : IsOk3 g x W0 a n c p ta tc 32 (z.tmps.getD 49 undef) v := hdep { on := 32, ground := .guard } (by simp) rfl _ _ rfl rfl
      simp only [IsOk3] at dg
      refine .inl ⟨Go.Proofs.YtmdnnpcofbhceaaDoor.R.wanted_of (j := 32) rfl rfl rfl dg (by rw [hag.2.1]; show 49 < 81; decide), fun K hK => ?_⟩
      have d50 : z.tmps.getD 50 undef = .pointer (some ⟨g, 0, none⟩) := hdep { on := 33, ground := .data } (by simp) rfl _ _ rfl rfl
      have e50 := d50
      rw [Array.getD_eq_getD_getElem?] at e50
      have d51 : z.tmps.getD 51 undef = .int .i64 (n : Int) := hdep { on := 34, ground := .data } (by simp) rfl _ _ rfl rfl
      have e51 := d51
      rw [Array.getD_eq_getD_getElem?] at e51
      have hst : IsI g q L x W0 a n c p ta tc rb w v := hst
      obtain ⟨us, cap, hga⟩ := hst.gr
      have HC := Lib.hid (row_any (n : Int) v hga)
      rw [HN1.out] at HC
      have HSt := Lib.hid hst
      clear hdep hag hst hga
      go_simp
      refine HC.out.mono ?_
      rintro e w' ⟨⟨pa, pn, pc, pb⟩, rfl, hR, hb⟩
      unfold Rv.val at hR ⊢
      simp only at hR ⊢
      obtain ⟨-, -, -, -, -, hpn⟩ := hR.of
      obtain rfl : pn = 0 := hpn
      exact hK _ _ hb ⟨pa, pc, pb, rfl⟩ (HSt.out.below hb)
    · intro k z v hst hag hdep
      have dg : IsOk3 g x W0 a n c p ta tc 32 (z.tmps.getD 49 undef) v := hdep { on := 32, ground := .guard } (by simp) rfl _ _ rfl rfl
      simp only [IsOk3] at dg
      refine .inl ⟨Go.Proofs.YtmdnnpcofbhceaaDoor.R.wanted_of (j := 32) rfl rfl rfl dg (by rw [hag.2.1]; show 49 < 81; decide), fun K hK => ?_⟩
      have d52' : IsOk3 g x W0 a n c p ta tc 35 (z.tmps.getD 52 undef) v := hdep { on := 35, ground := .data } (by simp) rfl _ _ rfl rfl
      simp only [IsOk3] at d52'
      obtain ⟨ea, ec, eb, d52⟩ := d52'
      have e52 := d52
      rw [Array.getD_eq_getD_getElem?] at e52
      have HSt := Lib.hid hst
      clear hdep hag hst
      go_simp
      exact hK _ _ (Below.refl _ _) ⟨ea, ec, rfl⟩ HSt.out
    · intro k z v hst hag hdep
      have dg : IsOk3 g x W0 a n c p ta tc 32 (z.tmps.getD 49 undef) v := hdep { on := 32, ground := .guard } (by simp) rfl _ _ rfl rfl
      simp only [IsOk3] at dg
      refine .inl ⟨Go.Proofs.YtmdnnpcofbhceaaDoor.R.wanted_of (j := 32) rfl rfl rfl dg (by rw [hag.2.1]; show 49 < 81; decide), fun K hK => ?_⟩
      have d53' : IsOk3 g x W0 a n c p ta tc 36 (z.tmps.getD 53 undef) v := hdep { on := 36, ground := .data } (by simp) rfl _ _ rfl rfl
      simp only [IsOk3] at d53'
      obtain ⟨ea, ec, d53⟩ := d53'
      have e53 := d53
      rw [Array.getD_eq_getD_getElem?] at e53
      have HSt := Lib.hid hst
      clear hdep hag hst
      go_simp
      exact hK _ _ (Below.refl _ _) rfl HSt.out
    · intro k z v hst hag hdep
      have dg : IsOk3 g x W0 a n c p ta tc 32 (z.tmps.getD 49 undef) v := hdep { on := 32, ground := .guard } (by simp) rfl _ _ rfl rfl
      simp only [IsOk3] at dg
      refine .inl ⟨Go.Proofs.YtmdnnpcofbhceaaDoor.R.wanted_of (j := 32) rfl rfl rfl dg (by rw [hag.2.1]; show 49 < 81; decide), fun K hK => ?_⟩
      have d54 : z.tmps.getD 54 undef = .int .i64 0 := hdep { on := 37, ground := .data } (by simp) rfl _ _ rfl rfl
      have e54 := d54
      rw [Array.getD_eq_getD_getElem?] at e54
      have HSt := Lib.hid hst
      clear hdep hag hst
      go_simp
      exact hK _ _ (Below.refl _ _) rfl HSt.out
    · intro k z v hst hag hdep
      refine .inl ⟨rfl, fun K hK => ?_⟩
      have d49 : z.tmps.getD 49 undef = .bool false := hdep { on := 32, ground := .data } (by simp) rfl _ _ rfl rfl
      have e49 := d49
      rw [Array.getD_eq_getD_getElem?] at e49
      have d55 : z.tmps.getD 55 undef = .bool false := hdep { on := 38, ground := .data } (by simp) rfl _ _ rfl rfl
      have e55 := d55
      rw [Array.getD_eq_getD_getElem?] at e55
      have HSt := Lib.hid hst
      clear hdep hag hst
      go_simp
      exact hK _ _ (Below.refl _ _) rfl HSt.out
  case hdone =>
    intro z v hst hag hok
    have hst : IsI g q L x W0 a n c p ta tc rb w v := hst
    have d56 : z.tmps.getD 56 undef = .bool false := hok 39 _ 56 rfl rfl
    have HS := Lib.hid hst
    have k1 := hst.xb.c1
    clear hst HI3
    obtain ⟨uu, hu, hzz⟩ := Go.Proofs.YtmdnnpcofbhceaaDoor.R.agree_frame [17, 18, 19, 20, 21, 22, 23, 24, 25, 26, 27, 28, 29, 30, 31, 32, 33, 34, 35, 36, 37, 38, 39, 40, 41, 42, 43, 44, 45, 46, 47, 48, 49, 50, 51, 52, 53, 54, 55, 56] rfl hag
    have e56 := (hu 56).trans d56
    subst hzz
    simp only [List.foldl_cons, List.foldl_nil]
    rw [e56]
    clear e56 d56 hu hag hok
    try dsimp only [Exit.then]
    simp only [List.setIfInBounds_toArray, List.set_cons_succ, List.set_cons_zero]
    generalize uu 17 = u17', uu 18 = u18', uu 19 = u19', uu 20 = u20', uu 21 = u21', uu 22 = u22', uu 23 = u23', uu 24 = u24', uu 25 = u25', uu 26 = u26', uu 27 = u27', uu 28 = u28', uu 29 = u29', uu 30 = u30', uu 31 = u31', uu 32 = u32', uu 33 = u33', uu 34 = u34', uu 35 = u35', uu 36 = u36', uu 37 = u37', uu 38 = u38', uu 39 = u39', uu 40 = u40', uu 41 = u41', uu 42 = u42', uu 43 = u43', uu 44 = u44', uu 45 = u45', uu 46 = u46', uu 47 = u47', uu 48 = u48', uu 49 = u49', uu 50 = u50', uu 51 = u51', uu 52 = u52', uu 53 = u53', uu 54 = u54', uu 55 = u55'
    clear uu
    rename_i K hK
    refine hK _ _ ?_
    go_wp2_with fail
    clear k1
    go_loopw [60] (fun i wr => ∃ j : Nat, i = .int .i64 (j : Int) ∧ j ≤ n ∧ Hid (IsI g q L x W0 a n c p ta tc rb w wr)) (fun i _ => n - (intOf i).toNat)
    case atStart => exact ⟨0, rfl, by omega, Lib.hid HS.out⟩
    case round =>
      obtain ⟨j, rfl, hj, HF⟩ := hrel
      clear HS
      have hn0 := HN0.out
      by_cases hlt : j < n
      · have hd : decide (j < n) = true := decide_eq_true hlt
        have hjI : (j : Int) < n := by omega
        have hjl : j < x.rs.length := by rw [← HLn.out]; exact hlt
        obtain ⟨vs, hi, hv, -⟩ := HF.out.rl.ex
        have hvl : j < vs.length := by rw [← hi.len]; exact hlt
        obtain ⟨b2, o2, rfl, hb2, hAt⟩ := hi.at_.resolve_left (by intro e; rw [e] at hvl; simp at hvl)
        have hat := hAt j vs[j] (List.getElem?_eq_getElem hvl)
        have hrv := hv.2 j vs[j] x.rs[j] (List.getElem?_eq_getElem hvl) (List.getElem?_eq_getElem hjl)
        obtain ⟨⟨ya, yn, yc, yb⟩, hvj⟩ : ∃ u, vs[j] = u := ⟨_, rfl⟩
        have hlen := HOk.out.len x.rs[j] (List.getElem_mem hjl)
        have hrng := HOk.out.rng x.rs[j] (List.getElem_mem hjl)
        have hrow : rowAt x.rs (j : Int) = x.rs[j] := by
          unfold rowAt
          rw [if_pos (by omega), Int.toNat_natCast, List.getD_eq_getElem?_getD, List.getElem?_eq_getElem hjl]
          rfl
        have htc : (x.rs.map txt)[j]? = some (txt x.rs[j]) := by simp [hjl]
        obtain ⟨r, hr⟩ : ∃ r, x.rs[j] = r := ⟨_, rfl⟩
        rw [hr] at hrv hlen hrng hrow htc
        rw [hvj] at hat hrv
        unfold Rv.val at hrv
        simp only at hat hrv
        obtain ⟨T, hTt⟩ : ∃ T, txt r = T := ⟨_, rfl⟩
        rw [hTt] at htc
        obtain ⟨tb, tof, hta, -, -⟩ := HF.out.tx.at_.resolve_left (by intro e; rw [e] at htc; cases htc)
        subst hta
        have l0 := hat.1
        have l1 := hat.2
        have HRw := Lib.hid hrow
        have HRr : Hid (r.l.length ≤ 1000 ∧ AllC Rng r.l) := Lib.hid ⟨by rw [hlen]; exact HOk.out.w2, hrng⟩
        have HTc := Lib.hid htc
        have HTt := Lib.hid hTt
        obtain ⟨p9, hp9⟩ : ∃ p, wr.heap.size = p := ⟨_, rfl⟩
        obtain ⟨w4, hw4⟩ : ∃ w4, wr.alloc (.cells #[.slice ya yn yc, .bool yb] 30) = w4 := ⟨_, rfl⟩
        have b4 : Below wr.heap.size wr w4 := by rw [← hw4]; exact (Below.refl _ _).alloc (Nat.le_refl _) _
        have H8 : Hid (Is8 g q L x W0 (some ⟨b2, o2, none⟩) n c p tb tof tc rb ya yn yc yb p9 r w w4) := Lib.hid ⟨HF.out.below b4, by rw [← hw4, ← hp9]; exact RoB.new _ wr _ _, hrv.belowAll b4⟩
        have HP9 := Lib.hid hp9
        have HW4 := Lib.hid hw4
        clear hi hv hvl hAt hat hrv hvj hlen hrng hrow htc hr hTt hp9 hw4 b4 hjl
        go_upto_region 8 with fail
        try rw [HP9.out]
        try rw [HW4.out]
        refine Go.Proofs.YtmdnnpcofbhceaaDoor.R.wp_region_prog [] (by kernel_rfl) (fun _ _ u => Is8 g q L x W0 (some ⟨b2, o2, none⟩) n c p tb tof tc rb ya yn yc yb p9 r w u) (fun a b => Below a.heap.size a b) (IsOk8 g j r T ya yn yc yb tb tof n tc) (by rfl) (by kernel_rfl) (by kernel_rfl) (by kernel_rfl) ?hcong ?hOk ?hop ?hdone ?h0
        case hcong => intro k f f2 u hs hst; exact hst
        case hOk => intro i u w1 w2 h hr; unfold IsOk8 at h ⊢; split at h <;> first | exact h | (obtain ⟨a1, m1, c1, b1, e, h⟩ := h; exact ⟨a1, m1, c1, b1, e, h.belowAll hr⟩)
        case h0 => exact H8.out.below ((Below.refl _ _).drew)
        case hop =>
          refine ⟨?_, ?_, ?_, ?_, ?_, ?_, ?_, ?_, ?_, ?_, ?_, ?_, ?_, ?_, ?_, trivial⟩
          · intro k z v hst hag hdep
            refine .inl ⟨rfl, fun K hK => ?_⟩
            have d0 : z.tmps.getD 0 undef = .pointer (some ⟨g, 0, none⟩) := hag.2.2 0 (by kernel_rfl)
            have e0 := d0
            rw [Array.getD_eq_getD_getElem?] at e0
            have HSt := Lib.hid hst
            clear hdep hag hst
            go_simp
            exact hK _ _ (Below.refl _ _) rfl HSt.out
          · intro k z v hst hag hdep
            refine .inl ⟨rfl, fun K hK => ?_⟩
            have d8 : z.tmps.getD 8 undef = .int .i64 (j : Int) := hag.2.2 8 (by kernel_rfl)
            have e8 := d8
            rw [Array.getD_eq_getD_getElem?] at e8
            have HSt := Lib.hid hst
            clear hdep hag hst
            go_simp
            exact hK _ _ (Below.refl _ _) rfl HSt.out
          · intro k z v hst hag hdep
            refine .inl ⟨rfl, fun K hK => ?_⟩
            have d65 : z.tmps.getD 65 undef = .pointer (some ⟨g, 0, none⟩) := hdep { on := 0, ground := .data } (by simp) rfl _ _ rfl rfl
            have e65 := d65
            rw [Array.getD_eq_getD_getElem?] at e65
            have d66 : z.tmps.getD 66 undef = .int .i64 (j : Int) := hdep { on := 1, ground := .data } (by simp) rfl _ _ rfl rfl
            have e66 := d66
            rw [Array.getD_eq_getD_getElem?] at e66
            have hst : Is8 g q L x W0 (some ⟨b2, o2, none⟩) n c p tb tof tc rb ya yn yc yb p9 r w v := hst
            obtain ⟨us, cap, hga⟩ := hst.i.gr
            have HC := Lib.hid (row_any (j : Int) v hga)
            rw [HRw.out] at HC
            have HSt := Lib.hid hst
            clear hdep hag hst hga
            go_simp
            refine HC.out.mono ?_
            rintro e w' ⟨⟨pa, pn, pc, pb⟩, rfl, hR, hb⟩
            unfold Rv.val at hR ⊢
            simp only at hR ⊢
            exact hK _ _ hb ⟨pa, pn, pc, pb, rfl, hR⟩ (HSt.out.below hb)
          · intro k z v hst hag hdep
            refine .inl ⟨rfl, fun K hK => ?_⟩
            have d9 : z.tmps.getD 9 undef = .pointer (some ⟨p9, 0, none⟩) := hag.2.2 9 (by kernel_rfl)
            have e9 := d9
            rw [Array.getD_eq_getD_getElem?] at e9
            have hst : Is8 g q L x W0 (some ⟨b2, o2, none⟩) n c p tb tof tc rb ya yn yc yb p9 r w v := hst
            have l0 := hst.ro.c0
            have l1 := hst.ro.c1
            have HSt := Lib.hid hst
            clear hdep hag hst
            go_simp
            exact hK _ _ (Below.refl _ _) rfl HSt.out
          · intro k z v hst hag hdep
            refine .inl ⟨rfl, fun K hK => ?_⟩
            have d67' : IsOk8 g j r T ya yn yc yb tb tof n tc 2 (z.tmps.getD 67 undef) v := hdep { on := 2, ground := .data } (by simp) rfl _ _ rfl rfl
            simp only [IsOk8] at d67'
            obtain ⟨ra, rm, rc, rb2, d67, hR⟩ := d67'
            have e67 := d67
            rw [Array.getD_eq_getD_getElem?] at e67
            have d68 : z.tmps.getD 68 undef = .agg #[.slice ya yn yc, .bool yb] := hdep { on := 3, ground := .data } (by simp) rfl _ _ rfl rfl
            have e68 := d68
            rw [Array.getD_eq_getD_getElem?] at e68
            have hst : Is8 g q L x W0 (some ⟨b2, o2, none⟩) n c p tb tof tc rb ya yn yc yb p9 r w v := hst
            have HC := Lib.hid (isRow_any hR hst.ry HRr.out.2 HRr.out.1 HRr.out.1)
            rw [decide_eq_true rfl] at HC
            have HSt := Lib.hid hst
            clear hdep hag hst hR
            go_simp
            refine HC.out.mono ?_
            rintro e w' ⟨rfl, hb⟩
            exact hK _ _ hb rfl (HSt.out.below hb)
          · intro k z v hst hag hdep
            refine .inl ⟨rfl, fun K hK => ?_⟩
            have d69 : z.tmps.getD 69 undef = .bool true := hdep { on := 4, ground := .data } (by simp) rfl _ _ rfl rfl
            have e69 := d69
            rw [Array.getD_eq_getD_getElem?] at e69
            have HSt := Lib.hid hst
            clear hdep hag hst
            go_simp
            exact hK _ _ (Below.refl _ _) rfl HSt.out
          · intro k z v hst hag hdep
            refine .inl ⟨rfl, fun K hK => ?_⟩
            have d70 : z.tmps.getD 70 undef = .bool false := hdep { on := 5, ground := .data } (by simp) rfl _ _ rfl rfl
            have e70 := d70
            rw [Array.getD_eq_getD_getElem?] at e70
            have HSt := Lib.hid hst
            clear hdep hag hst
            go_simp
            exact hK _ _ (Below.refl _ _) rfl HSt.out
          · intro k z v hst hag hdep
            have dg : IsOk8 g j r T ya yn yc yb tb tof n tc 6 (z.tmps.getD 71 undef) v := hdep { on := 6, ground := .guard } (by simp) rfl _ _ rfl rfl
            simp only [IsOk8] at dg
            refine .inl ⟨Go.Proofs.YtmdnnpcofbhceaaDoor.R.wanted_of (j := 6) rfl rfl rfl dg (by rw [hag.2.1]; show 71 < 81; decide), fun K hK => ?_⟩
            have d7 : z.tmps.getD 7 undef = .slice (some ⟨tb, tof, none⟩) n tc := hag.2.2 7 (by kernel_rfl)
            have e7 := d7
            rw [Array.getD_eq_getD_getElem?] at e7
            have HSt := Lib.hid hst
            clear hdep hag hst
            go_simp
            exact hK _ _ (Below.refl _ _) rfl HSt.out
          · intro k z v hst hag hdep
            have dg : IsOk8 g j r T ya yn yc yb tb tof n tc 6 (z.tmps.getD 71 undef) v := hdep { on := 6, ground := .guard } (by simp) rfl _ _ rfl rfl
            simp only [IsOk8] at dg
            refine .inl ⟨Go.Proofs.YtmdnnpcofbhceaaDoor.R.wanted_of (j := 6) rfl rfl rfl dg (by rw [hag.2.1]; show 71 < 81; decide), fun K hK => ?_⟩
            have d8 : z.tmps.getD 8 undef = .int .i64 (j : Int) := hag.2.2 8 (by kernel_rfl)
            have e8 := d8
            rw [Array.getD_eq_getD_getElem?] at e8
            have HSt := Lib.hid hst
            clear hdep hag hst
            go_simp
            exact hK _ _ (Below.refl _ _) rfl HSt.out
          · intro k z v hst hag hdep
            have dg : IsOk8 g j r T ya yn yc yb tb tof n tc 6 (z.tmps.getD 71 undef) v := hdep { on := 6, ground := .guard } (by simp) rfl _ _ rfl rfl
            simp only [IsOk8] at dg
            refine .inl ⟨Go.Proofs.YtmdnnpcofbhceaaDoor.R.wanted_of (j := 6) rfl rfl rfl dg (by rw [hag.2.1]; show 71 < 81; decide), fun K hK => ?_⟩
            have d72 : z.tmps.getD 72 undef = .slice (some ⟨tb, tof, none⟩) n tc := hdep { on := 7, ground := .data } (by simp) rfl _ _ rfl rfl
            have e72 := d72
            rw [Array.getD_eq_getD_getElem?] at e72
            have d73 : z.tmps.getD 73 undef = .int .i64 (j : Int) := hdep { on := 8, ground := .data } (by simp) rfl _ _ rfl rfl
            have e73 := d73
            rw [Array.getD_eq_getD_getElem?] at e73
            have HSt := Lib.hid hst
            clear hdep hag hst
            go_simp
            exact hK _ _ (Below.refl _ _) rfl HSt.out
          · intro k z v hst hag hdep
            have dg : IsOk8 g j r T ya yn yc yb tb tof n tc 6 (z.tmps.getD 71 undef) v := hdep { on := 6, ground := .guard } (by simp) rfl _ _ rfl rfl
            simp only [IsOk8] at dg
            refine .inl ⟨Go.Proofs.YtmdnnpcofbhceaaDoor.R.wanted_of (j := 6) rfl rfl rfl dg (by rw [hag.2.1]; show 71 < 81; decide), fun K hK => ?_⟩
            have d74 : z.tmps.getD 74 undef = .pointer (some ⟨tb, tof + j, none⟩) := hdep { on := 9, ground := .data } (by simp) rfl _ _ rfl rfl
            have e74 := d74
            rw [Array.getD_eq_getD_getElem?] at e74
            have hst : Is8 g q L x W0 (some ⟨b2, o2, none⟩) n c p tb tof tc rb ya yn yc yb p9 r w v := hst
            have l0 := hst.cell HTc.out
            have HSt := Lib.hid hst
            clear hdep hag hst
            go_simp
            exact hK _ _ (Below.refl _ _) rfl HSt.out
          · intro k z v hst hag hdep
            have dg : IsOk8 g j r T ya yn yc yb tb tof n tc 6 (z.tmps.getD 71 undef) v := hdep { on := 6, ground := .guard } (by simp) rfl _ _ rfl rfl
            simp only [IsOk8] at dg
            refine .inl ⟨Go.Proofs.YtmdnnpcofbhceaaDoor.R.wanted_of (j := 6) rfl rfl rfl dg (by rw [hag.2.1]; show 71 < 81; decide), fun K hK => ?_⟩
            have d9 : z.tmps.getD 9 undef = .pointer (some ⟨p9, 0, none⟩) := hag.2.2 9 (by kernel_rfl)
            have e9 := d9
            rw [Array.getD_eq_getD_getElem?] at e9
            have hst : Is8 g q L x W0 (some ⟨b2, o2, none⟩) n c p tb tof tc rb ya yn yc yb p9 r w v := hst
            have l0 := hst.ro.c0
            have l1 := hst.ro.c1
            have HSt := Lib.hid hst
            clear hdep hag hst
            go_simp
            exact hK _ _ (Below.refl _ _) rfl HSt.out
          · intro k z v hst hag hdep
            have dg : IsOk8 g j r T ya yn yc yb tb tof n tc 6 (z.tmps.getD 71 undef) v := hdep { on := 6, ground := .guard } (by simp) rfl _ _ rfl rfl
            simp only [IsOk8] at dg
            refine .inl ⟨Go.Proofs.YtmdnnpcofbhceaaDoor.R.wanted_of (j := 6) rfl rfl rfl dg (by rw [hag.2.1]; show 71 < 81; decide), fun K hK => ?_⟩
            have d76 : z.tmps.getD 76 undef = .agg #[.slice ya yn yc, .bool yb] := hdep { on := 11, ground := .data } (by simp) rfl _ _ rfl rfl
            have e76 := d76
            rw [Array.getD_eq_getD_getElem?] at e76
            have hst : Is8 g q L x W0 (some ⟨b2, o2, none⟩) n c p tb tof tc rb ya yn yc yb p9 r w v := hst
            have HC := Lib.hid (refText_any (p := ⟨ya, yn, yc, yb⟩) v hst.ry HRr.out.1)
            unfold Rv.val at HC
            simp only at HC
            rw [HTt.out] at HC
            have HSt := Lib.hid hst
            clear hdep hag hst
            go_simp
            refine HC.out.mono ?_
            rintro e w' ⟨rfl, hb⟩
            exact hK _ _ hb rfl (HSt.out.below hb)
          · intro k z v hst hag hdep
            have dg : IsOk8 g j r T ya yn yc yb tb tof n tc 6 (z.tmps.getD 71 undef) v := hdep { on := 6, ground := .guard } (by simp) rfl _ _ rfl rfl
            simp only [IsOk8] at dg
            refine .inl ⟨Go.Proofs.YtmdnnpcofbhceaaDoor.R.wanted_of (j := 6) rfl rfl rfl dg (by rw [hag.2.1]; show 71 < 81; decide), fun K hK => ?_⟩
            have d75 : z.tmps.getD 75 undef = .string T := hdep { on := 10, ground := .data } (by simp) rfl _ _ rfl rfl
            have e75 := d75
            rw [Array.getD_eq_getD_getElem?] at e75
            have d77 : z.tmps.getD 77 undef = .string T := hdep { on := 12, ground := .data } (by simp) rfl _ _ rfl rfl
            have e77 := d77
            rw [Array.getD_eq_getD_getElem?] at e77
            have HSt := Lib.hid hst
            clear hdep hag hst
            go_simp
            exact hK _ _ (Below.refl _ _) rfl HSt.out
          · intro k z v hst hag hdep
            refine .inl ⟨rfl, fun K hK => ?_⟩
            have d71 : z.tmps.getD 71 undef = .bool false := hdep { on := 6, ground := .data } (by simp) rfl _ _ rfl rfl
            have e71 := d71
            rw [Array.getD_eq_getD_getElem?] at e71
            have d78 : z.tmps.getD 78 undef = .bool false := hdep { on := 13, ground := .data } (by simp) rfl _ _ rfl rfl
            have e78 := d78
            rw [Array.getD_eq_getD_getElem?] at e78
            have HSt := Lib.hid hst
            clear hdep hag hst
            go_simp
            exact hK _ _ (Below.refl _ _) rfl HSt.out
        case hdone =>
          intro z v hst hag hok
          have hst : Is8 g q L x W0 (some ⟨b2, o2, none⟩) n c p tb tof tc rb ya yn yc yb p9 r w v := hst
          have d79 : z.tmps.getD 79 undef = .bool false := hok 14 _ 79 rfl rfl
          have HI := Lib.hid hst.i
          clear hst H8 l0 l1
          obtain ⟨uu, hu, hzz⟩ := Go.Proofs.YtmdnnpcofbhceaaDoor.R.agree_frame [65, 66, 67, 68, 69, 70, 71, 72, 73, 74, 75, 76, 77, 78, 79] rfl hag
          have e79 := (hu 79).trans d79
          subst hzz
          simp only [List.foldl_cons, List.foldl_nil]
          rw [e79]
          clear e79 d79 hu hag hok
          try dsimp only [Exit.then]
          simp only [List.setIfInBounds_toArray, List.set_cons_succ, List.set_cons_zero]
          generalize uu 65 = u65', uu 66 = u66', uu 67 = u67', uu 68 = u68', uu 69 = u69', uu 70 = u70', uu 71 = u71', uu 72 = u72', uu 73 = u73', uu 74 = u74', uu 75 = u75', uu 76 = u76', uu 77 = u77', uu 78 = u78'
          clear uu
          rename_i K hK
          refine hK _ _ ?_
          go_wp2_with fail
          go_roundw
          case rel => exact ⟨j + 1, by go_num, by omega, HI⟩
          case measure => simp [intOf]; omega
      · have hd : decide (j < n) = false := decide_eq_false hlt
        have hend : Hid (P (.returned (.bool true)) wr) := Lib.hid (by rw [← HP.out]; exact ⟨rfl, HF.out.b⟩)
        clear HF
        go_wp2_with fail
        exact hend.out
end Go.Proofs.YtmdnnpcofbhceaaDoor.K
