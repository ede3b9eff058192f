/- GridClones: a clone is alike, and goes its own way: the walk. -/
import Derived.Test.YtmdnnpcofbhceaaDoorJSy2
namespace Go.Proofs.YtmdnnpcofbhceaaDoor.K
open Go.RowKit

/-- while a row is looked at -/
structure Sy26 (m g px : Nat) (x : Gd) (a0 : Option Addr) (n0 c0 : Nat) (cg py : Nat) (y : Gd) (yb yo ny cy j : Nat) (xa : Option Addr) (xn xc : Nat) (xb : Bool) (r2 : Ro) (w u : World) : Prop where
  i : Syn2 m g px x a0 n0 c0 cg py y (refV y.W (some ⟨yb, yo, none⟩) ny cy) y.W (.slice (some ⟨yb, yo, none⟩) ny cy) w u
  lt : yb < u.heap.size
  k0 : u.cell? ⟨yb, yo + j * 2, none⟩ = some (.slice xa xn xc)
  k1 : u.cell? ⟨yb, yo + j * 2 + 1, none⟩ = some (.bool xb)
  ry : RowV .i64 (.agg #[.slice xa xn xc, .bool xb]) r2 u
theorem Sy26.below {m g px : Nat} {x : Gd} {a0 : Option Addr} {n0 c0 : Nat} {cg py : Nat} {y : Gd} {yb yo ny cy j : Nat} {xa : Option Addr} {xn xc : Nat} {xb : Bool} {r2 : Ro} {w u v : World} (h : Sy26 m g px x a0 n0 c0 cg py y yb yo ny cy j xa xn xc xb r2 w u) (hb : Below u.heap.size u v) : Sy26 m g px x a0 n0 c0 cg py y yb yo ny cy j xa xn xc xb r2 w v :=
  ⟨h.i.below hb, Nat.lt_of_lt_of_le h.lt hb.size, (hb.cell (p := ⟨yb, yo + j * 2, none⟩) h.lt).trans h.k0, (hb.cell (p := ⟨yb, yo + j * 2 + 1, none⟩) h.lt).trans h.k1, h.ry.belowAll hb⟩
def ClOkA (g ab ao na ca j : Nat) (xj : Gd) (A : ActG) (a : Option Addr) (n c : Nat) : Nat → Value → World → Prop
  | 0, u, _ => u = .pointer (some ⟨g, 0, none⟩)
  | 1, u, _ => u = .agg #[.int .i64 (xj.W : Int), .slice a n c]
  | 2, u, _ => u = .slice (some ⟨ab, ao, none⟩) na ca
  | 3, u, _ => u = .int .i64 (j : Int)
  | 4, u, _ => u = .pointer (some ⟨ab, ao + j * 13, none⟩)
  | 5, u, _ => u = .agg (actC A)
  | 6, _, _ => True
  | 7, u, w => ∃ a, u = .tuple #[a, .bool true]
  | 8, _, _ => True
  | 9, u, _ => u = .bool true
  | 10, _, _ => True
  | 11, u, _ => u = .bool true
  | _, _, _ => True
def ClOkB (g ab ao na ca j : Nat) (xj : Gd) (A : ActG) (a : Option Addr) (n c : Nat) : Nat → Value → World → Prop
  | 0, u, _ => u = .pointer (some ⟨g, 0, none⟩)
  | 1, u, _ => u = .agg #[.int .i64 (xj.W : Int), .slice a n c]
  | 2, u, _ => u = .slice (some ⟨ab, ao, none⟩) na ca
  | 3, u, _ => u = .int .i64 (j : Int)
  | 4, u, _ => u = .pointer (some ⟨ab, ao + j * 13, none⟩)
  | 5, u, _ => u = .agg (actC A)
  | 6, _, _ => True
  | 7, u, w => ∃ a, u = .tuple #[a, .bool true]
  | 8, _, _ => True
  | 9, u, _ => u = .bool true
  | 10, _, _ => True
  | 11, u, _ => u = .bool true
  | _, _, _ => True
def ClOkC (B g : Nat) (xj : Gd) (a : Option Addr) (n c : Nat) : Nat → Value → World → Prop
  | 0, u, _ => u = .pointer (some ⟨g, 0, none⟩)
  | 1, _, _ => True
  | 2, u, _ => u = .agg #[.int .i64 (xj.W : Int), .slice a n c]
  | 3, u, w => ∃ p a b, u = .pointer (some ⟨p, 0, none⟩) ∧ B ≤ p ∧ w.heap[p]? = some (.cells #[a, b] 59 (0, 0))
  | 4, _, _ => True
  | 5, _, _ => True
  | _, _, _ => True
def ClOkD (g py j : Nat) (r1 : Ro) (D1 : Bool) (yb yo ny cy : Nat) (xa : Option Addr) (xn xc : Nat) (xb : Bool) : Nat → Value → World → Prop
  | 0, u, _ => u = .pointer (some ⟨g, 0, none⟩)
  | 1, u, _ => u = .int .i64 (j : Int)
  | 2, u, w => ∃ a m c b, u = .agg #[.slice a m c, .bool b] ∧ RowV .i32 (.agg #[.slice a m c, .bool b]) r1 w
  | 3, u, _ => u = .pointer (some ⟨py, 1, none⟩)
  | 4, u, _ => u = .slice (some ⟨yb, yo, none⟩) ny cy
  | 5, u, _ => u = .int .i64 (j : Int)
  | 6, u, _ => u = .pointer (some ⟨yb, yo + j * 2, none⟩)
  | 7, u, _ => u = .agg #[.slice xa xn xc, .bool xb]
  | 8, u, _ => u = .bool D1
  | 9, u, _ => u = .bool D1
  | _, _, _ => True
set_option maxRecDepth 100000 in
set_option maxHeartbeats 16000000 in
theorem clones_walk (aa : Option Addr) (na ca : Nat) (la : List ActG) (am : Option Addr) (nm cm : Nat) (lm : List ActG) (w : World) (hT : W.Tab w) (hA : GActsIn aa na ca la w) (hM : GActsIn am nm cm lm w) :
    Calls Tryd.prog 8 #[.slice aa na ca, .slice am nm cm] w fun e w' => e = .returned (.bool true) ∧ Below w.heap.size w w' := by
  obtain ⟨rb, hrb⟩ : ∃ rb, w.heap.size = rb := ⟨_, rfl⟩
  rw [hrb]
  obtain ⟨P, hP⟩ : ∃ P : Ending → World → Prop, (fun e w' => e = .returned (.bool true) ∧ Below rb w w') = P := ⟨_, rfl⟩
  rw [hP]
  have HP := Lib.hid hP
  have HRb := Lib.hid hrb
  have HT0 := Lib.hid hT
  have HA0 := Lib.hid hA
  have HM0 := Lib.hid hM
  have HLn := Lib.hid hA.len
  have HLm := Lib.hid hM.len
  have hfit : (na : Int) ≤ ca := by have := hA.fit; omega
  have htop := hA.top
  have hfitm : (nm : Int) ≤ cm := by have := hM.fit; omega
  have htopm := hM.top
  have HAw := Lib.hid (gawake_any w hT)
  clear hP hrb hT hA hM
  go_enter Tryd.func8, Tryd.ntmps8
  go_upto_region 3 with (go_at_call 29; refine HAw.out.mono ?_; rintro e w1 ⟨rfl, hb1⟩)
  have HB1 : Hid (Below rb w w1) := Lib.hid (by rw [← HRb.out]; exact hb1)
  clear hb1 HAw
  have HN := Lib.hid (gnew_any 5 4 w1)
  go_wp2_with fail
  refine HN.out.mono ?_
  rintro e w2 ⟨g, q, rfl, hg, hq, hG, hb2⟩
  have hs1 : rb ≤ w1.heap.size := by have := HB1.out.size; have := HRb.out; omega
  have HGq : Hid (rb ≤ g ∧ rb ≤ q) := Lib.hid (by omega)
  have HG := Lib.hid hG
  have HB2 : Hid (Below rb w w2) := Lib.hid (HB1.out.trans (hb2.mono hs1))
  have HS2 : Hid (rb ≤ w2.heap.size) := Lib.hid (by have := hb2.size; omega)
  clear hg hq hG hb2 hs1 HN
  have HN := Lib.hid (refNew_any (L := [g, q]) 5 4 w2 (fun p hp => by
    have h2 : p = g ∨ p = q := by simpa using hp
    have := HG.out.lt
    omega))
  obtain ⟨x0, hx0⟩ : ∃ x0, newG 5 4 = x0 := ⟨_, rfl⟩
  rw [hx0] at HN HG
  have HX0 := Lib.hid hx0
  clear hx0
  go_wp2_with fail
  refine HN.out.mono ?_
  rintro e w3 ⟨v3, rfl, hR3, hb3⟩
  obtain ⟨a3, n3, c3, rfl, hl3⟩ := hR3
  unfold refV
  obtain ⟨px, hpx⟩ : ∃ p, w3.heap.size = p := ⟨_, rfl⟩
  obtain ⟨w4, hw4⟩ : ∃ w4, w3.alloc (.cells #[.int .i64 (x0.W : Int), .slice a3 n3 c3] 59) = w4 := ⟨_, rfl⟩
  have hS := SynQ.init (m := rb) (oa := none) (w0 := w) (L := [g, q]) HGq.out.1 HGq.out.2 (fun p hp => by
    have h2 : p = g ∨ p = q := by simpa using hp
    have := HG.out.lt
    have := hb3.size
    omega) (HG.out.below hb3) ⟨a3, n3, c3, rfl, hl3⟩ (by simp) (by simp) (HB2.out.trans (hb3.mono HS2.out)) (Nat.le_trans HS2.out hb3.size) (fun p A e => by cases e)
  rw [hpx, hw4] at hS
  have HS := Lib.hid hS
  have HPx := Lib.hid hpx
  have HW4 := Lib.hid hw4
  clear hS hl3 hb3 hpx hw4 HG HN
  go_upto_region 4 with fail
  rw [HPx.out, HW4.out]
  go_wp2_with fail
  go_loopw [8] (fun i wr => ∃ j : Nat, i = .int .i64 (j : Int) ∧ j ≤ na ∧ Hid (∃ a n c, SynQ rb g px none (playG x0 la j) (refV (playG x0 la j).W a n c) (playG x0 la j).W (.slice a n c) w wr)) (fun i _ => na - (intOf i).toNat)
  case atStart => exact ⟨0, rfl, by omega, Lib.hid ⟨a3, n3, c3, HS.out⟩⟩
  case round =>
    obtain ⟨j, rfl, hj, HF⟩ := hrel
    clear HS
    obtain ⟨a, n, c, hS⟩ := HF.out
    have HB : Hid (Below rb w wr ∧ rb ≤ wr.heap.size) := Lib.hid ⟨hS.b, hS.m⟩
    by_cases hlt : j < na ∧ j < 12
    · have d1 : decide (j < na) = true := decide_eq_true hlt.1
      have d2 : decide ((j : Int) < 12) = true := decide_eq_true (by omega)
      have hjn : (j : Int) < na := by omega
      have hjl : j < la.length := by rw [← HLn.out]; exact hlt.1
      obtain ⟨ab, ao, rfl, hab, hAt⟩ := HA0.out.at_.resolve_left (by intro e; rw [e] at hjl; simp at hjl)
      have hat := hAt j la[j] (List.getElem?_eq_getElem hjl)
      have hrg := HA0.out.ok la[j] (List.getElem_mem hjl)
      have hps := playG_succ (x := x0) hjl
      obtain ⟨A, hAj⟩ : ∃ A, la[j] = A := ⟨_, rfl⟩
      rw [hAj] at hat hrg hps
      obtain ⟨xj, hxj⟩ : ∃ x, playG x0 la j = x := ⟨_, rfl⟩
      rw [hxj] at hS hps
      obtain ⟨y, hy⟩ : ∃ y, stepG xj A = y := ⟨_, rfl⟩
      rw [hy] at hps
      have HS := Lib.hid hS
      have HAt := Lib.hid hat
      have HRg := Lib.hid hrg
      have HPs := Lib.hid hps
      have HY := Lib.hid hy
      have HAl : Hid (ab < rb) := Lib.hid (by rw [← HRb.out]; exact hab)
      have hc0 := hS.xb.c0
      have hc1 := hS.xb.c1
      clear hlt hAt hat hrg hps hAj hab hxj hy hS HF
      go_upto_region 10 with fail
      refine Go.Proofs.YtmdnnpcofbhceaaDoor.R.wp_region_prog [1, 6, 7, 8, 10] (by kernel_rfl) (StG rb g px none xj y a n c w 37 30 38) (fun _ _ => True) (ClOkA g ab ao na ca j xj A a n c) (by rfl) (by kernel_rfl) (by kernel_rfl) (by kernel_rfl) ?hcong ?hOk ?hop ?hdone ?h0
      case hcong => exact fun k f f2 u hs hst => StG.cong (fun hk => hs 37 (Go.Proofs.YtmdnnpcofbhceaaDoor.R.mem_slots (by subst hk; kernel_rfl))) (fun hk => hs 30 (Go.Proofs.YtmdnnpcofbhceaaDoor.R.mem_slots (by subst hk; kernel_rfl))) (fun hk => hs 38 (Go.Proofs.YtmdnnpcofbhceaaDoor.R.mem_slots (by subst hk; kernel_rfl))) hst
      case hOk => intro i u w1 w2 h hr; unfold ClOkA at h ⊢; split <;> first | exact True.intro | exact h
      case h0 => exact SynQ.below HS.out ((Below.refl _ _).drew)
      case hop =>
        refine ⟨?_, ?_, ?_, ?_, ?_, ?_, ?_, ?_, ?_, ?_, ?_, ?_, trivial⟩
        · intro k z v hst hag hdep
          refine .inl ⟨rfl, fun K hK => ?_⟩
          have d5 : z.tmps.getD 5 undef = .pointer (some ⟨g, 0, none⟩) := hag.2.2 5 (by kernel_rfl)
          have e5 := d5
          rw [Array.getD_eq_getD_getElem?] at e5
          have HSt := Lib.hid hst
          clear hdep hag hst
          go_simp
          exact hK _ _ trivial rfl HSt.out
        · intro z v hst hag hdep
          refine ⟨rfl, fun K hK => ?_⟩
          have d6 : z.tmps.getD 6 undef = .pointer (some ⟨px, 0, none⟩) := hag.2.2 6 (by kernel_rfl)
          have e6 := d6
          rw [Array.getD_eq_getD_getElem?] at e6
          have l0 := (SynQ.xb hst).c0
          have l1 := (SynQ.xb hst).c1
          have HSt := Lib.hid hst
          clear hdep hag hst
          go_simp
          exact hK _ _ trivial rfl HSt.out
        · intro k z v hst hag hdep
          refine .inl ⟨rfl, fun K hK => ?_⟩
          have d0 : z.tmps.getD 0 undef = .slice (some ⟨ab, ao, none⟩) na ca := hag.2.2 0 (by kernel_rfl)
          have e0 := d0
          rw [Array.getD_eq_getD_getElem?] at e0
          have HSt := Lib.hid hst
          clear hdep hag hst
          go_simp
          exact hK _ _ trivial rfl HSt.out
        · intro k z v hst hag hdep
          refine .inl ⟨rfl, fun K hK => ?_⟩
          have d8 : z.tmps.getD 8 undef = .int .i64 (j : Int) := hag.2.2 8 (by kernel_rfl)
          have e8 := d8
          rw [Array.getD_eq_getD_getElem?] at e8
          have HSt := Lib.hid hst
          clear hdep hag hst
          go_simp
          exact hK _ _ trivial rfl HSt.out
        · intro k z v hst hag hdep
          refine .inl ⟨rfl, fun K hK => ?_⟩
          have d33 : z.tmps.getD 33 undef = .slice (some ⟨ab, ao, none⟩) na ca := hdep { on := 2, ground := .data } (by simp) rfl _ _ rfl rfl
          have e33 := d33
          rw [Array.getD_eq_getD_getElem?] at e33
          have d34 : z.tmps.getD 34 undef = .int .i64 (j : Int) := hdep { on := 3, ground := .data } (by simp) rfl _ _ rfl rfl
          have e34 := d34
          rw [Array.getD_eq_getD_getElem?] at e34
          have HSt := Lib.hid hst
          clear hdep hag hst
          go_simp
          exact hK _ _ trivial rfl HSt.out
        · intro k z v hst hag hdep
          refine .inl ⟨rfl, fun K hK => ?_⟩
          have d35 : z.tmps.getD 35 undef = .pointer (some ⟨ab, ao + j * 13, none⟩) := hdep { on := 4, ground := .data } (by simp) rfl _ _ rfl rfl
          have e35 := d35
          rw [Array.getD_eq_getD_getElem?] at e35
          have hA := HAt.out.block (hst.xb.1.block ab HAl.out)
          have l0 := hA.c0
          have l1 := hA.c1
          have l2 := hA.c2
          have l3 := hA.c3
          have l4 := hA.c4
          have l5 := hA.c5
          have l6 := hA.c6
          have l7 := hA.c7
          have l8 := hA.c8
          have l9 := hA.c9
          have l10 := hA.c10
          have l11 := hA.c11
          have l12 := hA.c12
          have HSt := Lib.hid hst
          clear hdep hag hst
          go_simp
          exact hK _ _ trivial rfl HSt.out
        · intro z v hst hag hdep
          refine ⟨rfl, fun K hK => ?_⟩
          have d31 : z.tmps.getD 31 undef = .pointer (some ⟨g, 0, none⟩) := hdep { on := 0, ground := .data } (by simp) rfl _ _ rfl rfl
          have e31 := d31
          rw [Array.getD_eq_getD_getElem?] at e31
          have d32 : z.tmps.getD 32 undef = .agg #[.int .i64 (xj.W : Int), .slice a n c] := hdep { on := 1, ground := .data } (by simp) rfl _ _ rfl rfl
          have e32 := d32
          rw [Array.getD_eq_getD_getElem?] at e32
          have d36 : z.tmps.getD 36 undef = .agg (actC A) := hdep { on := 5, ground := .data } (by simp) rfl _ _ rfl rfl
          have e36 := d36
          rw [Array.getD_eq_getD_getElem?] at e36
          have HC := Lib.hid (SynQ.call (A := A) hst (HT0.out.belowAll (by rw [HRb.out]; exact (SynQ.b hst))) HRg.out)
          rw [HY.out] at HC
          unfold refV actC at HC
          have hsz : 37 < z.tmps.size := by rw [hag.2.1]; show 37 < 123; decide
          clear hdep hag hst
          try unfold actC at e36
          go_simp
          refine HC.out.mono ?_
          rintro e w' ⟨v', rfl, hS⟩
          exact hK _ _ trivial True.intro ⟨v', Go.Proofs.YtmdnnpcofbhceaaDoor.R.slot_same hsz, hS⟩
        · intro z v hst hag hdep
          refine ⟨rfl, fun K hK => ?_⟩
          obtain ⟨v', f, hS⟩ := hst
          have d37 : z.tmps.getD 37 undef = .tuple #[v', .bool true] := f
          have e37 := d37
          rw [Array.getD_eq_getD_getElem?] at e37
          have hsz : 30 < z.tmps.size := by rw [hag.2.1]; show 30 < 123; decide
          clear hdep hag f
          go_simp
          exact hK _ _ trivial ⟨v', rfl⟩ ⟨v', Go.Proofs.YtmdnnpcofbhceaaDoor.R.slot_same hsz, hS⟩
        · intro z v hst hag hdep
          refine ⟨rfl, fun K hK => ?_⟩
          have d30' : ClOkA g ab ao na ca j xj A a n c 7 (z.tmps.getD 30 undef) v := hdep { on := 7, ground := .data } (by simp) rfl _ _ rfl rfl
          simp only [ClOkA] at d30'
          obtain ⟨t_, d30⟩ := d30'
          have e30 := d30
          rw [Array.getD_eq_getD_getElem?] at e30
          clear e30 d30
          obtain ⟨v', f, hS⟩ := hst
          have d30 : z.tmps.getD 30 undef = .tuple #[v', .bool true] := f
          have e30 := d30
          rw [Array.getD_eq_getD_getElem?] at e30
          have hsz : 38 < z.tmps.size := by rw [hag.2.1]; show 38 < 123; decide
          clear hdep hag f
          go_simp
          refine hK _ _ trivial True.intro ?_
          show SynQ _ _ _ _ _ (Go.Proofs.YtmdnnpcofbhceaaDoor.R.slot _ _) _ _ _ _
          rw [Go.Proofs.YtmdnnpcofbhceaaDoor.R.slot_same hsz]
          exact hS
        · intro k z v hst hag hdep
          refine .inl ⟨rfl, fun K hK => ?_⟩
          have d30' : ClOkA g ab ao na ca j xj A a n c 7 (z.tmps.getD 30 undef) v := hdep { on := 7, ground := .data } (by simp) rfl _ _ rfl rfl
          simp only [ClOkA] at d30'
          obtain ⟨t_, d30⟩ := d30'
          have e30 := d30
          rw [Array.getD_eq_getD_getElem?] at e30
          have HSt := Lib.hid hst
          clear hdep hag hst
          go_simp
          exact hK _ _ trivial rfl HSt.out
        · intro z v hst hag hdep
          refine ⟨rfl, fun K hK => ?_⟩
          have d6 : z.tmps.getD 6 undef = .pointer (some ⟨px, 0, none⟩) := hag.2.2 6 (by kernel_rfl)
          have e6 := d6
          rw [Array.getD_eq_getD_getElem?] at e6
          have hS : SynQ rb g px none y (Go.Proofs.YtmdnnpcofbhceaaDoor.R.slot z 38) xj.W (.slice a n c) w v := hst
          obtain ⟨a2, n2, c2, he⟩ := hS.shape
          rw [he] at hS
          have d38 : z.tmps.getD 38 undef = refV y.W a2 n2 c2 := he
          have e38 := d38
          rw [Array.getD_eq_getD_getElem?] at e38
          unfold refV at e38 d38
          have l0 := hS.xb.c0
          have l1 := hS.xb.c1
          have f0 := hS.xb.fr 0
          have f1 := hS.xb.fr 1
          have HS2 := Lib.hid hS.store
          clear hdep hag hst hS he
          go_simp
          exact hK undef _ trivial True.intro ⟨a2, n2, c2, HS2.out⟩
        · intro k z v hst hag hdep
          refine .inl ⟨rfl, fun K hK => ?_⟩
          have d39 : z.tmps.getD 39 undef = .bool true := hdep { on := 9, ground := .data } (by simp) rfl _ _ rfl rfl
          have e39 := d39
          rw [Array.getD_eq_getD_getElem?] at e39
          have HSt := Lib.hid hst
          clear hdep hag hst
          go_simp
          exact hK _ _ trivial rfl HSt.out
      case hdone =>
        intro z v hst hag hok
        obtain ⟨a2, n2, c2, hS⟩ := hst
        have HS2 := Lib.hid hS
        have d7 : z.tmps.getD 7 undef = .bool true := hok 11 _ 7 rfl rfl
        clear hS HS hc0 hc1
        obtain ⟨uu, hu, hzz⟩ := Go.Proofs.YtmdnnpcofbhceaaDoor.R.agree_frame [31, 32, 33, 34, 35, 36, 37, 30, 38, 39, 7] rfl hag
        have e7 := (hu 7).trans d7
        subst hzz
        simp only [List.foldl_cons, List.foldl_nil]
        rw [e7]
        clear e7 d7 hu hag hok
        try dsimp only [Exit.then]
        simp only [List.setIfInBounds_toArray, List.set_cons_succ, List.set_cons_zero]
        generalize uu 31 = u31', uu 32 = u32', uu 33 = u33', uu 34 = u34', uu 35 = u35', uu 36 = u36', uu 37 = u37', uu 30 = u30', uu 38 = u38', uu 39 = u39'
        clear uu
        have HE : Hid (∃ a n c, SynQ rb g px none (playG x0 la (j + 1)) (refV (playG x0 la (j + 1)).W a n c) (playG x0 la (j + 1)).W (.slice a n c) w v) := Lib.hid ⟨a2, n2, c2, by rw [HPs.out]; exact HS2.out⟩
        rename_i K hK
        refine hK _ _ ?_
        go_wp2_with fail
        go_roundw
        case rel => exact ⟨j + 1, by go_num, by omega, HE⟩
        case measure => simp [intOf]; omega
    · have hway : (decide (j < na) = true ∧ decide ((j : Int) < 12) = false) ∨ decide (j < na) = false := by
        by_cases hj2 : j < na
        · exact .inl ⟨decide_eq_true hj2, decide_eq_false (by omega)⟩
        · exact .inr (decide_eq_false hj2)
      obtain ⟨xj, hxj⟩ : ∃ x, playG x0 la j = x := ⟨_, rfl⟩
      rw [hxj] at hS
      have HS := Lib.hid hS
      have hc0 := hS.xb.c0
      have hc1 := hS.xb.c1
      have HPxl : Hid (px < wr.heap.size) := Lib.hid hS.xb.lt
      clear hlt HF hS hxj
      rcases hway with ⟨d1, d2⟩ | d1
      all_goals
        go_upto_region 13 with fail
        refine Go.Proofs.YtmdnnpcofbhceaaDoor.R.wp_region_prog [1, 4, 5] (by kernel_rfl) (ClS xj wr xj.W (.slice a n c)) GrR (ClOkC wr.heap.size g xj a n c) (by rfl) (by kernel_rfl) (by kernel_rfl) (by kernel_rfl) ?hcong ?hOk ?hop ?hdone ?h0
        case hcong => exact fun k f f2 u hs hst => ClS.cong (fun hk => hs 43 (Go.Proofs.YtmdnnpcofbhceaaDoor.R.mem_slots (by subst hk; kernel_rfl))) (fun hk => hs 9 (Go.Proofs.YtmdnnpcofbhceaaDoor.R.mem_slots (by subst hk; kernel_rfl))) (fun hk => by rw [Go.Proofs.YtmdnnpcofbhceaaDoor.R.slotsP_all (cs := [1, 4, 5]) hk] at hs; exact ⟨hs 9 (Go.Proofs.YtmdnnpcofbhceaaDoor.R.mem_slots (by kernel_rfl)), hs 10 (Go.Proofs.YtmdnnpcofbhceaaDoor.R.mem_slots (by kernel_rfl))⟩) hst
        case hOk => intro i u w1 w2 h hr; unfold ClOkC at h ⊢; split at h <;> first | exact h | (obtain ⟨p, a1, b1, e, hp, h⟩ := h; obtain ⟨a2, b2, h⟩ := hr _ _ _ h; exact ⟨p, a2, b2, e, hp, h⟩)
        case h0 => exact (show Below wr.heap.size wr wr.drew from (Below.refl _ _).drew)
        case hop =>
          refine ⟨?_, ?_, ?_, ?_, ?_, ?_, trivial⟩
          · intro k z v hst hag hdep
            refine .inl ⟨rfl, fun K hK => ?_⟩
            have d5 : z.tmps.getD 5 undef = .pointer (some ⟨g, 0, none⟩) := hag.2.2 5 (by kernel_rfl)
            have e5 := d5
            rw [Array.getD_eq_getD_getElem?] at e5
            have HSt := Lib.hid hst
            clear hdep hag hst
            go_simp
            exact hK _ _ (GrR.refl _) rfl HSt.out
          · intro z v hst hag hdep
            refine ⟨rfl, fun K hK => ?_⟩
            have d42 : z.tmps.getD 42 undef = .pointer (some ⟨g, 0, none⟩) := hdep { on := 0, ground := .data } (by simp) rfl _ _ rfl rfl
            have e42 := d42
            rw [Array.getD_eq_getD_getElem?] at e42
            obtain ⟨q, L, -, -, -, -, -, hgr, -⟩ := HS.out.ex
            have hb0 : Below wr.heap.size wr v := hst
            obtain ⟨us, cap, hga⟩ := hgr.below hb0
            have HC := Lib.hid (gclone_any v hga)
            have HB0 := Lib.hid hb0
            have hsz : 43 < z.tmps.size := by rw [hag.2.1]; show 43 < 123; decide
            clear hdep hag hst hga hgr hb0
            go_simp
            refine HC.out.mono ?_
            rintro e w' ⟨c2, q2, rfl, hc2, hq2, hG, hb⟩
            have := HB0.out.size
            exact hK _ _ (GrR.below hb) True.intro ⟨HB0.out.trans (hb.mono HB0.out.size), c2, q2, Go.Proofs.YtmdnnpcofbhceaaDoor.R.slot_same hsz, by omega, by omega, hG⟩
          · intro k z v hst hag hdep
            refine .inl ⟨rfl, fun K hK => ?_⟩
            have d6 : z.tmps.getD 6 undef = .pointer (some ⟨px, 0, none⟩) := hag.2.2 6 (by kernel_rfl)
            have e6 := d6
            rw [Array.getD_eq_getD_getElem?] at e6
            have hx := HS.out.xb.belowAll (ClS.b hst)
            have l0 := hx.c0
            have l1 := hx.c1
            have HSt := Lib.hid hst
            clear hdep hag hst
            go_simp
            exact hK _ _ (GrR.refl _) rfl HSt.out
          · intro k z v hst hag hdep
            refine .inl ⟨rfl, fun K hK => ?_⟩
            have HSt := Lib.hid hst
            have hB := (ClS.b hst).size
            have b1 : ∀ o, Below v.heap.size v (v.alloc o) := fun o => (Below.refl _ _).alloc (Nat.le_refl _) _
            clear hdep hag hst
            go_simp
            exact hK _ _ (GrR.below (b1 _)) ⟨v.heap.size, _, _, rfl, hB, World.alloc_heap_new _ _⟩ (ClS.below HSt.out (b1 _))
          · intro z v hst hag hdep
            refine ⟨rfl, fun K hK => ?_⟩
            obtain ⟨hb0, c2, q2, f, h1, h2, h3⟩ := hst
            have d43 : z.tmps.getD 43 undef = .pointer (some ⟨c2, 0, none⟩) := f
            have e43 := d43
            rw [Array.getD_eq_getD_getElem?] at e43
            have hsz : 9 < z.tmps.size := by rw [hag.2.1]; show 9 < 123; decide
            clear hdep hag f
            go_simp
            exact hK _ _ (GrR.refl _) True.intro ⟨hb0, c2, q2, Go.Proofs.YtmdnnpcofbhceaaDoor.R.slot_same hsz, h1, h2, h3⟩
          · intro z v hst hag hdep
            refine ⟨rfl, fun K hK => ?_⟩
            have d10' : ClOkC wr.heap.size g xj a n c 3 (z.tmps.getD 10 undef) v := hdep { on := 3, ground := .data } (by simp) rfl _ _ rfl rfl
            simp only [ClOkC] at d10'
            obtain ⟨p, a1, b1, d10, hp, hpb⟩ := d10'
            have e10 := d10
            rw [Array.getD_eq_getD_getElem?] at e10
            have d44 : z.tmps.getD 44 undef = .agg #[.int .i64 (xj.W : Int), .slice a n c] := hdep { on := 2, ground := .data } (by simp) rfl _ _ rfl rfl
            have e44 := d44
            rw [Array.getD_eq_getD_getElem?] at e44
            obtain ⟨k0, k1, k2, k3⟩ := two_cells hpb
            have HSt := Lib.hid hst
            have HD : Hid (Go.Proofs.YtmdnnpcofbhceaaDoor.R.slot z 10 = .pointer (some ⟨p, 0, none⟩)) := Lib.hid d10
            have HPb := Lib.hid hpb
            clear hdep hag hst hpb
            go_simp
            exact hK undef _ (GrR.set2 HPb.out) True.intro (ClS.store HSt.out hp HPb.out HD.out)
        case hdone =>
          intro z v hst hag hok
          obtain ⟨hb, cg, q2, py, f9, f10, h1, h2, h3, h4, h5⟩ := hst
          have d9 : z.tmps.getD 9 undef = .pointer (some ⟨cg, 0, none⟩) := f9
          have d10 : z.tmps.getD 10 undef = .pointer (some ⟨py, 0, none⟩) := f10
          have HT2 := Lib.hid (Syn2.init HS.out hb h1 h2 h3 h4 h5)
          clear hb f9 f10 h1 h2 h3 h4 h5 HS hc0 hc1 HPxl
          obtain ⟨uu, hu, hzz⟩ := Go.Proofs.YtmdnnpcofbhceaaDoor.R.agree_frame [42, 43, 44, 10, 9] rfl hag
          have e9 := (hu 9).trans d9
          have e10 := (hu 10).trans d10
          subst hzz
          simp only [List.foldl_cons, List.foldl_nil]
          rw [e9, e10]
          clear e9 d9 e10 d10 hu hag hok
          try dsimp only [Exit.then]
          simp only [List.setIfInBounds_toArray, List.set_cons_succ, List.set_cons_zero]
          generalize uu 42 = u42', uu 43 = u43', uu 44 = u44'
          clear uu
          have hsm := HT2.out.same2
          rw [decide_eq_true rfl] at hsm
          have HSm := Lib.hid hsm
          clear hsm
          rename_i K hK
          refine hK _ _ ?_
          go_wp2_with fail
          refine HSm.out.mono ?_
          rintro e w5 ⟨rfl, hb5⟩
          have HT3 := Lib.hid (HT2.out.below hb5)
          obtain ⟨xe, hxe⟩ : ∃ x, x = xj := ⟨_, rfl⟩
          obtain ⟨a0, ha0⟩ : ∃ x, x = a := ⟨_, rfl⟩
          obtain ⟨n0, hn0⟩ : ∃ x, x = n := ⟨_, rfl⟩
          obtain ⟨c0, hc0⟩ : ∃ x, x = c := ⟨_, rfl⟩
          subst hxe ha0 hn0 hc0
          clear hb5 HT2 HSm
          go_wp2_with fail
          go_loopw [11] (fun i wr => ∃ j : Nat, i = .int .i64 (j : Int) ∧ j ≤ nm ∧ Hid (∃ a n c, Syn2 rb g px xe a0 n0 c0 cg py (playG xe lm j) (refV (playG xe lm j).W a n c) (playG xe lm j).W (.slice a n c) w wr)) (fun i _ => nm - (intOf i).toNat)
          case atStart => exact ⟨0, rfl, by omega, Lib.hid ⟨a0, n0, c0, HT3.out⟩⟩
          case round =>
            obtain ⟨j, rfl, hj, HF⟩ := hrel
            clear HT3
            obtain ⟨a, n, c, hS⟩ := HF.out
            have HB : Hid (Below rb w wr ∧ rb ≤ wr.heap.size) := Lib.hid ⟨hS.b, hS.m⟩
            by_cases hlt : j < nm ∧ j < 12
            · have d1 : decide (j < nm) = true := decide_eq_true hlt.1
              have d2 : decide ((j : Int) < 12) = true := decide_eq_true (by omega)
              have hjn : (j : Int) < nm := by omega
              have hjl : j < lm.length := by rw [← HLm.out]; exact hlt.1
              obtain ⟨ab, ao, rfl, hab, hAt⟩ := HM0.out.at_.resolve_left (by intro e; rw [e] at hjl; simp at hjl)
              have hat := hAt j lm[j] (List.getElem?_eq_getElem hjl)
              have hrg := HM0.out.ok lm[j] (List.getElem_mem hjl)
              have hps := playG_succ (x := xe) hjl
              obtain ⟨A, hAj⟩ : ∃ A, lm[j] = A := ⟨_, rfl⟩
              rw [hAj] at hat hrg hps
              obtain ⟨xj, hxj⟩ : ∃ x, playG xe lm j = x := ⟨_, rfl⟩
              rw [hxj] at hS hps
              obtain ⟨y, hy⟩ : ∃ y, stepG xj A = y := ⟨_, rfl⟩
              rw [hy] at hps
              have HS := Lib.hid hS
              have HAt := Lib.hid hat
              have HRg := Lib.hid hrg
              have HPs := Lib.hid hps
              have HY := Lib.hid hy
              have HAl : Hid (ab < rb) := Lib.hid (by rw [← HRb.out]; exact hab)
              have hc0 := hS.yb.c0
              have hc1 := hS.yb.c1
              clear hlt hAt hat hrg hps hAj hab hxj hy hS HF
              go_upto_region 19 with fail
              refine Go.Proofs.YtmdnnpcofbhceaaDoor.R.wp_region_prog [1, 6, 7, 8, 10] (by kernel_rfl) (StH (fun x v W sv u => Syn2 rb g px xe a0 n0 c0 cg py x v W sv w u) xj y a n c 70 63 71) (fun _ _ => True) (ClOkB cg ab ao nm cm j xj A a n c) (by rfl) (by kernel_rfl) (by kernel_rfl) (by kernel_rfl) ?hcong ?hOk ?hop ?hdone ?h0
              case hcong => exact fun k f f2 u hs hst => StH.cong (fun hk => hs 70 (Go.Proofs.YtmdnnpcofbhceaaDoor.R.mem_slots (by subst hk; kernel_rfl))) (fun hk => hs 63 (Go.Proofs.YtmdnnpcofbhceaaDoor.R.mem_slots (by subst hk; kernel_rfl))) (fun hk => hs 71 (Go.Proofs.YtmdnnpcofbhceaaDoor.R.mem_slots (by subst hk; kernel_rfl))) hst
              case hOk => intro i u w1 w2 h hr; unfold ClOkB at h ⊢; split <;> first | exact True.intro | exact h
              case h0 => exact Syn2.below HS.out ((Below.refl _ _).drew)
              case hop =>
                refine ⟨?_, ?_, ?_, ?_, ?_, ?_, ?_, ?_, ?_, ?_, ?_, ?_, trivial⟩
                · intro k z v hst hag hdep
                  refine .inl ⟨rfl, fun K hK => ?_⟩
                  have d9 : z.tmps.getD 9 undef = .pointer (some ⟨cg, 0, none⟩) := hag.2.2 9 (by kernel_rfl)
                  have e9 := d9
                  rw [Array.getD_eq_getD_getElem?] at e9
                  have HSt := Lib.hid hst
                  clear hdep hag hst
                  go_simp
                  exact hK _ _ trivial rfl HSt.out
                · intro z v hst hag hdep
                  refine ⟨rfl, fun K hK => ?_⟩
                  have d10 : z.tmps.getD 10 undef = .pointer (some ⟨py, 0, none⟩) := hag.2.2 10 (by kernel_rfl)
                  have e10 := d10
                  rw [Array.getD_eq_getD_getElem?] at e10
                  have l0 := (Syn2.yb hst).c0
                  have l1 := (Syn2.yb hst).c1
                  have HSt := Lib.hid hst
                  clear hdep hag hst
                  go_simp
                  exact hK _ _ trivial rfl HSt.out
                · intro k z v hst hag hdep
                  refine .inl ⟨rfl, fun K hK => ?_⟩
                  have d1 : z.tmps.getD 1 undef = .slice (some ⟨ab, ao, none⟩) nm cm := hag.2.2 1 (by kernel_rfl)
                  have e1 := d1
                  rw [Array.getD_eq_getD_getElem?] at e1
                  have HSt := Lib.hid hst
                  clear hdep hag hst
                  go_simp
                  exact hK _ _ trivial rfl HSt.out
                · intro k z v hst hag hdep
                  refine .inl ⟨rfl, fun K hK => ?_⟩
                  have d11 : z.tmps.getD 11 undef = .int .i64 (j : Int) := hag.2.2 11 (by kernel_rfl)
                  have e11 := d11
                  rw [Array.getD_eq_getD_getElem?] at e11
                  have HSt := Lib.hid hst
                  clear hdep hag hst
                  go_simp
                  exact hK _ _ trivial rfl HSt.out
                · intro k z v hst hag hdep
                  refine .inl ⟨rfl, fun K hK => ?_⟩
                  have d66 : z.tmps.getD 66 undef = .slice (some ⟨ab, ao, none⟩) nm cm := hdep { on := 2, ground := .data } (by simp) rfl _ _ rfl rfl
                  have e66 := d66
                  rw [Array.getD_eq_getD_getElem?] at e66
                  have d67 : z.tmps.getD 67 undef = .int .i64 (j : Int) := hdep { on := 3, ground := .data } (by simp) rfl _ _ rfl rfl
                  have e67 := d67
                  rw [Array.getD_eq_getD_getElem?] at e67
                  have HSt := Lib.hid hst
                  clear hdep hag hst
                  go_simp
                  exact hK _ _ trivial rfl HSt.out
                · intro k z v hst hag hdep
                  refine .inl ⟨rfl, fun K hK => ?_⟩
                  have d68 : z.tmps.getD 68 undef = .pointer (some ⟨ab, ao + j * 13, none⟩) := hdep { on := 4, ground := .data } (by simp) rfl _ _ rfl rfl
                  have e68 := d68
                  rw [Array.getD_eq_getD_getElem?] at e68
                  have hA := HAt.out.block ((StH.b (Q := Below rb w) (fun _ _ _ _ _ h => Syn2.b h) hst).block ab HAl.out)
                  have l0 := hA.c0
                  have l1 := hA.c1
                  have l2 := hA.c2
                  have l3 := hA.c3
                  have l4 := hA.c4
                  have l5 := hA.c5
                  have l6 := hA.c6
                  have l7 := hA.c7
                  have l8 := hA.c8
                  have l9 := hA.c9
                  have l10 := hA.c10
                  have l11 := hA.c11
                  have l12 := hA.c12
                  have HSt := Lib.hid hst
                  clear hdep hag hst
                  go_simp
                  exact hK _ _ trivial rfl HSt.out
                · intro z v hst hag hdep
                  refine ⟨rfl, fun K hK => ?_⟩
                  have d64 : z.tmps.getD 64 undef = .pointer (some ⟨cg, 0, none⟩) := hdep { on := 0, ground := .data } (by simp) rfl _ _ rfl rfl
                  have e64 := d64
                  rw [Array.getD_eq_getD_getElem?] at e64
                  have d65 : z.tmps.getD 65 undef = .agg #[.int .i64 (xj.W : Int), .slice a n c] := hdep { on := 1, ground := .data } (by simp) rfl _ _ rfl rfl
                  have e65 := d65
                  rw [Array.getD_eq_getD_getElem?] at e65
                  have d69 : z.tmps.getD 69 undef = .agg (actC A) := hdep { on := 5, ground := .data } (by simp) rfl _ _ rfl rfl
                  have e69 := d69
                  rw [Array.getD_eq_getD_getElem?] at e69
                  have HC := Lib.hid (Syn2.call (A := A) hst (HT0.out.belowAll (by rw [HRb.out]; exact (Syn2.b hst))) HRg.out)
                  rw [HY.out] at HC
                  unfold refV actC at HC
                  have hsz : 70 < z.tmps.size := by rw [hag.2.1]; show 70 < 123; decide
                  clear hdep hag hst
                  try unfold actC at e69
                  go_simp
                  refine HC.out.mono ?_
                  rintro e w' ⟨v', rfl, hS⟩
                  exact hK _ _ trivial True.intro ⟨v', Go.Proofs.YtmdnnpcofbhceaaDoor.R.slot_same hsz, hS⟩
                · intro z v hst hag hdep
                  refine ⟨rfl, fun K hK => ?_⟩
                  obtain ⟨v', f, hS⟩ := hst
                  have d70 : z.tmps.getD 70 undef = .tuple #[v', .bool true] := f
                  have e70 := d70
                  rw [Array.getD_eq_getD_getElem?] at e70
                  have hsz : 63 < z.tmps.size := by rw [hag.2.1]; show 63 < 123; decide
                  clear hdep hag f
                  go_simp
                  exact hK _ _ trivial ⟨v', rfl⟩ ⟨v', Go.Proofs.YtmdnnpcofbhceaaDoor.R.slot_same hsz, hS⟩
                · intro z v hst hag hdep
                  refine ⟨rfl, fun K hK => ?_⟩
                  have d63' : ClOkB cg ab ao nm cm j xj A a n c 7 (z.tmps.getD 63 undef) v := hdep { on := 7, ground := .data } (by simp) rfl _ _ rfl rfl
                  simp only [ClOkB] at d63'
                  obtain ⟨t_, d63⟩ := d63'
                  have e63 := d63
                  rw [Array.getD_eq_getD_getElem?] at e63
                  clear e63 d63
                  obtain ⟨v', f, hS⟩ := hst
                  have d63 : z.tmps.getD 63 undef = .tuple #[v', .bool true] := f
                  have e63 := d63
                  rw [Array.getD_eq_getD_getElem?] at e63
                  have hsz : 71 < z.tmps.size := by rw [hag.2.1]; show 71 < 123; decide
                  clear hdep hag f
                  go_simp
                  refine hK _ _ trivial True.intro ?_
                  show Syn2 _ _ _ _ _ _ _ _ _ _ (Go.Proofs.YtmdnnpcofbhceaaDoor.R.slot _ _) _ _ _ _
                  rw [Go.Proofs.YtmdnnpcofbhceaaDoor.R.slot_same hsz]
                  exact hS
                · intro k z v hst hag hdep
                  refine .inl ⟨rfl, fun K hK => ?_⟩
                  have d63' : ClOkB cg ab ao nm cm j xj A a n c 7 (z.tmps.getD 63 undef) v := hdep { on := 7, ground := .data } (by simp) rfl _ _ rfl rfl
                  simp only [ClOkB] at d63'
                  obtain ⟨t_, d63⟩ := d63'
                  have e63 := d63
                  rw [Array.getD_eq_getD_getElem?] at e63
                  have HSt := Lib.hid hst
                  clear hdep hag hst
                  go_simp
                  exact hK _ _ trivial rfl HSt.out
                · intro z v hst hag hdep
                  refine ⟨rfl, fun K hK => ?_⟩
                  have d10 : z.tmps.getD 10 undef = .pointer (some ⟨py, 0, none⟩) := hag.2.2 10 (by kernel_rfl)
                  have e10 := d10
                  rw [Array.getD_eq_getD_getElem?] at e10
                  have hS : Syn2 rb g px xe a0 n0 c0 cg py y (Go.Proofs.YtmdnnpcofbhceaaDoor.R.slot z 71) xj.W (.slice a n c) w v := hst
                  obtain ⟨a2, n2, c2, he⟩ := hS.shape
                  rw [he] at hS
                  have d71 : z.tmps.getD 71 undef = refV y.W a2 n2 c2 := he
                  have e71 := d71
                  rw [Array.getD_eq_getD_getElem?] at e71
                  unfold refV at e71 d71
                  have l0 := hS.yb.c0
                  have l1 := hS.yb.c1
                  have f0 := hS.yb.fr 0
                  have f1 := hS.yb.fr 1
                  have HS2 := Lib.hid hS.store
                  clear hdep hag hst hS he
                  go_simp
                  exact hK undef _ trivial True.intro ⟨a2, n2, c2, HS2.out⟩
                · intro k z v hst hag hdep
                  refine .inl ⟨rfl, fun K hK => ?_⟩
                  have d72 : z.tmps.getD 72 undef = .bool true := hdep { on := 9, ground := .data } (by simp) rfl _ _ rfl rfl
                  have e72 := d72
                  rw [Array.getD_eq_getD_getElem?] at e72
                  have HSt := Lib.hid hst
                  clear hdep hag hst
                  go_simp
                  exact hK _ _ trivial rfl HSt.out
              case hdone =>
                intro z v hst hag hok
                obtain ⟨a2, n2, c2, hS⟩ := hst
                have hS : Syn2 rb g px xe a0 n0 c0 cg py y (refV y.W a2 n2 c2) y.W (.slice a2 n2 c2) w v := hS
                have HS2 := Lib.hid hS
                have d7 : z.tmps.getD 7 undef = .bool true := hok 11 _ 7 rfl rfl
                clear hS HS hc0 hc1
                obtain ⟨uu, hu, hzz⟩ := Go.Proofs.YtmdnnpcofbhceaaDoor.R.agree_frame [64, 65, 66, 67, 68, 69, 70, 63, 71, 72, 7] rfl hag
                have e7 := (hu 7).trans d7
                subst hzz
                simp only [List.foldl_cons, List.foldl_nil]
                rw [e7]
                clear e7 d7 hu hag hok
                try dsimp only [Exit.then]
                simp only [List.setIfInBounds_toArray, List.set_cons_succ, List.set_cons_zero]
                generalize uu 64 = u64', uu 65 = u65', uu 66 = u66', uu 67 = u67', uu 68 = u68', uu 69 = u69', uu 70 = u70', uu 63 = u63', uu 71 = u71', uu 72 = u72'
                clear uu
                have HE : Hid (∃ a n c, Syn2 rb g px xe a0 n0 c0 cg py (playG xe lm (j + 1)) (refV (playG xe lm (j + 1)).W a n c) (playG xe lm (j + 1)).W (.slice a n c) w v) := Lib.hid ⟨a2, n2, c2, by rw [HPs.out]; exact HS2.out⟩
                rename_i K hK
                refine hK _ _ ?_
                go_wp2_with fail
                go_roundw
                case rel => exact ⟨j + 1, by go_num, by omega, HE⟩
                case measure => simp [intOf]; omega
            · have hway2 : (decide (j < nm) = true ∧ decide ((j : Int) < 12) = false) ∨ decide (j < nm) = false := by
                by_cases hj2 : j < nm
                · exact .inl ⟨decide_eq_true hj2, decide_eq_false (by omega)⟩
                · exact .inr (decide_eq_false hj2)
              obtain ⟨ya, hya⟩ : ∃ x, x = a := ⟨_, rfl⟩
              obtain ⟨ny, hny⟩ : ∃ x, x = n := ⟨_, rfl⟩
              obtain ⟨cy, hcy⟩ : ∃ x, x = c := ⟨_, rfl⟩
              subst hya hny hcy
              obtain ⟨y, hy⟩ : ∃ y, playG xe lm j = y := ⟨_, rfl⟩
              rw [hy] at hS
              have HS := Lib.hid hS
              obtain ⟨hlx, hly, -⟩ := hS.lens
              obtain ⟨okx, oky⟩ := hS.okX
              have hxn : n0 ≤ 1000 := by rw [hlx]; exact okx.h2
              have hyn : ny ≤ 1000 := by rw [hly]; exact oky.h2
              have hx0 := hS.xb.c0
              have hx1 := hS.xb.c1
              have hy0 := hS.yb.c0
              have hy1 := hS.yb.c1
              have HOx := Lib.hid okx
              have HOy := Lib.hid oky
              have HLx := Lib.hid hlx
              have HLy := Lib.hid hly
              obtain ⟨D, hDx⟩ : ∃ D, decide (xe.rs = y.rs) = D := ⟨_, rfl⟩
              have HDx := Lib.hid hDx
              clear hlt HF hS hy hlx hly okx oky hDx
              by_cases hne : xe.W = y.W ∧ n0 = ny
              · have e1 : ((xe.W : Int) == (y.W : Int)) = true := by simp [hne.1]
                have e2 : ((n0 : Int) == (ny : Int)) = true := by simp [hne.2]
                have HNn := Lib.hid hne.2
                clear hne
                rcases hway2 with ⟨d1, d2⟩ | d1
                all_goals
                  go_wp2_with fail
                  clear hx0 hx1 hy0 hy1 e1 e2
                  go_loopw [12, 13] (fun s i wr => ∃ (b : Bool) (j : Nat), s = .bool b ∧ i = .int .i64 (j : Int) ∧ j ≤ n0 ∧ Hid (Syn2 rb g px xe a0 n0 c0 cg py y (refV y.W ya ny cy) y.W (.slice ya ny cy) w wr ∧ (b = true → xe.rs.take j = y.rs.take j) ∧ (b = false → D = false))) (fun _ i _ => n0 - (intOf i).toNat)
                  case atStart => exact ⟨true, 0, rfl, rfl, Nat.zero_le _, Lib.hid ⟨HS.out, fun _ => by simp, fun e => by cases e⟩⟩
                  case round =>
                    obtain ⟨b, j, rfl, rfl, hj, HF⟩ := hrel
                    clear HS
                    cases b
                    · have hDf := HF.out.2.2 rfl
                      have HF1 := Lib.hid HF.out.1
                      clear HF
                      subst hDf
                      have hx0 := HF1.out.xb.c0
                      have hx1 := HF1.out.xb.c1
                      have hi := HF1.out.isX
                      unfold refV at hi
                      have HI1 := Lib.hid hi
                      have HF5 := Lib.hid HF1.out
                      clear hi
                      go_wp2_with fail
                      refine HI1.out.mono ?_
                      rintro e w6 ⟨rfl, hb6⟩
                      have HF6 := Lib.hid (HF5.out.below hb6)
                      clear hx0 hx1 hb6 HI1 HF5
                      have hy0 := HF6.out.yb.c0
                      have hy1 := HF6.out.yb.c1
                      have hi := HF6.out.isY
                      unfold refV at hi
                      have HI2 := Lib.hid hi
                      clear hi
                      go_wp2_with fail
                      refine HI2.out.mono ?_
                      rintro e w7 ⟨rfl, hb7⟩
                      have HF7 := Lib.hid (HF6.out.below hb7)
                      clear hy0 hy1 hb7 HI2 HF6
                      have hsm := HF7.out.same
                      rw [HDx.out] at hsm
                      have HSm := Lib.hid hsm
                      clear hsm
                      go_wp2_with fail
                      refine HSm.out.mono ?_
                      rintro e w8 ⟨rfl, hb8⟩
                      have hend : Hid (P (.returned (.bool true)) w8) := Lib.hid (by rw [← HP.out]; exact ⟨rfl, (HF7.out.below hb8).b⟩)
                      clear hb8 HF7 HSm
                      go_wp2_with fail
                      exact hend.out
                    · by_cases hlt : j < n0
                      · have hd : decide (j < n0) = true := decide_eq_true hlt
                        have hjI : (j : Int) < ny := by have := HNn.out; omega
                        have hjx : j < xe.rs.length := by rw [← HLx.out]; exact hlt
                        have hjy : j < y.rs.length := by rw [← HLy.out, ← HNn.out]; exact hlt
                        obtain ⟨-, -, L, hrl⟩ := HF.out.1.lens
                        obtain ⟨vs, hi, hv, -⟩ := hrl.ex
                        have hvl : j < vs.length := by rw [← hi.len, ← HNn.out]; exact hlt
                        obtain ⟨yb, yo, rfl, hyb, hAt⟩ := hi.at_.resolve_left (by intro e; rw [e] at hvl; simp at hvl)
                        have hat := hAt j vs[j] (List.getElem?_eq_getElem hvl)
                        have hrv := hv.2 j vs[j] y.rs[j] (List.getElem?_eq_getElem hvl) (List.getElem?_eq_getElem hjy)
                        obtain ⟨⟨xa, xn, xc, xb⟩, hvj⟩ : ∃ u, vs[j] = u := ⟨_, rfl⟩
                        have hrow : rowAt xe.rs (j : Int) = xe.rs[j] := by
                          unfold rowAt
                          rw [if_pos (by omega), Int.toNat_natCast, List.getD_eq_getElem?_getD, List.getElem?_eq_getElem hjx]
                          rfl
                        have hlx := HOx.out.len xe.rs[j] (List.getElem_mem hjx)
                        have hly := HOy.out.len y.rs[j] (List.getElem_mem hjy)
                        have hrx := HOx.out.rng xe.rs[j] (List.getElem_mem hjx)
                        have htx := takeR_one xe.rs j hjx
                        have hty := takeR_one y.rs j hjy
                        have hDe : xe.rs = y.rs → xe.rs[j] = y.rs[j] := fun e => by simp only [e]
                        obtain ⟨r1, hr1⟩ : ∃ r, xe.rs[j] = r := ⟨_, rfl⟩
                        obtain ⟨r2, hr2⟩ : ∃ r, y.rs[j] = r := ⟨_, rfl⟩
                        rw [hr1] at hrow hlx hrx htx hDe
                        rw [hr2] at hrv hly hty hDe
                        rw [hvj] at hat hrv
                        unfold Rv.val at hrv
                        simp only at hat hrv
                        obtain ⟨D1, hD1⟩ : ∃ D1, decide (r1 = r2) = D1 := ⟨_, rfl⟩
                        have HRw := Lib.hid hrow
                        have HRr : Hid (AllC Rng r1.l ∧ r1.l.length ≤ 1000 ∧ r2.l.length ≤ 1000) := Lib.hid ⟨hrx, by rw [hlx]; exact HOx.out.w2, by rw [hly]; exact HOy.out.w2⟩
                        have HD1 := Lib.hid hD1
                        have HTx := Lib.hid htx
                        have HTy := Lib.hid hty
                        have HDe := Lib.hid hDe
                        have H26 : Hid (Sy26 rb g px xe a0 n0 c0 cg py y yb yo ny cy j xa xn xc xb r2 w wr) := Lib.hid ⟨HF.out.1, hyb, hat.1, hat.2, hrv⟩
                        have HTk : Hid (xe.rs.take j = y.rs.take j) := Lib.hid (HF.out.2.1 rfl)
                        have hx0 := HF.out.1.xb.c0
                        have hx1 := HF.out.1.xb.c1
                        clear HF hrl hi hv hvl hyb hAt hat hrv hvj hrow hlx hly hrx htx hty hDe hr1 hr2 hD1
                        go_upto_region 26 with fail
                        clear hx0 hx1
                        refine Go.Proofs.YtmdnnpcofbhceaaDoor.R.wp_region_prog [] (by kernel_rfl) (fun _ _ u => Sy26 rb g px xe a0 n0 c0 cg py y yb yo ny cy j xa xn xc xb r2 w u) (fun a b => Below a.heap.size a b) (ClOkD g py j r1 D1 yb yo ny cy xa xn xc xb) (by rfl) (by kernel_rfl) (by kernel_rfl) (by kernel_rfl) ?hcong ?hOk ?hop ?hdone ?h0
                        case hcong => intro k f f2 u hs hst; exact hst
                        case hOk => intro i u w1 w2 h hr; unfold ClOkD at h ⊢; split at h <;> first | exact h | (obtain ⟨a1, m1, c1, b1, e, h⟩ := h; exact ⟨a1, m1, c1, b1, e, h.belowAll hr⟩)
                        case h0 => exact H26.out.below ((Below.refl _ _).drew)
                        case hop =>
                          refine ⟨?_, ?_, ?_, ?_, ?_, ?_, ?_, ?_, ?_, ?_, trivial⟩
                          · intro k z v hst hag hdep
                            refine .inl ⟨rfl, fun K hK => ?_⟩
                            have d5 : z.tmps.getD 5 undef = .pointer (some ⟨g, 0, none⟩) := hag.2.2 5 (by kernel_rfl)
                            have e5 := d5
                            rw [Array.getD_eq_getD_getElem?] at e5
                            have HSt := Lib.hid hst
                            clear hdep hag hst
                            go_simp
                            exact hK _ _ (Below.refl _ _) rfl HSt.out
                          · intro k z v hst hag hdep
                            refine .inl ⟨rfl, fun K hK => ?_⟩
                            have d13 : z.tmps.getD 13 undef = .int .i64 (j : Int) := hag.2.2 13 (by kernel_rfl)
                            have e13 := d13
                            rw [Array.getD_eq_getD_getElem?] at e13
                            have HSt := Lib.hid hst
                            clear hdep hag hst
                            go_simp
                            exact hK _ _ (Below.refl _ _) rfl HSt.out
                          · intro k z v hst hag hdep
                            refine .inl ⟨rfl, fun K hK => ?_⟩
                            have d99 : z.tmps.getD 99 undef = .pointer (some ⟨g, 0, none⟩) := hdep { on := 0, ground := .data } (by simp) rfl _ _ rfl rfl
                            have e99 := d99
                            rw [Array.getD_eq_getD_getElem?] at e99
                            have d100 : z.tmps.getD 100 undef = .int .i64 (j : Int) := hdep { on := 1, ground := .data } (by simp) rfl _ _ rfl rfl
                            have e100 := d100
                            rw [Array.getD_eq_getD_getElem?] at e100
                            have hst : Sy26 rb g px xe a0 n0 c0 cg py y yb yo ny cy j xa xn xc xb r2 w v := hst
                            obtain ⟨q, q2, L, -, -, -, -, ⟨us, cap, hga⟩, -⟩ := hst.i.ex
                            have HC := Lib.hid (row_any (j : Int) v hga)
                            rw [HRw.out] at HC
                            have HSt := Lib.hid hst
                            clear hdep hag hst hga
                            go_simp
                            refine HC.out.mono ?_
                            rintro e w' ⟨⟨pa, pn, pc, pb⟩, rfl, hR, hb⟩
                            unfold Rv.val at hR ⊢
                            simp only at hR ⊢
                            exact hK _ _ hb ⟨pa, pn, pc, pb, rfl, hR⟩ (HSt.out.below hb)
                          · intro k z v hst hag hdep
                            refine .inl ⟨rfl, fun K hK => ?_⟩
                            have d10 : z.tmps.getD 10 undef = .pointer (some ⟨py, 0, none⟩) := hag.2.2 10 (by kernel_rfl)
                            have e10 := d10
                            rw [Array.getD_eq_getD_getElem?] at e10
                            have HSt := Lib.hid hst
                            clear hdep hag hst
                            go_simp
                            exact hK _ _ (Below.refl _ _) rfl HSt.out
                          · intro k z v hst hag hdep
                            refine .inl ⟨rfl, fun K hK => ?_⟩
                            have d102 : z.tmps.getD 102 undef = .pointer (some ⟨py, 1, none⟩) := hdep { on := 3, ground := .data } (by simp) rfl _ _ rfl rfl
                            have e102 := d102
                            rw [Array.getD_eq_getD_getElem?] at e102
                            have hst : Sy26 rb g px xe a0 n0 c0 cg py y yb yo ny cy j xa xn xc xb r2 w v := hst
                            have l1 := hst.i.yb.c1
                            have HSt := Lib.hid hst
                            clear hdep hag hst
                            go_simp
                            exact hK _ _ (Below.refl _ _) rfl HSt.out
                          · intro k z v hst hag hdep
                            refine .inl ⟨rfl, fun K hK => ?_⟩
                            have d13 : z.tmps.getD 13 undef = .int .i64 (j : Int) := hag.2.2 13 (by kernel_rfl)
                            have e13 := d13
                            rw [Array.getD_eq_getD_getElem?] at e13
                            have HSt := Lib.hid hst
                            clear hdep hag hst
                            go_simp
                            exact hK _ _ (Below.refl _ _) rfl HSt.out
                          · intro k z v hst hag hdep
                            refine .inl ⟨rfl, fun K hK => ?_⟩
                            have d103 : z.tmps.getD 103 undef = .slice (some ⟨yb, yo, none⟩) ny cy := hdep { on := 4, ground := .data } (by simp) rfl _ _ rfl rfl
                            have e103 := d103
                            rw [Array.getD_eq_getD_getElem?] at e103
                            have d104 : z.tmps.getD 104 undef = .int .i64 (j : Int) := hdep { on := 5, ground := .data } (by simp) rfl _ _ rfl rfl
                            have e104 := d104
                            rw [Array.getD_eq_getD_getElem?] at e104
                            have HSt := Lib.hid hst
                            clear hdep hag hst
                            go_simp
                            exact hK _ _ (Below.refl _ _) rfl HSt.out
                          · intro k z v hst hag hdep
                            refine .inl ⟨rfl, fun K hK => ?_⟩
                            have d105 : z.tmps.getD 105 undef = .pointer (some ⟨yb, yo + j * 2, none⟩) := hdep { on := 6, ground := .data } (by simp) rfl _ _ rfl rfl
                            have e105 := d105
                            rw [Array.getD_eq_getD_getElem?] at e105
                            have hst : Sy26 rb g px xe a0 n0 c0 cg py y yb yo ny cy j xa xn xc xb r2 w v := hst
                            have l0 := hst.k0
                            have l1 := hst.k1
                            have HSt := Lib.hid hst
                            clear hdep hag hst
                            go_simp
                            exact hK _ _ (Below.refl _ _) rfl HSt.out
                          · intro k z v hst hag hdep
                            refine .inl ⟨rfl, fun K hK => ?_⟩
                            have d101' : ClOkD g py j r1 D1 yb yo ny cy xa xn xc xb 2 (z.tmps.getD 101 undef) v := hdep { on := 2, ground := .data } (by simp) rfl _ _ rfl rfl
                            simp only [ClOkD] at d101'
                            obtain ⟨ra, rm, rc, rb2, d101, hR⟩ := d101'
                            have e101 := d101
                            rw [Array.getD_eq_getD_getElem?] at e101
                            have d106 : z.tmps.getD 106 undef = .agg #[.slice xa xn xc, .bool xb] := hdep { on := 7, ground := .data } (by simp) rfl _ _ rfl rfl
                            have e106 := d106
                            rw [Array.getD_eq_getD_getElem?] at e106
                            have hst : Sy26 rb g px xe a0 n0 c0 cg py y yb yo ny cy j xa xn xc xb r2 w v := hst
                            have HC := Lib.hid (isRow_any hR hst.ry HRr.out.1 HRr.out.2.1 HRr.out.2.2)
                            rw [HD1.out] at HC
                            have HSt := Lib.hid hst
                            clear hdep hag hst hR
                            go_simp
                            refine HC.out.mono ?_
                            rintro e w' ⟨rfl, hb⟩
                            exact hK _ _ hb rfl (HSt.out.below hb)
                          · intro k z v hst hag hdep
                            refine .inl ⟨rfl, fun K hK => ?_⟩
                            have d107 : z.tmps.getD 107 undef = .bool D1 := hdep { on := 8, ground := .data } (by simp) rfl _ _ rfl rfl
                            have e107 := d107
                            rw [Array.getD_eq_getD_getElem?] at e107
                            have HSt := Lib.hid hst
                            clear hdep hag hst
                            go_simp
                            exact hK _ _ (Below.refl _ _) rfl HSt.out
                        case hdone =>
                          intro z v hst hag hok
                          have hst : Sy26 rb g px xe a0 n0 c0 cg py y yb yo ny cy j xa xn xc xb r2 w v := hst
                          have d12 : z.tmps.getD 12 undef = .bool D1 := hok 9 _ 12 rfl rfl
                          have HI := Lib.hid hst.i
                          clear hst H26
                          obtain ⟨uu, hu, hzz⟩ := Go.Proofs.YtmdnnpcofbhceaaDoor.R.agree_frame [99, 100, 101, 102, 103, 104, 105, 106, 107, 12] rfl hag
                          have e12 := (hu 12).trans d12
                          subst hzz
                          simp only [List.foldl_cons, List.foldl_nil]
                          rw [e12]
                          clear e12 d12 hu hag hok
                          try dsimp only [Exit.then]
                          simp only [List.setIfInBounds_toArray, List.set_cons_succ, List.set_cons_zero]
                          generalize uu 99 = u99', uu 100 = u100', uu 101 = u101', uu 102 = u102', uu 103 = u103', uu 104 = u104', uu 105 = u105', uu 106 = u106', uu 107 = u107'
                          clear uu
                          have HE : Hid ((D1 = true → xe.rs.take (j + 1) = y.rs.take (j + 1)) ∧ (D1 = false → D = false)) := Lib.hid ⟨fun e => by
                            rw [← HD1.out] at e
                            have e := of_decide_eq_true e
                            rw [HTx.out, HTy.out, HTk.out, e], fun e => by
                            rw [← HD1.out] at e
                            rw [← HDx.out]
                            exact decide_eq_false (fun h => of_decide_eq_false e (HDe.out h))⟩
                          rename_i K hK
                          refine hK _ _ ?_
                          go_wp2_with fail
                          go_roundw
                          case rel => exact ⟨D1, j + 1, rfl, by go_num, by omega, Lib.hid ⟨HI.out, HE.out.1, HE.out.2⟩⟩
                          case measure => simp [intOf]; omega
                      · obtain rfl : j = n0 := by omega
                        have hd : decide (j < j) = false := by simp
                        have hDt : D = true := by
                          have h := HF.out.2.1 rfl
                          rw [← HDx.out]
                          refine decide_eq_true ?_
                          rw [List.take_of_length_le (by rw [← HLx.out]; exact Nat.le_refl _), List.take_of_length_le (by rw [← HLy.out, ← HNn.out]; exact Nat.le_refl _)] at h
                          exact h
                        have HF1 := Lib.hid HF.out.1
                        clear HF
                        subst hDt
                        have hx0 := HF1.out.xb.c0
                        have hx1 := HF1.out.xb.c1
                        have hi := HF1.out.isX
                        unfold refV at hi
                        have HI1 := Lib.hid hi
                        have HF5 := Lib.hid HF1.out
                        clear hi
                        go_wp2_with fail
                        refine HI1.out.mono ?_
                        rintro e w6 ⟨rfl, hb6⟩
                        have HF6 := Lib.hid (HF5.out.below hb6)
                        clear hx0 hx1 hb6 HI1 HF5
                        have hy0 := HF6.out.yb.c0
                        have hy1 := HF6.out.yb.c1
                        have hi := HF6.out.isY
                        unfold refV at hi
                        have HI2 := Lib.hid hi
                        clear hi
                        go_wp2_with fail
                        refine HI2.out.mono ?_
                        rintro e w7 ⟨rfl, hb7⟩
                        have HF7 := Lib.hid (HF6.out.below hb7)
                        clear hy0 hy1 hb7 HI2 HF6
                        have hsm := HF7.out.same
                        rw [HDx.out] at hsm
                        have HSm := Lib.hid hsm
                        clear hsm
                        go_wp2_with fail
                        refine HSm.out.mono ?_
                        rintro e w8 ⟨rfl, hb8⟩
                        have hend : Hid (P (.returned (.bool true)) w8) := Lib.hid (by rw [← HP.out]; exact ⟨rfl, (HF7.out.below hb8).b⟩)
                        clear hb8 HF7 HSm
                        go_wp2_with fail
                        exact hend.out
              · have hDf : D = false := by
                  rw [← HDx.out]
                  exact decide_eq_false (fun e => hne ⟨HOx.out.wide HOy.out e, by rw [HLx.out, HLy.out, e]⟩)
                subst hDf
                by_cases hWW : xe.W = y.W
                · have e1 : ((xe.W : Int) == (y.W : Int)) = true := by simp [hWW]
                  have e2 : ((n0 : Int) == (ny : Int)) = false := by
                    have : ¬ n0 = ny := fun e => hne ⟨hWW, e⟩
                    simp; omega
                  clear hne hWW
                  rcases hway2 with ⟨d1, d2⟩ | d1
                  all_goals
                    go_wp2_with fail
                    clear hx0 hx1 hy0 hy1 e1 e2
                    go_loopw [12, 13] (fun s i wr => s = .bool false ∧ i = .int .i64 0 ∧ Hid (Syn2 rb g px xe a0 n0 c0 cg py y (refV y.W ya ny cy) y.W (.slice ya ny cy) w wr)) (fun _ _ _ => 0)
                    case atStart => exact ⟨rfl, rfl, Lib.hid HS.out⟩
                    case round =>
                      obtain ⟨rfl, rfl, HF1⟩ := hrel
                      clear HS
                      have hx0 := HF1.out.xb.c0
                      have hx1 := HF1.out.xb.c1
                      have hi := HF1.out.isX
                      unfold refV at hi
                      have HI1 := Lib.hid hi
                      have HF5 := Lib.hid HF1.out
                      clear hi
                      go_wp2_with fail
                      refine HI1.out.mono ?_
                      rintro e w6 ⟨rfl, hb6⟩
                      have HF6 := Lib.hid (HF5.out.below hb6)
                      clear hx0 hx1 hb6 HI1 HF5
                      have hy0 := HF6.out.yb.c0
                      have hy1 := HF6.out.yb.c1
                      have hi := HF6.out.isY
                      unfold refV at hi
                      have HI2 := Lib.hid hi
                      clear hi
                      go_wp2_with fail
                      refine HI2.out.mono ?_
                      rintro e w7 ⟨rfl, hb7⟩
                      have HF7 := Lib.hid (HF6.out.below hb7)
                      clear hy0 hy1 hb7 HI2 HF6
                      have hsm := HF7.out.same
                      rw [HDx.out] at hsm
                      have HSm := Lib.hid hsm
                      clear hsm
                      go_wp2_with fail
                      refine HSm.out.mono ?_
                      rintro e w8 ⟨rfl, hb8⟩
                      have hend : Hid (P (.returned (.bool true)) w8) := Lib.hid (by rw [← HP.out]; exact ⟨rfl, (HF7.out.below hb8).b⟩)
                      clear hb8 HF7 HSm
                      go_wp2_with fail
                      exact hend.out
                · have e1 : ((xe.W : Int) == (y.W : Int)) = false := by simp; omega
                  clear hne hWW
                  rcases hway2 with ⟨d1, d2⟩ | d1
                  all_goals
                    go_wp2_with fail
                    clear hx0 hx1 hy0 hy1 e1
                    go_loopw [12, 13] (fun s i wr => s = .bool false ∧ i = .int .i64 0 ∧ Hid (Syn2 rb g px xe a0 n0 c0 cg py y (refV y.W ya ny cy) y.W (.slice ya ny cy) w wr)) (fun _ _ _ => 0)
                    case atStart => exact ⟨rfl, rfl, Lib.hid HS.out⟩
                    case round =>
                      obtain ⟨rfl, rfl, HF1⟩ := hrel
                      clear HS
                      have hx0 := HF1.out.xb.c0
                      have hx1 := HF1.out.xb.c1
                      have hi := HF1.out.isX
                      unfold refV at hi
                      have HI1 := Lib.hid hi
                      have HF5 := Lib.hid HF1.out
                      clear hi
                      go_wp2_with fail
                      refine HI1.out.mono ?_
                      rintro e w6 ⟨rfl, hb6⟩
                      have HF6 := Lib.hid (HF5.out.below hb6)
                      clear hx0 hx1 hb6 HI1 HF5
                      have hy0 := HF6.out.yb.c0
                      have hy1 := HF6.out.yb.c1
                      have hi := HF6.out.isY
                      unfold refV at hi
                      have HI2 := Lib.hid hi
                      clear hi
                      go_wp2_with fail
                      refine HI2.out.mono ?_
                      rintro e w7 ⟨rfl, hb7⟩
                      have HF7 := Lib.hid (HF6.out.below hb7)
                      clear hy0 hy1 hb7 HI2 HF6
                      have hsm := HF7.out.same
                      rw [HDx.out] at hsm
                      have HSm := Lib.hid hsm
                      clear hsm
                      go_wp2_with fail
                      refine HSm.out.mono ?_
                      rintro e w8 ⟨rfl, hb8⟩
                      have hend : Hid (P (.returned (.bool true)) w8) := Lib.hid (by rw [← HP.out]; exact ⟨rfl, (HF7.out.below hb8).b⟩)
                      clear hb8 HF7 HSm
                      go_wp2_with fail
                      exact hend.out

end Go.Proofs.YtmdnnpcofbhceaaDoor.K
