/- The document's grid: New, Resize. -/
import Derived.Test.YtmdnnpcofbhceaaDoorMerged17
import Derived.Test.YtmdnnpcofbhceaaDoorMerged4
namespace Go.Proofs.YtmdnnpcofbhceaaDoor.K
open Go.RowKit

def NewOk (xb W cb : Nat) (vv : Value) : Nat → Value → World → Prop
  | 0, u, _ => u = .pointer (some ⟨xb, 1, none⟩)
  | 1, u, _ => u = vv
  | 2, u, _ => u = .pointer (some ⟨xb, 0, none⟩)
  | 3, u, _ => u = .int .i64 (W : Int)
  | 4, u, w => ∃ x3 y3, u = .agg #[.slice x3 W y3, .bool false] ∧ OwnC .i64 87 cb (.slice x3 W y3) (blanks W 0) w
  | 5, u, w => ∃ p x3 y3, u = .slice (some ⟨p, 0, none⟩) 1 1 ∧ RoB 30 p (.slice x3 W y3) false w ∧ OwnC .i64 87 cb (.slice x3 W y3) (blanks W 0) w
  | _, _, _ => True
/-- what New has come to -/
structure NwI (L : List Nat) (rb base xb W : Nat) (w : World) (rs : List Ro) (wr : World) : Prop where
  ex : ∃ v, GrB xb W v wr ∧ Gath 30 L base v rs wr
  b : Below rb w wr
  sz : base ≤ wr.heap.size
theorem NwI.store {L : List Nat} {rb base xb W : Nat} {w : World} {rs : List Ro} {w5 : World} {v v' : Value} (hx : GrB xb W v w5) (hG : Gath 30 L base v' rs w5) (hb : Below rb w w5) (hr : rb ≤ xb) (hs : base ≤ w5.heap.size) (hL : ∀ p ∈ L, p < base) (hxL : xb ∈ L) : NwI L rb base xb W w rs (w5.setCell ⟨xb, 1, none⟩ v') :=
  ⟨⟨v', hx.set1, hG.keptB ((KeepB.setCell _).mono (fun i hi => by rw [List.mem_singleton.1 hi]; exact hxL)) (fun q hq hm => by have := hL q hm; have := (hG.own q hq).1; omega)⟩, hb.setCell (p := ⟨xb, 1, none⟩) hr _, Nat.le_trans hs (KeepsWalks.setCell _ _ _).size⟩
def GrPost (L : List Nat) (x : Gd) (w : World) (e : Ending) (w' : World) : Prop := ∃ v, e = .returned v ∧ RefG L v x w' ∧ Below w.heap.size w w'
theorem res2 {rb W : Nat} {v a b : Value} {w w' : World} (h : w.heap[rb]? = some (.cells #[a, b] 59 (0, 0))) (hb : Below rb w' w) : Below rb w' ((w.setCell ⟨rb, 0, none⟩ (.int .i64 (W : Int))).setCell ⟨rb, 1, none⟩ v) := (hb.setCell (p := ⟨rb, 0, none⟩) (Nat.le_refl _) _).setCell (p := ⟨rb, 1, none⟩) (Nat.le_refl _) _
set_option maxRecDepth 100000 in
set_option maxHeartbeats 8000000 in
theorem refNew_any {L : List Nat} (W0 H0 : Int) (w : World) (hL : ∀ p ∈ L, p < w.heap.size) :
    Calls Tryd.prog 32 #[.int .i64 W0, .int .i64 H0] w (GrPost L (newG W0 H0) w) := by
  obtain ⟨rb, hrb⟩ : ∃ rb, w.heap.size = rb := ⟨_, rfl⟩
  obtain ⟨w1, hw1⟩ : ∃ w1, w.alloc (.cells #[.int .i64 0, .slice none 0 0] 59) = w1 := ⟨_, rfl⟩
  have hs1 : w1.heap.size = rb + 1 := by rw [← hw1, World.size_alloc, hrb]
  have b01 : Below rb w w1 := by rw [← hw1, ← hrb]; exact (Below.refl _ _).alloc (Nat.le_refl _) _
  have hg1 : GrB rb 0 (.slice none 0 0) w1 := by rw [← hw1, ← hrb]; exact GrB.new w 0 _
  have HS1 := Lib.hid (rsize_any W0 w1)
  have HS2 := Lib.hid (fun v => rsize_any H0 v)
  have hnew : newG W0 H0 = ⟨szN W0, List.replicate (szN H0) (blankR (szN W0) 0)⟩ := rfl
  have hW1 := szN_le W0
  have hH1 := szN_le H0
  rw [hnew]
  obtain ⟨W, hW⟩ : ∃ W, szN W0 = W := ⟨_, rfl⟩
  obtain ⟨H, hH⟩ : ∃ H, szN H0 = H := ⟨_, rfl⟩
  rw [hW] at HS1 hW1 ⊢
  rw [hH] at HS2 hH1 ⊢
  have HNW : Hid (nearN (W : Int) = W) := Lib.hid (by unfold nearN; omega)
  obtain ⟨xb, hxb⟩ : ∃ xb, rb + 1 = xb := ⟨_, rfl⟩
  obtain ⟨w2, hw2⟩ : ∃ w2, w1.alloc (.cells #[.int .i64 (W : Int), .slice none 0 0] 59) = w2 := ⟨_, rfl⟩
  have hx2 : GrB xb W (.slice none 0 0) w2 := by rw [← hw2, ← hxb, ← hs1]; exact GrB.new w1 W _
  have b12 : Below rb w w2 := b01.trans (by rw [← hw2]; exact (Below.refl _ _).alloc (by omega) _)
  have hg2 : GrB rb 0 (.slice none 0 0) w2 := by rw [← hw2]; exact hg1.belowAll ((Below.refl _ _).alloc (Nat.le_refl _) _)
  obtain ⟨base, hbase⟩ : ∃ base, rb + 2 = base := ⟨_, rfl⟩
  have hi0 : NwI (rb :: xb :: L) rb base xb W w [] w2 := ⟨⟨_, hx2, Gath.nil _ _ _ _⟩, b12, by rw [← hw2, World.size_alloc]; omega⟩
  have HBa := Lib.hid hbase
  have HI0 := Lib.hid (And.intro hi0 hg2)
  have HW1 := Lib.hid hw1
  have HW2 := Lib.hid hw2
  have HRb := Lib.hid hrb
  have HS := Lib.hid hs1
  have HXb := Lib.hid hxb
  have HL := Lib.hid hL
  have HLb : Hid (∀ p ∈ rb :: xb :: L, p < base) := Lib.hid (fun p hp => by
    rcases List.mem_cons.1 hp with rfl | hp
    · omega
    rcases List.mem_cons.1 hp with rfl | hp
    · omega
    · have := hL p hp; omega)
  clear hw1 hw2 hs1 b01 hg1 hx2 b12 hg2 hi0 hrb hL hnew hW hH hbase
  obtain ⟨P, hP⟩ : ∃ P, GrPost L ⟨W, List.replicate H (blankR W 0)⟩ w = P := ⟨_, rfl⟩
  rw [hP]
  have HP := Lib.hid hP
  clear hP
  go_enter Tryd.func32, Tryd.ntmps32
  go_upto_region 1 with fail
  rw [HW1.out, HRb.out]
  go_wp2_with (go_at_call 66; refine HS1.out.mono ?_; rintro e w' ⟨rfl, rfl⟩)
  rw [HS.out, HXb.out, HW2.out]
  go_loopw [6] (fun i wr => ∃ j : Nat, i = .int .i64 (j : Int) ∧ j ≤ H ∧ Hid (NwI (rb :: xb :: L) rb base xb W w (List.replicate j (blankR W 0)) wr ∧ GrB rb 0 (.slice none 0 0) wr)) (fun i _ => H - (intOf i).toNat)
  case atStart => exact ⟨0, rfl, Nat.zero_le _, HI0⟩
  case round =>
    obtain ⟨j, rfl, hj, HF⟩ := hrel
    by_cases hlt : j < H
    · have hd : decide (j < H) = true := decide_eq_true hlt
      obtain ⟨rs, hrs⟩ : ∃ rs, List.replicate j (blankR W 0) = rs := ⟨_, rfl⟩
      have HRs := Lib.hid hrs
      obtain ⟨⟨⟨vv, hx, hGa⟩, hb, hrbw⟩, hgb⟩ := HF.out
      rw [hrs] at hGa
      have HX := Lib.hid hx
      have HXl := Lib.hid hx.lt
      have HGa := Lib.hid hGa
      have HGb := Lib.hid hgb
      have HBw := Lib.hid hb
      have HRbw := Lib.hid hrbw
      have HCb : Hid (wr.heap.size ≤ wr.heap.size) := Lib.hid (Nat.le_refl _)
      have HLr : Hid (∀ p ∈ rb :: xb :: L, p < wr.heap.size) := Lib.hid (fun p hp => by
        rcases List.mem_cons.1 hp with rfl | hp
        · exact hgb.lt
        rcases List.mem_cons.1 hp with rfl | hp
        · exact hx.lt
        · have := HL.out p hp; have := HRb.out; have := HBa.out; omega)
      have HRsl : Hid (rs.length ≤ 1000) := Lib.hid (by rw [← hrs, List.length_replicate]; omega)
      clear hx hGa hgb hb hrbw hrs
      go_upto_region 5 with (go_at_call 66; refine (HS2.out _).mono ?_; rintro e w' ⟨rfl, rfl⟩)
      refine Go.Proofs.YtmdnnpcofbhceaaDoor.R.wp_region_tailT 6 (by kernel_rfl) (fun u => Below wr.heap.size wr u) (fun u v => Below u.heap.size u v) (NewOk xb W wr.heap.size vv) (by rfl) (by kernel_rfl) (by decide) (by kernel_rfl) (by kernel_rfl) (by kernel_rfl) ?hC ?hOk ?hop ?hdone ((Below.refl _ _).drew)
      case hC => exact fun u v h1 h2 => h1.trans (h2.mono h1.size)
      case hOk =>
        intro i u w1 w2 h hr
        unfold NewOk at h ⊢
        split <;> first | exact True.intro | exact h | (obtain ⟨x, y, e, h1⟩ := h; exact ⟨x, y, e, h1.belowAll hr⟩) | (obtain ⟨p, x, y, e, h0, h1⟩ := h; exact ⟨p, x, y, e, h0.belowAll hr, h1.belowAll hr⟩) | (obtain ⟨x, m, y, b, e, h1, h2⟩ := h; exact ⟨x, m, y, b, e, h1.belowAll hr, h2⟩) | (obtain ⟨p, x, m, y, b, e, h0, h1, h2⟩ := h; exact ⟨p, x, m, y, b, e, h0.belowAll hr, h1.belowAll hr, h2⟩)
      case hop =>
        refine ⟨?_, ?_, ?_, ?_, ?_, ?_, trivial⟩
        · intro z v hz hag hdep
          refine .inl ⟨rfl, fun K hK => ?_⟩
          have d5 : z.tmps.getD 5 undef = .pointer (some ⟨xb, 0, none⟩) := hag.2.2 5 (by kernel_rfl)
          have e5 := d5
          rw [Array.getD_eq_getD_getElem?] at e5
          clear hdep hag 
          go_simp
          exact hK _ _ (Below.refl _ _) rfl
        · intro z v hz hag hdep
          refine .inl ⟨rfl, fun K hK => ?_⟩
          have d16 : z.tmps.getD 16 undef = .pointer (some ⟨xb, 1, none⟩) := hdep { on := 0, ground := .data } (by simp) rfl _ _ rfl rfl
          have e16 := d16
          rw [Array.getD_eq_getD_getElem?] at e16
          have l0 := (hz.cell (p := ⟨xb, 1, none⟩) HXl.out).trans HX.out.c1
          clear hz
          clear hdep hag 
          go_simp
          exact hK _ _ (Below.refl _ _) rfl
        · intro z v hz hag hdep
          refine .inl ⟨rfl, fun K hK => ?_⟩
          have d5 : z.tmps.getD 5 undef = .pointer (some ⟨xb, 0, none⟩) := hag.2.2 5 (by kernel_rfl)
          have e5 := d5
          rw [Array.getD_eq_getD_getElem?] at e5
          clear hdep hag 
          go_simp
          exact hK _ _ (Below.refl _ _) rfl
        · intro z v hz hag hdep
          refine .inl ⟨rfl, fun K hK => ?_⟩
          have d18 : z.tmps.getD 18 undef = .pointer (some ⟨xb, 0, none⟩) := hdep { on := 2, ground := .data } (by simp) rfl _ _ rfl rfl
          have e18 := d18
          rw [Array.getD_eq_getD_getElem?] at e18
          have l0 := (hz.cell (p := ⟨xb, 0, none⟩) HXl.out).trans HX.out.c0
          clear hz
          clear hdep hag 
          go_simp
          exact hK _ _ (Below.refl _ _) rfl
        · intro z v hz hag hdep
          refine .inl ⟨rfl, fun K hK => ?_⟩
          have d19 : z.tmps.getD 19 undef = .int .i64 (W : Int) := hdep { on := 3, ground := .data } (by simp) rfl _ _ rfl rfl
          have e19 := d19
          rw [Array.getD_eq_getD_getElem?] at e19
          have HC := Lib.hid (refBlank_any (W : Int) 0 v)
          have HZs := Lib.hid hz.size
          clear hdep hag hz
          go_simp
          refine HC.out.mono ?_
          rintro e w' ⟨v', rfl, h1, h2⟩
          rw [HNW.out] at h1
          obtain ⟨x3, y3, rfl, -⟩ := h1.shape
          rw [blanks_length] at h1 ⊢
          exact hK _ _ h2 ⟨x3, y3, rfl, h1.weaken (Nat.le_trans HCb.out HZs.out)⟩
        · intro z v hz hag hdep
          refine .inl ⟨rfl, fun K hK => ?_⟩
          have d20' : NewOk xb W wr.heap.size vv 4 (z.tmps.getD 20 undef) v := hdep { on := 4, ground := .data } (by simp) rfl _ _ rfl rfl
          simp only [NewOk] at d20'
          obtain ⟨x3, y3, d20, hO3⟩ := d20'
          have e20 := d20
          rw [Array.getD_eq_getD_getElem?] at e20
          have HO3 := Lib.hid hO3
          clear hdep hag hz hO3
          go_simp
          exact hK _ _ ((Below.refl _ _).alloc (Nat.le_refl _) _) ⟨v.heap.size, x3, y3, rfl, RoB.new _ _ _ _, HO3.out.belowAll ((Below.refl _ _).alloc (Nat.le_refl _) _)⟩

      case hdone =>
        intro z v hz hag hok hno
        clear hno
        have d17 : z.tmps.getD 17 undef = vv := hok 1 _ 17 (by decide) rfl rfl
        obtain ⟨p, x3, y3, d21, hRo, hO3⟩ : ∃ p x3 y3, z.tmps.getD 21 undef = .slice (some ⟨p, 0, none⟩) 1 1 ∧ RoB 30 p (.slice x3 W y3) false v ∧ OwnC .i64 87 wr.heap.size (.slice x3 W y3) (blanks W 0) v := hok 5 _ 21 (by decide) rfl rfl
        obtain ⟨uu, hu, hzz⟩ := Go.Proofs.YtmdnnpcofbhceaaDoor.R.agree_frame [16, 17, 18, 19, 20, 21, 22, 23] rfl hag
        have e17 := (hu 17).trans d17
        have e21 := (hu 21).trans d21
        subst hzz
        have HZ := Lib.hid hz
        clear hz
        simp only [List.foldl_cons, List.foldl_nil]
        rw [e17, e21]
        clear e17 d17 e21 d21 hu hag hok
        try dsimp only [Exit.then]
        try dsimp only [List.drop]
        simp only [List.setIfInBounds_toArray, List.set_cons_succ, List.set_cons_zero]
        generalize uu 16 = u16', uu 18 = u18', uu 19 = u19', uu 20 = u20', uu 22 = u22', uu 23 = u23'
        clear uu
        have HRo := Lib.hid hRo
        have HO3 := Lib.hid hO3
        have hrv : RowV .i64 (Rv.val ⟨x3, W, y3, false⟩) (blankR W 0) v := by
          have h := hO3.rowVk (r := blankR W 0)
          exact h
        have hfresh : ∀ b off, (⟨x3, W, y3, false⟩ : Rv).a = some ⟨b, off, none⟩ → wr.heap.size ≤ b := hO3.from_
        have hgz := HGa.out.belowAll HZ.out
        have hap : Apart vv ⟨x3, W, y3, false⟩ := fun _ b off e e' => by
          have h1 := (HGa.out.own b e').2.1
          have h2 := hfresh b off e
          omega
        have hoff : Off (rb :: xb :: L) ⟨x3, W, y3, false⟩ := Off.fresh hfresh HLr.out
        have HRv := Lib.hid hrv
        have HGz := Lib.hid hgz
        have HAp := Lib.hid hap
        have HOf := Lib.hid hoff
        have HZs : Hid (base ≤ v.heap.size) := Lib.hid (Nat.le_trans HRbw.out HZ.out.size)
        clear hRo hO3 hrv hgz hap hoff hfresh
        go_wp2_with (refine wpList_append_row refRowsT rfl _ _ rfl rfl (rb :: xb :: L) base vv rs p ⟨x3, W, y3, false⟩ (blankR W 0) rfl rfl HGz.out HRo.out HRv.out HOf.out HAp.out HRsl.out HZs.out ?_)
        intro v' w5 hG5 hg5 hb5
        have hx5 : GrB xb W vv w5 := by
          obtain ⟨us0, ho0, -⟩ := HGz.out.ex
          exact (HX.out.belowAll HZ.out).grown ho0 (by decide) hg5
        have HGb5 := Lib.hid (show GrB _ _ _ w5 from by obtain ⟨us0, ho0, -⟩ := HGz.out.ex; exact (HGb.out.belowAll HZ.out).grown ho0 (by decide) hg5)
        have hbw5 : Below rb wr w5 := (HZ.out.mono (by have := HRbw.out; have := HBa.out; omega)).grown hg5 (by have := HZs.out; have := HBa.out; omega) (fun q hq => by have := (HGz.out.own q hq).1; have := HBa.out; omega)
        have f1 := hx5.fr 1
        have c1 := hx5.c1
        obtain ⟨a5, c5, rfl, -, -⟩ := hG5.shape
        have HG5 := Lib.hid hG5
        have HX5 := Lib.hid hx5
        have HBw5 := Lib.hid hbw5
        clear hG5 hg5 hb5 hx5 hbw5
        go_wp2_with fail

        have hrep : rs ++ [blankR W 0] = List.replicate (j + 1) (blankR W 0) := by rw [← HRs.out, List.replicate_succ']
        have hN : NwI (rb :: xb :: L) rb base xb W w (List.replicate (j + 1) (blankR W 0)) (w5.setCell ⟨xb, 1, none⟩ (.slice a5 (rs ++ [blankR W 0]).length c5)) := by
          rw [← hrep]
          exact NwI.store HX5.out HG5.out (HBw.out.trans HBw5.out) (by have := HXb.out; omega) (Nat.le_trans HRbw.out HBw5.out.size) HLb.out (by simp)
        have hkb : ((w5.setCell ⟨xb, 1, none⟩ (.slice a5 (rs ++ [blankR W 0]).length c5))).heap[rb]? = w5.heap[rb]? := Below.heap_setCell _ _ _ rb (fun e => by have := HXb.out; have : rb = xb := e; omega)
        have HN : Hid (NwI (rb :: xb :: L) rb base xb W w (List.replicate (j + 1) (blankR W 0)) (w5.setCell ⟨xb, 1, none⟩ (.slice a5 (rs.length + 1) c5)) ∧ GrB rb 0 (.slice none 0 0) (w5.setCell ⟨xb, 1, none⟩ (.slice a5 (rs.length + 1) c5))) := Lib.hid (by
          have h := And.intro hN (HGb5.out.kept hkb)
          rw [List.length_append, List.length_singleton] at h
          exact h)
        clear hN hkb
        go_roundw
        case rel => exact ⟨j + 1, by go_num, by omega, HN⟩
        case measure => simp [intOf]; omega
    · obtain rfl : j = H := by omega
      have hd : decide (j < j) = false := by simp
      have hd' : decide ((j : Int) < (j : Int)) = false := by simp
      obtain ⟨⟨⟨vv, hx, hGa⟩, hb, hrbw⟩, hgb⟩ := HF.out
      have e0 := hx.c0
      obtain ⟨av, cv, rfl, -, -⟩ := hGa.shape
      have e1 := hx.c1
      have f0 := hgb.fr 0
      have f1 := hgb.fr 1
      have k0 := hgb.c0
      have k1 := hgb.c1
      have HGa := Lib.hid hGa
      have HGb := Lib.hid hgb
      have HBw := Lib.hid hb
      clear hx hGa hb hgb HF
      go_wp2_with (go_at_call 66; refine (HS2.out _).mono ?_; rintro e w' ⟨rfl, rfl⟩)
      refine bodyPost_ret (v := .agg #[.int .i64 (W : Int), .slice av j cv]) (by rw [results_cell (fn := Tryd.f32) rfl]; go_simp <;> rfl) rfl ?_
      rw [← HP.out]
      have hk := ((KeepB.setCell (w := wr) (q := rb) (o := 0) (.int .i64 (W : Int))).trans (KeepB.setCell (q := rb) (o := 1) (.slice av j cv)))
      have hrl := HGa.out.rowsL (L' := rb :: L) (fun p hp => by
        rcases List.mem_cons.1 hp with rfl | hp
        · simp
        · simp [hp]) (fun p hp => HLb.out p (by
        rcases List.mem_cons.1 hp with rfl | hp
        · simp
        · simp [hp]))
      rw [List.length_replicate] at hrl
      refine ⟨_, rfl, ⟨av, j, cv, rfl, (hrl.keptB (hk.mono (fun i hi => by rw [List.mem_singleton.1 hi]; simp))).sub (fun p hp => List.mem_cons_of_mem _ hp)⟩, ?_⟩
      rw [HRb.out]
      exact hk.below (fun i hi => by rw [List.mem_singleton.1 hi]; exact Nat.le_refl _) HBw.out (by have := HGb.out.lt; omega)
end Go.Proofs.YtmdnnpcofbhceaaDoor.K
