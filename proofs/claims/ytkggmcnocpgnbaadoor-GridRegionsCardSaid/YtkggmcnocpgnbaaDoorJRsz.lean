/- The document's grid: Resize. -/
import Derived.Test.YtkggmcnocpgnbaaDoorMerged17
namespace Go.Proofs.YtkggmcnocpgnbaaDoor.K
open Go.RowKit

def RszOk (xb W cb : Nat) (vv : Value) : Nat → Value → World → Prop
  | 0, u, _ => u = .pointer (some ⟨xb, 1, none⟩)
  | 1, u, _ => u = vv
  | 2, u, _ => u = .pointer (some ⟨xb, 0, none⟩)
  | 3, u, _ => u = .int .i64 (W : Int)
  | 4, u, w => ∃ x3 y3, u = .agg #[.slice x3 W y3, .bool false] ∧ OwnC .i64 107 cb (.slice x3 W y3) (blanks W 0) w
  | 5, u, w => ∃ p x3 y3, u = .slice (some ⟨p, 0, none⟩) 1 1 ∧ RoB 38 p (.slice x3 W y3) false w ∧ OwnC .i64 107 cb (.slice x3 W y3) (blanks W 0) w
  | _, _, _ => True
def RsyOk (xb rb W cb o j s : Nat) (vv : Value) (bq off n c : Nat) (x9 : Option Addr) (m9 c9 : Nat) (b9 : Bool) (r2 : Ro) : Nat → Value → World → Prop
  | 0, u, _ => u = .pointer (some ⟨xb, 1, none⟩)
  | 1, u, _ => u = vv
  | 2, u, _ => u = .pointer (some ⟨rb, 1, none⟩)
  | 3, u, _ => u = .slice (some ⟨bq, off, none⟩) n c
  | 4, u, _ => u = .int .i64 (o : Int)
  | 5, u, _ => u = .int .i64 (j : Int)
  | 6, u, _ => u = .int .i64 (s : Int)
  | 7, u, _ => u = .pointer (some ⟨bq, off + s * 2, none⟩)
  | 8, u, _ => u = .agg #[.slice x9 m9 c9, .bool b9]
  | 9, u, _ => u = .pointer (some ⟨xb, 0, none⟩)
  | 10, u, _ => u = .int .i64 (W : Int)
  | 11, u, w => ∃ x3 m3 y3 b3, u = .agg #[.slice x3 m3 y3, .bool b3] ∧ RowV .i64 (Rv.val ⟨x3, m3, y3, b3⟩) r2 w ∧ ((x3 = x9 ∧ m3 = m9) ∨ ∀ b off, x3 = some ⟨b, off, none⟩ → cb ≤ b)
  | 12, u, w => ∃ p x3 m3 y3 b3, u = .slice (some ⟨p, 0, none⟩) 1 1 ∧ RoB 38 p (.slice x3 m3 y3) b3 w ∧ RowV .i64 (Rv.val ⟨x3, m3, y3, b3⟩) r2 w ∧ ((x3 = x9 ∧ m3 = m9) ∨ ∀ b off, x3 = some ⟨b, off, none⟩ → cb ≤ b)
  | _, _, _ => True
/-- the first j rows of another size -/
def szR (x : Gd) (W o j : Nat) : List Ro := (((x.rs.drop o).take j).map fun r => resizeS r W) ++ List.replicate (j - (x.rs.length - o)) (blankR W 0)
theorem szR_zero (x : Gd) (W o : Nat) : szR x W o 0 = [] := by unfold szR; simp
theorem szR_length {x : Gd} {W o j : Nat} (ho : o ≤ x.rs.length) : (szR x W o j).length = j := by
  unfold szR; rw [List.length_append, List.length_map, List.length_take, List.length_drop, List.length_replicate]; omega
theorem szR_row {x : Gd} {W o j : Nat} {r : Ro} (hr : x.rs[o + j]? = some r) : szR x W o (j + 1) = szR x W o j ++ [resizeS r W] := by
  have hlt := (List.getElem?_eq_some_iff.1 hr).1
  unfold szR
  rw [show j + 1 - (x.rs.length - o) = 0 by omega, show j - (x.rs.length - o) = 0 by omega, List.take_add_one, List.getElem?_drop, hr]
  simp
theorem szR_blank {x : Gd} {W o j : Nat} (hj : x.rs.length ≤ o + j) (ho : o ≤ x.rs.length) : szR x W o (j + 1) = szR x W o j ++ [blankR W 0] := by
  unfold szR
  rw [List.take_of_length_le (by rw [List.length_drop]; omega), List.take_of_length_le (by rw [List.length_drop]; omega), show j + 1 - (x.rs.length - o) = (j - (x.rs.length - o)) + 1 by omega, List.replicate_succ', List.append_assoc]
theorem szR_all (x : Gd) (w h off : Int) : (sizeG x w h off).1 = ⟨szN w, szR x (szN w) (plN x.rs.length off) (szN h)⟩ := rfl
def GrPost2 (L : List Nat) (y : Gd × List Ro) (w : World) (e : Ending) (w' : World) : Prop := ∃ v a n c, e = .returned (.tuple #[v, .slice a n c]) ∧ RefG L v y.1 w' ∧ RowsL .i64 L a n c y.2 w' ∧ Below w.heap.size w w'
theorem RowsL.firstN {rk : IntKind} {L : List Nat} {a : Option Addr} {n c : Nat} {rs : List Ro} {w : World} (h : RowsL rk L a n c rs w) (k : Nat) (hk : k ≤ n) : RowsL rk L a k c (rs.take k) w := by
  obtain ⟨vs, h1, h2, h3⟩ := h.ex
  refine ⟨⟨vs.take k, ⟨by rw [List.length_take, ← h1.len]; omega, Nat.le_trans hk h1.fit, h1.top, ?_⟩, h2.take k, fun u hu => h3 u (List.mem_of_mem_take hu)⟩, h.nil, fun hn => h.off (by omega)⟩
  rcases h1.at_ with h4 | ⟨b, off, ha, hb, hi⟩
  · left; rw [h4]; simp
  · refine .inr ⟨b, off, ha, hb, fun i u hu => ?_⟩
    rw [List.getElem?_take] at hu
    split at hu
    · exact hi i u hu
    · cases hu
set_option maxRecDepth 100000 in
set_option maxHeartbeats 16000000 in
theorem refGResize_any {L : List Nat} {x : Gd} {v : Value} (W0 H0 off0 : Int) (w : World) (hv : RefG L v x w) (hx : GdOk x) (hL : ∀ p ∈ L, p < w.heap.size) :
    Calls Tryd.prog 69 #[v, .int .i64 W0, .int .i64 H0, .int .i64 off0] w (GrPost2 L (sizeG x W0 H0 off0) w) := by
  obtain ⟨a, n, c, rfl, hrl⟩ := hv
  have hn := hrl.len
  have hx1 := hx.h1
  have hx2 := hx.h2
  obtain ⟨us, hin, hrv, hoff⟩ := hrl.ex
  have hul : n = us.length := hin.len
  obtain ⟨bq, off, rfl, hbq, hat⟩ := hin.at_.resolve_left (by intro e; rw [e] at hul; simp at hul; omega)
  obtain ⟨rb, hrb⟩ : ∃ rb, w.heap.size = rb := ⟨_, rfl⟩
  unfold refV
  obtain ⟨w1, hw1⟩ : ∃ w1, w.alloc (.cells #[.int .i64 (x.W : Int), .slice (some ⟨bq, off, none⟩) n c] 82) = w1 := ⟨_, rfl⟩
  have hs1 : w1.heap.size = rb + 1 := by rw [← hw1, World.size_alloc, hrb]
  obtain ⟨w2, hw2⟩ : ∃ w2, w1.alloc (.cells #[.int .i64 0, .slice none 0 0] 82) = w2 := ⟨_, rfl⟩
  have hs2 : w2.heap.size = rb + 2 := by rw [← hw2, World.size_alloc, hs1]
  have b01 : Below rb w w1 := by rw [← hw1, ← hrb]; exact (Below.refl _ _).alloc (Nat.le_refl _) _
  have b12 : Below w1.heap.size w1 w2 := by rw [← hw2]; exact (Below.refl _ _).alloc (Nat.le_refl _) _
  have hg1 : GrB rb x.W (.slice (some ⟨bq, off, none⟩) n c) w1 := by rw [← hw1, ← hrb]; exact GrB.new w x.W _
  have hg2 := hg1.belowAll b12
  have hr2 : GrB (rb + 1) 0 (.slice none 0 0) w2 := by rw [← hw2, ← hs1]; exact GrB.new w1 0 _
  have HS1 := Lib.hid (rsize_any W0 w2)
  have HS2 := Lib.hid (fun v => rsize_any H0 v)
  have ho := plN_lt (t := off0) (by omega : 0 < x.rs.length)
  have hnear := plN_near (by omega : 0 < x.rs.length) off0
  have hW1 := szN_le W0
  have hH1 := szN_le H0
  have hs2e : (sizeG x W0 H0 off0).2 = x.rs.take (plN x.rs.length off0) := rfl
  have hs1e := szR_all x W0 H0 off0
  obtain ⟨W, hW⟩ : ∃ W, szN W0 = W := ⟨_, rfl⟩
  obtain ⟨H, hH⟩ : ∃ H, szN H0 = H := ⟨_, rfl⟩
  rw [hW] at HS1 hW1 hs1e
  rw [hH] at HS2 hH1 hs1e
  obtain ⟨o, hoe⟩ : ∃ o, plN x.rs.length off0 = o := ⟨_, rfl⟩
  rw [hoe] at ho hnear hs2e hs1e
  have HNW : Hid (nearN (W : Int) = W) := Lib.hid (by unfold nearN; omega)
  obtain ⟨N, hN⟩ : ∃ N, min off0 ((n : Int) - 1) = N := ⟨_, rfl⟩
  have hM : max 0 N = (o : Int) := by rw [← hN]; unfold nearG at hnear; omega
  obtain ⟨xb, hxb⟩ : ∃ xb, rb + 2 = xb := ⟨_, rfl⟩
  obtain ⟨base, hbase⟩ : ∃ base, rb + 3 = base := ⟨_, rfl⟩
  obtain ⟨w3, hw3⟩ : ∃ w3, w2.alloc (.cells #[.int .i64 (W : Int), .slice none 0 0] 82) = w3 := ⟨_, rfl⟩
  have b23 : Below w2.heap.size w2 w3 := by rw [← hw3]; exact (Below.refl _ _).alloc (Nat.le_refl _) _
  have hx3 : GrB xb W (.slice none 0 0) w3 := by rw [← hw3, ← hxb, ← hs2]; exact GrB.new w2 W _
  have b03 : Below rb w w3 := (b01.trans (b12.mono (by omega))).trans (b23.mono (by omega))
  have hi0 : NwI (rb :: (rb + 1) :: xb :: L) rb base xb W w [] w3 := ⟨⟨_, hx3, Gath.nil _ _ _ _⟩, b03, by rw [← hw3, World.size_alloc]; omega⟩
  have HI0 := Lib.hid (And.intro hi0 (And.intro (hr2.belowAll b23) (hg2.belowAll b23)))
  have HLb : Hid (∀ p ∈ rb :: (rb + 1) :: xb :: L, p < base) := Lib.hid (fun p hp => by
    rcases List.mem_cons.1 hp with rfl | hp
    · omega
    rcases List.mem_cons.1 hp with rfl | hp
    · omega
    rcases List.mem_cons.1 hp with rfl | hp
    · omega
    · have := hL p hp; omega)
  have c1 := hg2.c1
  have HW1 := Lib.hid hw1
  have HW2 := Lib.hid hw2
  have HW3 := Lib.hid hw3
  have HS := Lib.hid hs1
  have HSs := Lib.hid hs2
  have HRb := Lib.hid hrb
  have HXb := Lib.hid hxb
  have HBa := Lib.hid hbase
  have HL := Lib.hid hL
  have HRl := Lib.hid hrl
  have HIn := Lib.hid hin
  have HRv := Lib.hid hrv
  have HOff := Lib.hid hoff
  have HAt := Lib.hid hat
  have HBq0 := Lib.hid hbq
  have HXo := Lib.hid hx
  have HNl := Lib.hid hn
  have HUl := Lib.hid hul
  have HO : Hid (o ≤ x.rs.length) := Lib.hid (by omega)
  obtain ⟨P, hP⟩ : ∃ P, GrPost2 L (sizeG x W0 H0 off0) w = P := ⟨_, rfl⟩
  rw [hP]
  have HP := Lib.hid hP
  have HS1e := Lib.hid hs1e
  have HS2e := Lib.hid hs2e
  have hno : o < n := by omega
  have hn1 : n ≤ 1000 := by omega
  have hcap : n ≤ c := hin.fit
  have hcapI := hin.top
  clear hw1 hw2 hw3 hs1 hs2 b01 b12 b23 hg1 hg2 hr2 hx3 b03 hi0 hrb hL hrl hin hrv hoff hat hbq hx hn hx1 hx2 hW hH hnear hoe hxb hbase hP hs1e hs2e hul ho
  go_enter Tryd.func69, Tryd.ntmps69
  go_upto_region 1 with fail
  rw [HW1.out, HRb.out, HW2.out]
  go_upto_region 2 with fail
  go_wp2_with (go_at_call 64; refine HS1.out.mono ?_; rintro e w' ⟨rfl, rfl⟩)
  rw [HSs.out, HXb.out, HW3.out]
  go_loopw [11] (fun i wr => ∃ j : Nat, i = .int .i64 (j : Int) ∧ j ≤ H ∧ Hid (NwI (rb :: (rb + 1) :: xb :: L) rb base xb W w (szR x W o j) wr ∧ GrB (rb + 1) 0 (.slice none 0 0) wr ∧ GrB rb x.W (.slice (some ⟨bq, off, none⟩) n c) wr)) (fun i _ => H - (intOf i).toNat)
  case atStart => exact ⟨0, rfl, Nat.zero_le _, Lib.hid (by rw [szR_zero]; exact HI0.out)⟩
  case round =>
    obtain ⟨j, rfl, hj, HF⟩ := hrel
    by_cases hlt : j < H
    · have hd : decide (j < H) = true := decide_eq_true hlt
      obtain ⟨rs, hrs⟩ : ∃ rs, szR x W o j = rs := ⟨_, rfl⟩
      have HRs := Lib.hid hrs
      have hrsl : rs.length = j := by rw [← hrs]; exact szR_length HO.out
      obtain ⟨⟨⟨vv, hxx, hGa⟩, hb, hrbw⟩, hg1, hgb⟩ := HF.out
      rw [hrs] at hGa
      have HX := Lib.hid hxx
      have HXl := Lib.hid hxx.lt
      have HGa := Lib.hid hGa
      have HGb := Lib.hid hgb
      have HGbl := Lib.hid hgb.lt
      have HG1 := Lib.hid hg1
      have HBw := Lib.hid hb
      have HRbw := Lib.hid hrbw
      have HCb : Hid (wr.heap.size ≤ wr.heap.size) := Lib.hid (Nat.le_refl _)
      have HLr : Hid (∀ p ∈ rb :: (rb + 1) :: xb :: L, p < wr.heap.size) := Lib.hid (fun p hp => Nat.lt_of_lt_of_le (HLb.out p hp) hrbw)
      have HRsl : Hid (rs.length ≤ 1000) := Lib.hid (by omega)
      clear hrsl
      obtain ⟨s, hs⟩ : ∃ s, o + j = s := ⟨_, rfl⟩
      have hwr : (o : Int) + (j : Int) = (s : Int) := by omega
      have hsb : (s : Int) ≤ 2000 := by omega
      have gc1 := hgb.c1
      clear hxx hGa hgb hg1 hb hrbw hrs
      by_cases hsn : s < n
      · have hd2 : decide (s < n) = true := decide_eq_true hsn
        have hsu : s < us.length := by rw [← HUl.out]; exact hsn
        have hsr : s < x.rs.length := by rw [← HNl.out]; exact hsn
        have hq := HAt.out s us[s] (List.getElem?_eq_getElem hsu)
        have hbw2 : Below w.heap.size w wr := by rw [HRb.out]; exact HBw.out
        have hbq2 : bq < wr.heap.size := Nat.lt_of_lt_of_le HBq0.out hbw2.size
        have hu9 := HRv.out.2 s us[s] x.rs[s] (List.getElem?_eq_getElem hsu) (List.getElem?_eq_getElem hsr)
        have hof9 := HOff.out us[s] (List.getElem_mem hsu)
        have hstep := szR_row (W := W) (o := o) (j := j) (r := x.rs[s]) (by rw [hs]; exact List.getElem?_eq_getElem hsr)
        have hlen9 := HXo.out.len x.rs[s] (List.getElem_mem hsr)
        obtain ⟨⟨x9, m9, c9, b9⟩, hx9⟩ : ∃ k, us[s] = k := ⟨_, rfl⟩
        obtain ⟨r9, hr9⟩ : ∃ k, x.rs[s] = k := ⟨_, rfl⟩
        rw [hx9] at hq hu9 hof9
        rw [hr9] at hu9 hstep hlen9
        have hold : m9 ≠ 0 → ∀ b off, x9 = some ⟨b, off, none⟩ → b < w.heap.size := fun hn b off e => hu9.lt hn b off e
        have hu9' := hu9.belowAll hbw2
        unfold Rv.val at hu9'
        simp only at hu9'
        obtain ⟨hb9, hce, hnil, hfit, hmx, hm9⟩ := hu9'.of
        obtain ⟨rl, hrl⟩ : ∃ rl, r9.l = rl := ⟨_, rfl⟩
        rw [hrl] at hce
        have hre : (⟨rl, b9⟩ : Ro) = r9 := by rw [← hrl, hb9]
        obtain ⟨r2, hr2⟩ : ∃ r2, resizeS r9 W = r2 := ⟨_, rfl⟩
        rw [hr2, HRs.out] at hstep
        have HRr : Hid (resizeS ⟨rl, b9⟩ (W : Int) = r2) := Lib.hid (by rw [hre]; exact hr2)
        have HCe := Lib.hid hce
        have HNil := Lib.hid hnil
        have HFit := Lib.hid hfit
        have HMx := Lib.hid hmx
        have HM9 : Hid (m9 ≤ 1000) := Lib.hid (by rw [hm9, hlen9]; exact HXo.out.w2)
        have HOld : Hid (m9 ≠ 0 → ∀ b off, x9 = some ⟨b, off, none⟩ → b < rb) := Lib.hid (by rw [← HRb.out]; exact hold)
        have HOff9 : Hid (m9 ≠ 0 → ∀ b off, x9 = some ⟨b, off, none⟩ → b ∉ L) := Lib.hid hof9
        have HStep := Lib.hid hstep
        have HQ0 : Hid (wr.cell? ⟨bq, off + s * 2, none⟩ = some (.slice x9 m9 c9)) := Lib.hid ((World.cell?_of_block (a := ⟨bq, off + s * 2, none⟩) (hbw2.block bq HBq0.out)).trans hq.1)
        have HQ1 : Hid (wr.cell? ⟨bq, off + s * 2 + 1, none⟩ = some (.bool b9)) := Lib.hid ((World.cell?_of_block (a := ⟨bq, off + s * 2 + 1, none⟩) (hbw2.block bq HBq0.out)).trans hq.2)
        have HBq := Lib.hid hbq2
        have HSn := Lib.hid hsn
        have HWr : Hid (IntKind.i64.wrap (s : Int) = (s : Int)) := Lib.hid (by rw [IntKind.wrap_i64]; omega)
        clear hq hbw2 hbq2 hu9 hof9 hstep hlen9 hx9 hr9 hold hu9' hb9 hce hnil hfit hmx hm9 hrl hre hr2 hsu hsr
        go_upto_region 7 with (go_at_call 64; refine (HS2.out _).mono ?_; rintro e w' ⟨rfl, rfl⟩)
        refine Go.Proofs.YtkggmcnocpgnbaaDoor.R.wp_region_tailT 13 (by kernel_rfl) (fun u => Below wr.heap.size wr u) (fun u v => Below u.heap.size u v) (RsyOk xb rb W wr.heap.size o j s vv bq off n c x9 m9 c9 b9 r2) (by rfl) (by kernel_rfl) (by decide) (by kernel_rfl) (by kernel_rfl) (by kernel_rfl) ?hC ?hOk ?hop ?hdone ((Below.refl _ _).drew)
        case hC => exact fun u v h1 h2 => h1.trans (h2.mono h1.size)
        case hOk =>
          intro i u w1 w2 h hr
          unfold RsyOk at h ⊢
          split <;> first | exact True.intro | exact h | (obtain ⟨x, y, e, h1⟩ := h; exact ⟨x, y, e, h1.belowAll hr⟩) | (obtain ⟨p, x, y, e, h0, h1⟩ := h; exact ⟨p, x, y, e, h0.belowAll hr, h1.belowAll hr⟩) | (obtain ⟨x, m, y, b, e, h1, h2⟩ := h; exact ⟨x, m, y, b, e, h1.belowAll hr, h2⟩) | (obtain ⟨p, x, m, y, b, e, h0, h1, h2⟩ := h; exact ⟨p, x, m, y, b, e, h0.belowAll hr, h1.belowAll hr, h2⟩)
        case hop =>
          refine ⟨?_, ?_, ?_, ?_, ?_, ?_, ?_, ?_, ?_, ?_, ?_, ?_, ?_, trivial⟩
          · intro z v hz hag hdep
            refine .inl ⟨rfl, fun K hK => ?_⟩
            have d10 : z.tmps.getD 10 undef = .pointer (some ⟨xb, 0, none⟩) := hag.2.2 10 (by kernel_rfl)
            have e10 := d10
            rw [Array.getD_eq_getD_getElem?] at e10
            clear hdep hag 
            go_simp
            exact hK _ _ (Below.refl _ _) rfl
          · intro z v hz hag hdep
            refine .inl ⟨rfl, fun K hK => ?_⟩
            have d35 : z.tmps.getD 35 undef = .pointer (some ⟨xb, 1, none⟩) := hdep { on := 0, ground := .data } (by simp) rfl _ _ rfl rfl
            have e35 := d35
            rw [Array.getD_eq_getD_getElem?] at e35
            have l0 := (hz.cell (p := ⟨xb, 1, none⟩) HXl.out).trans HX.out.c1
            clear hz
            clear hdep hag 
            go_simp
            exact hK _ _ (Below.refl _ _) rfl
          · intro z v hz hag hdep
            refine .inl ⟨rfl, fun K hK => ?_⟩
            have d4 : z.tmps.getD 4 undef = .pointer (some ⟨rb, 0, none⟩) := hag.2.2 4 (by kernel_rfl)
            have e4 := d4
            rw [Array.getD_eq_getD_getElem?] at e4
            clear hdep hag 
            go_simp
            exact hK _ _ (Below.refl _ _) rfl
          · intro z v hz hag hdep
            refine .inl ⟨rfl, fun K hK => ?_⟩
            have d37 : z.tmps.getD 37 undef = .pointer (some ⟨rb, 1, none⟩) := hdep { on := 2, ground := .data } (by simp) rfl _ _ rfl rfl
            have e37 := d37
            rw [Array.getD_eq_getD_getElem?] at e37
            have l0 := (hz.cell (p := ⟨rb, 1, none⟩) HGbl.out).trans HGb.out.c1
            clear hz
            clear hdep hag 
            go_simp
            exact hK _ _ (Below.refl _ _) rfl
          · intro z v hz hag hdep
            refine .inl ⟨rfl, fun K hK => ?_⟩
            have d3 : z.tmps.getD 3 undef = .int .i64 (o : Int) := hag.2.2 3 (by kernel_rfl)
            have e3 := d3
            rw [Array.getD_eq_getD_getElem?] at e3
            clear hdep hag 
            go_simp
            exact hK _ _ (Below.refl _ _) rfl
          · intro z v hz hag hdep
            refine .inl ⟨rfl, fun K hK => ?_⟩
            have d11 : z.tmps.getD 11 undef = .int .i64 (j : Int) := hag.2.2 11 (by kernel_rfl)
            have e11 := d11
            rw [Array.getD_eq_getD_getElem?] at e11
            clear hdep hag 
            go_simp
            exact hK _ _ (Below.refl _ _) rfl
          · intro z v hz hag hdep
            refine .inl ⟨rfl, fun K hK => ?_⟩
            have d39 : z.tmps.getD 39 undef = .int .i64 (o : Int) := hdep { on := 4, ground := .data } (by simp) rfl _ _ rfl rfl
            have e39 := d39
            rw [Array.getD_eq_getD_getElem?] at e39
            have d40 : z.tmps.getD 40 undef = .int .i64 (j : Int) := hdep { on := 5, ground := .data } (by simp) rfl _ _ rfl rfl
            have e40 := d40
            rw [Array.getD_eq_getD_getElem?] at e40
            have hws := HWr.out
            clear hz
            clear hdep hag 
            go_simp
            exact hK _ _ (Below.refl _ _) rfl
          · intro z v hz hag hdep
            refine .inl ⟨rfl, fun K hK => ?_⟩
            have d38 : z.tmps.getD 38 undef = .slice (some ⟨bq, off, none⟩) n c := hdep { on := 3, ground := .data } (by simp) rfl _ _ rfl rfl
            have e38 := d38
            rw [Array.getD_eq_getD_getElem?] at e38
            have d41 : z.tmps.getD 41 undef = .int .i64 (s : Int) := hdep { on := 6, ground := .data } (by simp) rfl _ _ rfl rfl
            have e41 := d41
            rw [Array.getD_eq_getD_getElem?] at e41
            have hsn := HSn.out
            clear hz
            clear hdep hag 
            go_simp
            exact hK _ _ (Below.refl _ _) rfl
          · intro z v hz hag hdep
            refine .inl ⟨rfl, fun K hK => ?_⟩
            have d42 : z.tmps.getD 42 undef = .pointer (some ⟨bq, off + s * 2, none⟩) := hdep { on := 7, ground := .data } (by simp) rfl _ _ rfl rfl
            have e42 := d42
            rw [Array.getD_eq_getD_getElem?] at e42
            have l0 := (hz.cell (p := ⟨bq, off + s * 2, none⟩) HBq.out).trans HQ0.out
            have l1 := (hz.cell (p := ⟨bq, off + s * 2 + 1, none⟩) HBq.out).trans HQ1.out
            clear hz
            clear hdep hag 
            go_simp
            exact hK _ _ (Below.refl _ _) rfl
          · intro z v hz hag hdep
            refine .inl ⟨rfl, fun K hK => ?_⟩
            have d10 : z.tmps.getD 10 undef = .pointer (some ⟨xb, 0, none⟩) := hag.2.2 10 (by kernel_rfl)
            have e10 := d10
            rw [Array.getD_eq_getD_getElem?] at e10
            clear hdep hag 
            go_simp
            exact hK _ _ (Below.refl _ _) rfl
          · intro z v hz hag hdep
            refine .inl ⟨rfl, fun K hK => ?_⟩
            have d44 : z.tmps.getD 44 undef = .pointer (some ⟨xb, 0, none⟩) := hdep { on := 9, ground := .data } (by simp) rfl _ _ rfl rfl
            have e44 := d44
            rw [Array.getD_eq_getD_getElem?] at e44
            have l0 := (hz.cell (p := ⟨xb, 0, none⟩) HXl.out).trans HX.out.c0
            clear hz
            clear hdep hag 
            go_simp
            exact hK _ _ (Below.refl _ _) rfl
          · intro z v hz hag hdep
            refine .inl ⟨rfl, fun K hK => ?_⟩
            have d43 : z.tmps.getD 43 undef = .agg #[.slice x9 m9 c9, .bool b9] := hdep { on := 8, ground := .data } (by simp) rfl _ _ rfl rfl
            have e43 := d43
            rw [Array.getD_eq_getD_getElem?] at e43
            have d45 : z.tmps.getD 45 undef = .int .i64 (W : Int) := hdep { on := 10, ground := .data } (by simp) rfl _ _ rfl rfl
            have e45 := d45
            rw [Array.getD_eq_getD_getElem?] at e45
            have HC := Lib.hid (refResize_any x9 m9 c9 b9 rl (W : Int) v (HCe.out.belowAll hz) HNil.out HFit.out HMx.out (by have := HM9.out; omega))
            have HZs := Lib.hid hz.size
            clear hdep hag hz
            go_simp
            refine HC.out.mono ?_
            rintro e w' ⟨a', c', rfl, k1, k2, k3, k4, k5, k6⟩
            rw [HRr.out] at k1 k3 k6 ⊢
            exact hK _ _ k5 ⟨a', _, c', _, rfl, ⟨a', c', rfl, k1, k2, k3, k4⟩, k6.imp id (fun h b off e => Nat.le_trans (Nat.le_trans HCb.out HZs.out) (h b off e))⟩
          · intro z v hz hag hdep
            refine .inl ⟨rfl, fun K hK => ?_⟩
            have d46' : RsyOk xb rb W wr.heap.size o j s vv bq off n c x9 m9 c9 b9 r2 11 (z.tmps.getD 46 undef) v := hdep { on := 11, ground := .data } (by simp) rfl _ _ rfl rfl
            simp only [RsyOk] at d46'
            obtain ⟨x3, m3, y3, b3, d46, hO3, hO4⟩ := d46'
            have e46 := d46
            rw [Array.getD_eq_getD_getElem?] at e46
            have HO3 := Lib.hid hO3
            have HO4 := Lib.hid hO4
            clear hdep hag hz hO3 hO4
            go_simp
            exact hK _ _ ((Below.refl _ _).alloc (Nat.le_refl _) _) ⟨v.heap.size, x3, m3, y3, b3, rfl, RoB.new _ _ _ _, HO3.out.belowAll ((Below.refl _ _).alloc (Nat.le_refl _) _), HO4.out⟩

        case hdone =>
          intro z v hz hag hok hno
          clear hno
          have d36 : z.tmps.getD 36 undef = vv := hok 1 _ 36 (by decide) rfl rfl
          obtain ⟨p, x3, m3, y3, b3, d47, hRo, hO3, hO4⟩ : ∃ p x3 m3 y3 b3, z.tmps.getD 47 undef = .slice (some ⟨p, 0, none⟩) 1 1 ∧ RoB 38 p (.slice x3 m3 y3) b3 v ∧ RowV .i64 (Rv.val ⟨x3, m3, y3, b3⟩) r2 v ∧ ((x3 = x9 ∧ m3 = m9) ∨ ∀ b off, x3 = some ⟨b, off, none⟩ → wr.heap.size ≤ b) := hok 12 _ 47 (by decide) rfl rfl
          obtain ⟨uu, hu, hzz⟩ := Go.Proofs.YtkggmcnocpgnbaaDoor.R.agree_frame [35, 36, 37, 38, 39, 40, 41, 42, 43, 44, 45, 46, 47, 48, 49] rfl hag
          have e36 := (hu 36).trans d36
          have e47 := (hu 47).trans d47
          subst hzz
          have HZ := Lib.hid hz
          clear hz
          simp only [List.foldl_cons, List.foldl_nil]
          rw [e36, e47]
          clear e36 d36 e47 d47 hu hag hok
          try dsimp only [Exit.then]
          try dsimp only [List.drop]
          simp only [List.setIfInBounds_toArray, List.set_cons_succ, List.set_cons_zero]
          generalize uu 35 = u35', uu 37 = u37', uu 38 = u38', uu 39 = u39', uu 40 = u40', uu 41 = u41', uu 42 = u42', uu 43 = u43', uu 44 = u44', uu 45 = u45', uu 46 = u46', uu 48 = u48', uu 49 = u49'
          clear uu
          have HRo := Lib.hid hRo
          have hap : Apart vv ⟨x3, m3, y3, b3⟩ := fun hn b off e e' => by
            have h1 := HGa.out.own b e'
            rcases hO4 with ⟨h4, h5⟩ | h4
            · subst h4 h5
              have h6 := HOld.out hn b off e
              have := h1.1
              have := HBa.out
              omega
            · have h2 := h4 b off e
              have := h1.2.1
              omega
          have hoff : Off (rb :: (rb + 1) :: xb :: L) ⟨x3, m3, y3, b3⟩ := fun hn b off e hb => by
            rcases hO4 with ⟨h4, h5⟩ | h4
            · subst h4 h5
              have h6 := HOld.out hn b off e
              have h7 := HOff9.out hn b off e
              have := HXb.out
              have := HRb.out
              rcases List.mem_cons.1 hb with rfl | hb
              · omega
              rcases List.mem_cons.1 hb with rfl | hb
              · omega
              rcases List.mem_cons.1 hb with rfl | hb
              · omega
              · exact h7 hb
            · have h2 := h4 b off e
              have := HLr.out b hb
              omega
          have HRv := Lib.hid hO3
          have HGz := Lib.hid (HGa.out.belowAll HZ.out)
          have HAp := Lib.hid hap
          have HOf := Lib.hid hoff
          have HZs : Hid (base ≤ v.heap.size) := Lib.hid (Nat.le_trans HRbw.out HZ.out.size)
          clear hRo hO3 hO4 hap hoff
          go_wp2_with (refine wpList_append_row refRowsT rfl _ _ rfl rfl (rb :: (rb + 1) :: xb :: L) base vv rs p ⟨x3, m3, y3, b3⟩ r2 rfl rfl HGz.out HRo.out HRv.out HOf.out HAp.out HRsl.out HZs.out ?_)
          intro v' w5 hG5 hg5 hb5
          have hx5 : GrB xb W vv w5 := by
            obtain ⟨us0, ho0, -⟩ := HGz.out.ex
            exact (HX.out.belowAll HZ.out).grown ho0 (by decide) hg5
          have HGb5 := Lib.hid (show GrB _ _ _ w5 from by obtain ⟨us0, ho0, -⟩ := HGz.out.ex; exact (HGb.out.belowAll HZ.out).grown ho0 (by decide) hg5)
          have HG15 := Lib.hid (show GrB _ _ _ w5 from by obtain ⟨us0, ho0, -⟩ := HGz.out.ex; exact (HG1.out.belowAll HZ.out).grown ho0 (by decide) hg5)
          have hbw5 : Below rb wr w5 := (HZ.out.mono (by have := HRbw.out; have := HBa.out; omega)).grown hg5 (by have := HZs.out; have := HBa.out; omega) (fun q hq => by have := (HGz.out.own q hq).1; have := HBa.out; omega)
          have f1 := hx5.fr 1
          have c1 := hx5.c1
          obtain ⟨a5, c5, rfl, -, -⟩ := hG5.shape
          have HG5 := Lib.hid hG5
          have HX5 := Lib.hid hx5
          have HBw5 := Lib.hid hbw5
          clear hG5 hg5 hb5 hx5 hbw5
          go_wp2_with fail
          have hkb : ∀ b, b ≠ xb → ((w5.setCell ⟨xb, 1, none⟩ (.slice a5 (rs ++ [r2]).length c5))).heap[b]? = w5.heap[b]? := fun b hb => Below.heap_setCell _ _ _ b (fun e => hb e)
          have hN := NwI.store (rb := rb) (w := w) HX5.out HG5.out (HBw.out.trans HBw5.out) (by have := HXb.out; omega) (Nat.le_trans HRbw.out HBw5.out.size) HLb.out (by simp)
          have HN : Hid (NwI (rb :: (rb + 1) :: xb :: L) rb base xb W w (szR x W o (j + 1)) (w5.setCell ⟨xb, 1, none⟩ (.slice a5 (rs.length + 1) c5)) ∧ GrB (rb + 1) 0 (.slice none 0 0) (w5.setCell ⟨xb, 1, none⟩ (.slice a5 (rs.length + 1) c5)) ∧ GrB rb x.W (.slice (some ⟨bq, off, none⟩) n c) (w5.setCell ⟨xb, 1, none⟩ (.slice a5 (rs.length + 1) c5))) := Lib.hid (by
            rw [HStep.out]
            have h := And.intro hN (And.intro (HG15.out.kept (hkb _ (by have := HXb.out; omega))) (HGb5.out.kept (hkb _ (by have := HXb.out; omega))))
            rw [List.length_append, List.length_singleton] at h
            exact h)
          clear hN hkb
          go_wp2_with fail
          go_roundw
          case rel => exact ⟨j + 1, by go_num, by omega, HN⟩
          case measure => simp [intOf]; omega
      · have hd2 : decide (s < n) = false := decide_eq_false hsn
        have HStep : Hid (szR x W o (j + 1) = rs ++ [blankR W 0]) := Lib.hid (by rw [← HRs.out]; exact szR_blank (by rw [hs, ← HNl.out]; omega) HO.out)
        go_upto_region 8 with (go_at_call 64; refine (HS2.out _).mono ?_; rintro e w' ⟨rfl, rfl⟩)
        refine Go.Proofs.YtkggmcnocpgnbaaDoor.R.wp_region_tailT 6 (by kernel_rfl) (fun u => Below wr.heap.size wr u) (fun u v => Below u.heap.size u v) (RszOk xb W wr.heap.size vv) (by rfl) (by kernel_rfl) (by decide) (by kernel_rfl) (by kernel_rfl) (by kernel_rfl) ?hC ?hOk ?hop ?hdone ((Below.refl _ _).drew)
        case hC => exact fun u v h1 h2 => h1.trans (h2.mono h1.size)
        case hOk =>
          intro i u w1 w2 h hr
          unfold RszOk at h ⊢
          split <;> first | exact True.intro | exact h | (obtain ⟨x, y, e, h1⟩ := h; exact ⟨x, y, e, h1.belowAll hr⟩) | (obtain ⟨p, x, y, e, h0, h1⟩ := h; exact ⟨p, x, y, e, h0.belowAll hr, h1.belowAll hr⟩) | (obtain ⟨x, m, y, b, e, h1, h2⟩ := h; exact ⟨x, m, y, b, e, h1.belowAll hr, h2⟩) | (obtain ⟨p, x, m, y, b, e, h0, h1, h2⟩ := h; exact ⟨p, x, m, y, b, e, h0.belowAll hr, h1.belowAll hr, h2⟩)
        case hop =>
          refine ⟨?_, ?_, ?_, ?_, ?_, ?_, trivial⟩
          · intro z v hz hag hdep
            refine .inl ⟨rfl, fun K hK => ?_⟩
            have d10 : z.tmps.getD 10 undef = .pointer (some ⟨xb, 0, none⟩) := hag.2.2 10 (by kernel_rfl)
            have e10 := d10
            rw [Array.getD_eq_getD_getElem?] at e10
            clear hdep hag 
            go_simp
            exact hK _ _ (Below.refl _ _) rfl
          · intro z v hz hag hdep
            refine .inl ⟨rfl, fun K hK => ?_⟩
            have d50 : z.tmps.getD 50 undef = .pointer (some ⟨xb, 1, none⟩) := hdep { on := 0, ground := .data } (by simp) rfl _ _ rfl rfl
            have e50 := d50
            rw [Array.getD_eq_getD_getElem?] at e50
            have l0 := (hz.cell (p := ⟨xb, 1, none⟩) HXl.out).trans HX.out.c1
            clear hz
            clear hdep hag 
            go_simp
            exact hK _ _ (Below.refl _ _) rfl
          · intro z v hz hag hdep
            refine .inl ⟨rfl, fun K hK => ?_⟩
            have d10 : z.tmps.getD 10 undef = .pointer (some ⟨xb, 0, none⟩) := hag.2.2 10 (by kernel_rfl)
            have e10 := d10
            rw [Array.getD_eq_getD_getElem?] at e10
            clear hdep hag 
            go_simp
            exact hK _ _ (Below.refl _ _) rfl
          · intro z v hz hag hdep
            refine .inl ⟨rfl, fun K hK => ?_⟩
            have d52 : z.tmps.getD 52 undef = .pointer (some ⟨xb, 0, none⟩) := hdep { on := 2, ground := .data } (by simp) rfl _ _ rfl rfl
            have e52 := d52
            rw [Array.getD_eq_getD_getElem?] at e52
            have l0 := (hz.cell (p := ⟨xb, 0, none⟩) HXl.out).trans HX.out.c0
            clear hz
            clear hdep hag 
            go_simp
            exact hK _ _ (Below.refl _ _) rfl
          · intro z v hz hag hdep
            refine .inl ⟨rfl, fun K hK => ?_⟩
            have d53 : z.tmps.getD 53 undef = .int .i64 (W : Int) := hdep { on := 3, ground := .data } (by simp) rfl _ _ rfl rfl
            have e53 := d53
            rw [Array.getD_eq_getD_getElem?] at e53
            have HC := Lib.hid (refBlank_any (W : Int) 0 v)
            have HZs := Lib.hid hz.size
            clear hdep hag hz
            go_simp
            refine HC.out.mono ?_
            rintro e w' ⟨v', rfl, h1, h2⟩
            rw [HNW.out] at h1
            obtain ⟨x3, y3, rfl, -⟩ := h1.shape
            rw [blanks_length] at h1 ⊢
            exact hK _ _ h2 ⟨x3, y3, rfl, h1.weaken (Nat.le_trans HCb.out HZs.out)⟩
          · intro z v hz hag hdep
            refine .inl ⟨rfl, fun K hK => ?_⟩
            have d54' : RszOk xb W wr.heap.size vv 4 (z.tmps.getD 54 undef) v := hdep { on := 4, ground := .data } (by simp) rfl _ _ rfl rfl
            simp only [RszOk] at d54'
            obtain ⟨x3, y3, d54, hO3⟩ := d54'
            have e54 := d54
            rw [Array.getD_eq_getD_getElem?] at e54
            have HO3 := Lib.hid hO3
            clear hdep hag hz hO3
            go_simp
            exact hK _ _ ((Below.refl _ _).alloc (Nat.le_refl _) _) ⟨v.heap.size, x3, y3, rfl, RoB.new _ _ _ _, HO3.out.belowAll ((Below.refl _ _).alloc (Nat.le_refl _) _)⟩

        case hdone =>
          intro z v hz hag hok hno
          clear hno
          have d51 : z.tmps.getD 51 undef = vv := hok 1 _ 51 (by decide) rfl rfl
          obtain ⟨p, x3, y3, d55, hRo, hO3⟩ : ∃ p x3 y3, z.tmps.getD 55 undef = .slice (some ⟨p, 0, none⟩) 1 1 ∧ RoB 38 p (.slice x3 W y3) false v ∧ OwnC .i64 107 wr.heap.size (.slice x3 W y3) (blanks W 0) v := hok 5 _ 55 (by decide) rfl rfl
          obtain ⟨uu, hu, hzz⟩ := Go.Proofs.YtkggmcnocpgnbaaDoor.R.agree_frame [50, 51, 52, 53, 54, 55, 56, 57] rfl hag
          have e51 := (hu 51).trans d51
          have e55 := (hu 55).trans d55
          subst hzz
          have HZ := Lib.hid hz
          clear hz
          simp only [List.foldl_cons, List.foldl_nil]
          rw [e51, e55]
          clear e51 d51 e55 d55 hu hag hok
          try dsimp only [Exit.then]
          try dsimp only [List.drop]
          simp only [List.setIfInBounds_toArray, List.set_cons_succ, List.set_cons_zero]
          generalize uu 50 = u50', uu 52 = u52', uu 53 = u53', uu 54 = u54', uu 56 = u56', uu 57 = u57'
          clear uu
          have HRo := Lib.hid hRo
          have HO3 := Lib.hid hO3
          have hrv : RowV .i64 (Rv.val ⟨x3, W, y3, false⟩) (blankR W 0) v := by
            have h := hO3.rowVk (r := blankR W 0)
            exact h
          have hfresh : ∀ b off, (⟨x3, W, y3, false⟩ : Rv).a = some ⟨b, off, none⟩ → wr.heap.size ≤ b := hO3.from_
          have hgz := HGa.out.belowAll HZ.out
          have hap : Apart vv ⟨x3, W, y3, false⟩ := fun _ b off e e' => by
            have h1 := (HGa.out.own b e').2.1
            have h2 := hfresh b off e
            omega
          have hoff : Off (rb :: (rb + 1) :: xb :: L) ⟨x3, W, y3, false⟩ := Off.fresh hfresh HLr.out
          have HRv := Lib.hid hrv
          have HGz := Lib.hid hgz
          have HAp := Lib.hid hap
          have HOf := Lib.hid hoff
          have HZs : Hid (base ≤ v.heap.size) := Lib.hid (Nat.le_trans HRbw.out HZ.out.size)
          clear hRo hO3 hrv hgz hap hoff hfresh
          go_wp2_with (refine wpList_append_row refRowsT rfl _ _ rfl rfl (rb :: (rb + 1) :: xb :: L) base vv rs p ⟨x3, W, y3, false⟩ (blankR W 0) rfl rfl HGz.out HRo.out HRv.out HOf.out HAp.out HRsl.out HZs.out ?_)
          intro v' w5 hG5 hg5 hb5
          have hx5 : GrB xb W vv w5 := by
            obtain ⟨us0, ho0, -⟩ := HGz.out.ex
            exact (HX.out.belowAll HZ.out).grown ho0 (by decide) hg5
          have HGb5 := Lib.hid (show GrB _ _ _ w5 from by obtain ⟨us0, ho0, -⟩ := HGz.out.ex; exact (HGb.out.belowAll HZ.out).grown ho0 (by decide) hg5)
          have HG15 := Lib.hid (show GrB _ _ _ w5 from by obtain ⟨us0, ho0, -⟩ := HGz.out.ex; exact (HG1.out.belowAll HZ.out).grown ho0 (by decide) hg5)
          have hbw5 : Below rb wr w5 := (HZ.out.mono (by have := HRbw.out; have := HBa.out; omega)).grown hg5 (by have := HZs.out; have := HBa.out; omega) (fun q hq => by have := (HGz.out.own q hq).1; have := HBa.out; omega)
          have f1 := hx5.fr 1
          have c1 := hx5.c1
          obtain ⟨a5, c5, rfl, -, -⟩ := hG5.shape
          have HG5 := Lib.hid hG5
          have HX5 := Lib.hid hx5
          have HBw5 := Lib.hid hbw5
          clear hG5 hg5 hb5 hx5 hbw5
          go_wp2_with fail
          have hkb : ∀ b, b ≠ xb → ((w5.setCell ⟨xb, 1, none⟩ (.slice a5 (rs ++ [blankR W 0]).length c5))).heap[b]? = w5.heap[b]? := fun b hb => Below.heap_setCell _ _ _ b (fun e => hb e)
          have hN := NwI.store (rb := rb) (w := w) HX5.out HG5.out (HBw.out.trans HBw5.out) (by have := HXb.out; omega) (Nat.le_trans HRbw.out HBw5.out.size) HLb.out (by simp)
          have HN : Hid (NwI (rb :: (rb + 1) :: xb :: L) rb base xb W w (szR x W o (j + 1)) (w5.setCell ⟨xb, 1, none⟩ (.slice a5 (rs.length + 1) c5)) ∧ GrB (rb + 1) 0 (.slice none 0 0) (w5.setCell ⟨xb, 1, none⟩ (.slice a5 (rs.length + 1) c5)) ∧ GrB rb x.W (.slice (some ⟨bq, off, none⟩) n c) (w5.setCell ⟨xb, 1, none⟩ (.slice a5 (rs.length + 1) c5))) := Lib.hid (by
            rw [HStep.out]
            have h := And.intro hN (And.intro (HG15.out.kept (hkb _ (by have := HXb.out; omega))) (HGb5.out.kept (hkb _ (by have := HXb.out; omega))))
            rw [List.length_append, List.length_singleton] at h
            exact h)
          clear hN hkb
          go_wp2_with fail
          go_roundw
          case rel => exact ⟨j + 1, by go_num, by omega, HN⟩
          case measure => simp [intOf]; omega
    · obtain rfl : j = H := by omega
      have hd : decide (j < j) = false := by simp
      have hd' : decide ((j : Int) < (j : Int)) = false := by simp
      obtain ⟨⟨⟨vv, hxx, hGa⟩, hb, hrbw⟩, hg1, hgb⟩ := HF.out
      obtain ⟨av, cv, rfl, -, -⟩ := hGa.shape
      rw [szR_length HO.out] at hxx hGa
      have e0 := hxx.c0
      have e1 := hxx.c1
      have f0 := hg1.fr 0
      have f1 := hg1.fr 1
      have k0 := hg1.c0
      have k1 := hg1.c1
      have gc0 := hgb.c0
      have gc1 := hgb.c1
      have HGa := Lib.hid hGa
      have HGb := Lib.hid hgb
      have HG1 := Lib.hid hg1
      have HBw := Lib.hid hb
      clear hxx hGa hb hgb hg1 HF
      have hnr : rb ≠ xb := by have := HXb.out; omega
      go_upto_region 9 with (go_at_call 64; refine (HS2.out _).mono ?_; rintro e w' ⟨rfl, rfl⟩)
      go_region
      dsimp only [Exit.then]
      rename_i K hK
      refine hK _ _ ?_
      go_wp2
      refine bodyPost_ret (v := .tuple #[.agg #[.int .i64 (W : Int), .slice av j cv], .slice (some ⟨bq, off, none⟩) o c]) (by rw [results_cell_tmp (fn := Tryd.f69) rfl]; go_simp <;> rfl) rfl ?_
      rw [← HP.out]
      have hk := ((KeepB.setCell (w := wr) (q := rb + 1) (o := 0) (.int .i64 (W : Int))).trans (KeepB.setCell (q := rb + 1) (o := 1) (.slice av j cv)))
      have hk2 : KeepB [rb + 1] wr ((wr.setCell ⟨rb + 1, 0, none⟩ (.int .i64 (W : Int))).setCell ⟨rb + 1, 1, none⟩ (.slice av j cv)).drew := hk.trans ⟨rfl, rfl, rfl, Nat.le_refl _, fun _ _ _ => rfl⟩
      have hrl := HGa.out.rowsL (L' := (rb + 1) :: L) (fun p hp => by
        rcases List.mem_cons.1 hp with rfl | hp
        · simp
        · simp [hp]) (fun p hp => HLb.out p (by
        rcases List.mem_cons.1 hp with rfl | hp
        · simp
        · simp [hp]))
      have hbw : Below w.heap.size w wr := by rw [HRb.out]; exact HBw.out
      refine ⟨_, _, _, _, rfl, ?_, ?_, ?_⟩
      · rw [HS1e.out]
        exact ⟨av, j, cv, rfl, (hrl.keptB (hk2.mono (fun i hi => by rw [List.mem_singleton.1 hi]; simp))).sub (fun p hp => List.mem_cons_of_mem _ hp)⟩
      · rw [HS2e.out]
        have h0 := HRl.out.firstN o (by omega)
        have h1 := (h0.cons (q := rb + 1) (by have := HRb.out; omega)).below hbw
        exact (h1.keptB (hk2.mono (fun i hi => by rw [List.mem_singleton.1 hi]; simp))).sub (fun p hp => List.mem_cons_of_mem _ hp)
      · exact hk2.below (fun i hi => by rw [List.mem_singleton.1 hi]; have := HRb.out; omega) hbw hbw.size
end Go.Proofs.YtkggmcnocpgnbaaDoor.K
