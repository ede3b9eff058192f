/- The document's cache: Get. -/
import Derived.Test.YtgagkmlkoeceiaaCRfP
namespace Go.Proofs.Ytgagkmlkoeceiaa.C
open Go.RowKit Go.Maps Go.Proofs.Ytgagkmlkoeceiaa.H

def RGetPost (M : List Nat) (x : Ca) (i : Int) (w : World) (r : Ending) (w' : World) : Prop := ∃ X' a c, r = .returned (.tuple #[X', .slice a ((findC x.L i).getD []).length c, .bool (findC x.L i).isSome]) ∧ PairsIn .i64 a ((findC x.L i).getD []).length c ((findC x.L i).getD []) w' ∧ RefC M X' (getC x i) w' ∧ Below w.heap.size w w' ∧ ∀ p o, a = some ⟨p, o, none⟩ → p ∉ M ∧ p < w'.heap.size
set_option maxRecDepth 100000 in
set_option maxHeartbeats 8000000 in
theorem rget_any (M : List Nat) (X : Value) (x : Ca) (i : Int) (w : World) (h : RefC M X x w) (hM : ∀ p ∈ M, p < w.heap.size) (hl : x.L.length ≤ 100000) :
    Calls Try.prog 17 #[X, .int .i64 i] w (RGetPost M x i w) := by
  obtain ⟨P, hP⟩ : ∃ P, RGetPost M x i w = P := ⟨_, rfl⟩
  rw [hP]
  have HP := Lib.hid hP
  have hcopy := h
  obtain ⟨a, n, c, es0, rfl, -⟩ := hcopy
  obtain ⟨mo, hm⟩ : ∃ mo, x.most = mo := ⟨_, rfl⟩
  rw [hm] at h ⊢
  obtain ⟨p, hp⟩ : ∃ p, p = w.heap.size := ⟨_, rfl⟩
  obtain ⟨w1, hw1⟩ : ∃ w1, w1 = w.alloc (.cells #[.int .i64 (mo : Int), .slice a n c] 28) := ⟨_, rfl⟩
  obtain ⟨w2, hw2⟩ : ∃ w2, w2 = w1.alloc (.cells #[.int .i64 0, .slice none 0 0] 28) := ⟨_, rfl⟩
  have hs1 : w1.heap.size = p + 1 := by rw [hw1, World.size_alloc, hp]
  have hs2 : w2.heap.size = p + 2 := by rw [hw2, World.size_alloc, hs1]
  have ha1 : w1.heap[p]? = some (.cells #[.int .i64 (mo : Int), .slice a n c] 28 (0, 0)) := by rw [hw1, hp]; exact heap_alloc_new w _
  obtain ⟨r, hr0⟩ : ∃ r, r = p + 1 := ⟨_, rfl⟩
  have hr : w2.heap[r]? = some (.cells #[.int .i64 0, .slice none 0 0] 28 (0, 0)) := by rw [hw2, hr0, ← hs1]; exact heap_alloc_new w1 _
  have b1 : Below w.heap.size w w1 := by rw [hw1]; exact alloc_below _ _
  have b2 : Below w1.heap.size w1 w2 := by rw [hw2]; exact alloc_below _ _
  have hbB : Below w.heap.size w w2 := b1.trans (b2.mono b1.size)
  have hap : w2.heap[p]? = some (.cells #[.int .i64 (mo : Int), .slice a n c] 28 (0, 0)) := (b2.block p (by omega)).trans ha1
  have HR2 : Hid (RefC (r :: M) (.agg #[.int .i64 (mo : Int), .slice a n c]) x w2) := Lib.hid (h.apart hbB (by omega))
  have HW : Hid ((w.alloc (.cells #[.int .i64 (mo : Int), .slice a n c] 28)).alloc (.cells #[.int .i64 0, .slice none 0 0] 28) = w2) := Lib.hid (by rw [hw2, hw1])
  have HPp := Lib.hid hp
  have HSz : Hid (w.heap.size + 1 = r) := Lib.hid (by omega)
  have HSr : Hid (w.heap.size ≤ r ∧ r < w2.heap.size ∧ (∀ q ∈ r :: M, q < w2.heap.size) ∧ x.most = mo) := Lib.hid ⟨by omega, by omega, fun q hq => by
    rcases List.mem_cons.1 hq with rfl | hq
    · omega
    · have := hM q hq; omega, hm⟩
  have HX2 := Lib.hid hr
  have HXp : Hid (p < w2.heap.size ∧ w2.cell? ⟨p, 0, none⟩ = some (.int .i64 (mo : Int)) ∧ w2.cell? ⟨p, 1, none⟩ = some (.slice a n c)) := Lib.hid ⟨by omega, by rw [cell_block hap]; rfl, by rw [cell_block hap]; rfl⟩
  have HB2 := Lib.hid hbB
  have HFi := Lib.hid (rfind_any (r :: M) _ x i w2 HR2.out)
  have hzC := zeroRC
  clear hP h hm hp hw1 hw2 hs1 hs2 ha1 hr b1 b2 hbB hap hM hr0
  go_enter Try.func17, Try.ntmps17
  go_upto_region 1 with fail
  rw [HW.out, HSz.out, ← HPp.out]
  clear HW HPp HSz
  have c0 := HXp.out.2.1
  have c1 := HXp.out.2.2
  go_wp2_with fail
  refine HFi.out.mono ?_
  rintro e w3 ⟨fa, fc, rfl, hpf, hpp, hb3⟩
  have c0 := (hb3.cell (p := ⟨p, 0, none⟩) HXp.out.1).trans HXp.out.2.1
  have c1 := (hb3.cell (p := ⟨p, 1, none⟩) HXp.out.1).trans HXp.out.2.2
  try simp only at c0 c1
  have hr3 := (hb3.block r HSr.out.2.1).trans HX2.out
  have HX3 := Lib.hid hr3
  have HB3 := Lib.hid hb3
  have HR3 := Lib.hid (HR2.out.below hb3)
  have HPf : Hid (PairsIn .i64 fa ((findC x.L i).getD []).length fc ((findC x.L i).getD []) w3 ∧ ∀ p o, fa = some ⟨p, o, none⟩ → p ∉ r :: M ∧ p < w3.heap.size) := Lib.hid ⟨hpf, fun p o e => ⟨(hpp p o e).1, Nat.lt_of_lt_of_le (hpp p o e).2 hb3.size⟩⟩
  clear hpf hpp hb3 hr3 HFi
  cases hf : findC x.L i with
  | none =>
    rw [hf] at HPf
    simp only [Option.getD_none, Option.isSome_none] at HPf ⊢
    have f0 : w3.frozen? ⟨r, 0, none⟩ = false := frozen_block HX3.out 0
    have r0 : w3.cell? ⟨r, 0, none⟩ = some (.int .i64 0) := by rw [cell_block HX3.out]; rfl
    have hz1 : (w3.setCell ⟨r, 0, none⟩ (.int .i64 (mo : Int))).heap[r]? = some (.cells #[.int .i64 (mo : Int), .slice none 0 0] 28 (0, 0)) := by simp [World.setCell, Array.getElem?_modify, HX3.out]
    have f1 : (w3.setCell ⟨r, 0, none⟩ (.int .i64 (mo : Int))).frozen? ⟨r, 1, none⟩ = false := frozen_block hz1 1
    have r1 : (w3.setCell ⟨r, 0, none⟩ (.int .i64 (mo : Int))).cell? ⟨r, 1, none⟩ = some (.slice none 0 0) := by rw [cell_block hz1]; rfl
    obtain ⟨w9, hw9⟩ : ∃ w9, (w3.setCell ⟨r, 0, none⟩ (.int .i64 (mo : Int))).setCell ⟨r, 1, none⟩ (.slice a n c) = w9 := ⟨_, rfl⟩
    have hx9 : w9.heap[r]? = some (.cells #[.int .i64 (mo : Int), .slice a n c] 28 (0, 0)) := by rw [← hw9]; exact rc_stored _ _ HX3.out
    have hend : Hid (P (.returned (.tuple #[.agg #[.int .i64 (mo : Int), .slice a n c], .slice none 0 0, .bool false])) w9) := Lib.hid (by
      rw [← HP.out]
      have e1 : getC x i = x := by unfold getC; rw [hf]
      unfold RGetPost
      rw [e1, hf]
      refine ⟨_, none, 0, rfl, ⟨rfl, Nat.le_refl _, by decide, .inl rfl⟩, ?_, ?_, fun _ _ e => by cases e⟩
      · rw [← hw9]
        exact HR3.out.set2 _ _
      · rw [← hw9]
        exact two_set _ _ (HB2.out.trans (HB3.out.mono HB2.out.size)) HSr.out.1)
    have HW9 := Lib.hid hw9
    have k0 : w9.cell? ⟨r, 0, none⟩ = some (.int .i64 (mo : Int)) := by rw [cell_block hx9]; rfl
    have k1 : w9.cell? ⟨r, 1, none⟩ = some (.slice a n c) := by rw [cell_block hx9]; rfl
    clear hz1 hw9 hx9 hf
    go_wp2_with fail
    rw [HW9.out]
    refine bodyPost_ret (v := .tuple #[.agg #[.int .i64 (mo : Int), .slice a n c], .slice none 0 0, .bool false]) (by rw [results_ctt rfl]; go_simp) rfl ?_
    exact hend.out
  | some g =>
    rw [hf] at HPf
    simp only [Option.getD_some, Option.isSome_some] at HPf ⊢
    obtain ⟨gn, hgn⟩ : ∃ gn, g.length = gn := ⟨_, rfl⟩
    rw [hgn] at HPf ⊢
    have HNw := Lib.hid (rnewest_any (r :: M) _ x i fa gn fc g w3 HR3.out (fun q hq => Nat.lt_of_lt_of_le (HSr.out.2.2.1 q hq) HB3.out.size) HPf.out.1 HPf.out.2 hl)
    have HFf := Lib.hid hf
    have HGn := Lib.hid hgn
    clear hf hgn
    go_wp2_with fail
    refine HNw.out.mono ?_
    rintro e w4 ⟨X', rfl, hrc, hb4⟩
    have hrcc := hrc
    obtain ⟨a3, kn, c3, es, rfl, -⟩ := hrcc
    have hmoe : x.most = mo := HSr.out.2.2.2
    simp only [hmoe] at hrc ⊢
    have hr4 := (hb4.block r (Nat.lt_of_lt_of_le HSr.out.2.1 HB3.out.size)).trans HX3.out
    have f0 : w4.frozen? ⟨r, 0, none⟩ = false := frozen_block hr4 0
    have r0 : w4.cell? ⟨r, 0, none⟩ = some (.int .i64 0) := by rw [cell_block hr4]; rfl
    have hz1 : (w4.setCell ⟨r, 0, none⟩ (.int .i64 (mo : Int))).heap[r]? = some (.cells #[.int .i64 (mo : Int), .slice none 0 0] 28 (0, 0)) := by simp [World.setCell, Array.getElem?_modify, hr4]
    have f1 : (w4.setCell ⟨r, 0, none⟩ (.int .i64 (mo : Int))).frozen? ⟨r, 1, none⟩ = false := frozen_block hz1 1
    have r1 : (w4.setCell ⟨r, 0, none⟩ (.int .i64 (mo : Int))).cell? ⟨r, 1, none⟩ = some (.slice none 0 0) := by rw [cell_block hz1]; rfl
    obtain ⟨w9, hw9⟩ : ∃ w9, (w4.setCell ⟨r, 0, none⟩ (.int .i64 (mo : Int))).setCell ⟨r, 1, none⟩ (.slice a3 kn c3) = w9 := ⟨_, rfl⟩
    have hx9 : w9.heap[r]? = some (.cells #[.int .i64 (mo : Int), .slice a3 kn c3] 28 (0, 0)) := by rw [← hw9]; exact rc_stored _ _ hr4
    have hend : Hid (P (.returned (.tuple #[.agg #[.int .i64 (mo : Int), .slice a3 kn c3], .slice fa gn fc, .bool true])) w9) := Lib.hid (by
      rw [← HP.out]
      have e1 : getC x i = ⟨x.most, dropC x.L i ++ [(i, g)]⟩ := by unfold getC; rw [HFf.out]
      unfold RGetPost
      rw [e1, HFf.out, hmoe]
      simp only [Option.getD_some, Option.isSome_some]
      rw [HGn.out]
      refine ⟨_, fa, fc, rfl, ?_, ?_, ?_, fun p o e => ⟨fun hm => (HPf.out.2 p o e).1 (List.mem_cons_of_mem _ hm), ?_⟩⟩
      · rw [← hw9]
        refine PairsIn.blocks (HPf.out.1.belowAll hb4) (by simp) (fun b off e9 _ => two_other _ _ (fun e8 => (HPf.out.2 b off e9).1 (by rw [e8]; simp)))
      · rw [← hw9]
        exact hrc.set2 _ _
      · rw [← hw9]
        exact two_set _ _ (HB2.out.trans ((HB3.out.trans (hb4.mono HB3.out.size)).mono HB2.out.size)) HSr.out.1
      · have h9 := (HPf.out.2 p o e).2
        have h8 := hb4.size
        rw [← hw9]
        simp
        omega)
    have HW9 := Lib.hid hw9
    have k0 : w9.cell? ⟨r, 0, none⟩ = some (.int .i64 (mo : Int)) := by rw [cell_block hx9]; rfl
    have k1 : w9.cell? ⟨r, 1, none⟩ = some (.slice a3 kn c3) := by rw [cell_block hx9]; rfl
    clear hz1 hw9 hx9 hr4 hb4 hrc hmoe HNw c0 c1
    go_wp2_with fail
    rw [HW9.out]
    refine bodyPost_ret (v := .tuple #[.agg #[.int .i64 (mo : Int), .slice a3 kn c3], .slice fa gn fc, .bool true]) (by rw [results_ctt rfl]; go_simp) rfl ?_
    exact hend.out
end Go.Proofs.Ytgagkmlkoeceiaa.C
