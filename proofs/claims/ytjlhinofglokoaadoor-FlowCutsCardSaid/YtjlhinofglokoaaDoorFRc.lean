/- The contract of the document's own Cut. -/
import Derived.Test.YtjlhinofglokoaaDoorFRcM
import Derived.Test.YtjlhinofglokoaaDoorFCoW
import Derived.Test.YtjlhinofglokoaaDoorRelU
import Derived.Test.YtjlhinofglokoaaDoorRelD
namespace Go.Proofs.YtjlhinofglokoaaDoor.F
open Go.RowKit H
open W (ofS refOf refOf_any ofS_ref ofS_le)

def RcOk (B gb K cb : Nat) (ua : Option Addr) (un uc : Nat) (z0 sty : Int) : Nat → Value → World → Prop
  | 0, u, _ => u = .slice (some ⟨gb, 0, none⟩) (K + 1) cb
  | 1, u, _ => u = .int .i64 (K : Int)
  | 2, u, _ => u = .slice (some ⟨gb, 0, none⟩) (K + 1) cb
  | 3, u, _ => u = .int .i64 (K : Int)
  | 4, u, _ => u = .pointer (some ⟨gb, K, none⟩)
  | 5, u, _ => u = .slice ua un uc
  | 6, u, _ => u = .agg #[.int .i64 z0, .int .i64 sty]
  | 7, u, w => ∃ p, u = .slice (some ⟨p, 0, none⟩) 1 1 ∧ B ≤ p ∧ w.heap[p]? = some (.cells #[.int .i64 z0, .int .i64 sty] 65 (0, 0))
  | 9, u, _ => u = .pointer (some ⟨gb, K, none⟩)
  | _, _, _ => True
def RcSt (wB : World) (rb : Nat) (u1 : Sv) (cur2 : List (Int × Int)) (gb K : Nat) (Fin : World → Prop) : Nat → (Nat → Value) → World → Prop
  | 0, _, w => Below wB.heap.size wB w
  | 1, f, w => ∃ u2 W2, f 48 = sV u2 ∧ Below wB.heap.size wB W2 ∧ GrewQ .i64 65 rb (sV u1) cur2 W2 (sV u2) w
  | _ + 2, _, w => Fin w
theorem pair_in {p : Nat} (g : Int × Int) {T : TypeId} {w : World} (h : w.heap[p]? = some (.cells #[.int .i64 g.1, .int .i64 g.2] T (0, 0))) : PairsIn .i64 (some ⟨p, 0, none⟩) 1 1 [g] w :=
  ⟨rfl, Nat.le_refl _, by decide, .inr ⟨p, 0, rfl, (Array.getElem?_eq_some_iff.1 h).1, fun i u hi => by
    match i, hi with
    | 0, hi => cases hi; exact ⟨by rw [cell_block h]; rfl, by rw [cell_block h]; rfl⟩
    | i + 1, hi => simp at hi⟩⟩
theorem rc_cell {base : Nat} {us : List Sv} {u : Sv} {L : List (List (Int × Int))} {cur cur2 : List (Int × Int)} {W W2 W3 : World} {gb n c K : Nat} {v2 : Value} (h : CutD base (.slice (some ⟨gb, 0, none⟩) n c) us u L cur W) (hb : Below W.heap.size W W2) (hl : gb < W.heap.size) (hc : W.cell? ⟨gb, K, none⟩ = some (.slice u.a u.n u.c))
    (hq : GrewQ .i64 65 base (.slice u.a u.n u.c) cur2 W2 v2 W3) : W3.cell? ⟨gb, K, none⟩ = some (.slice u.a u.n u.c) ∧ W3.frozen? ⟨gb, K, none⟩ = false := by
  have h2 := h.below hb
  obtain ⟨-, hgb1, cs0, hgb2⟩ := own_ln_ty h2.own gb rfl
  have hk : W3.heap[gb]? = W2.heap[gb]? := hq.grown.block gb hgb1 (fun e => by
    obtain ⟨-, -, cs, h6⟩ := h2.last.own gb e.symm
    rw [hgb2] at h6
    have := (Obj.cells.inj (Option.some.inj h6)).2.1
    exact absurd this (by decide))
  refine ⟨(World.cell?_of_block (a := ⟨gb, K, none⟩) hk).trans ((hb.cell (p := ⟨gb, K, none⟩) hl).trans hc), frozen_block (hk.trans hgb2) K⟩
def RcPost (L : List (List (Int × Int))) (w : World) (e : Ending) (w' : World) : Prop := ∃ v us, e = .returned v ∧ OwnS 25 w.heap.size v us w' ∧ SvsQ .i64 65 w.heap.size us L w' ∧ Below w.heap.size w w'
set_option maxRecDepth 100000 in
set_option maxHeartbeats 8000000 in
theorem refCut_any (a : Option Addr) (n c : Nat) (l : List (Int × Int)) (W : Int) (w : World) (h : PairsIn .i64 a n c l w) (hr : RngG l) (hn : n ≤ 90) :
    Calls Tryd.prog 15 #[.slice a n c, .int .i64 W] w (RcPost (cutR (clampW W) l) w) := by
  obtain ⟨P, hP⟩ : ∃ P, RcPost (cutR (clampW W) l) w = P := ⟨_, rfl⟩
  rw [hP]
  have HP := Lib.hid hP
  have HL := Lib.hid h.len
  have H1 := Lib.hid h
  have HR := Lib.hid hr
  obtain ⟨rb, hrb⟩ : ∃ rb, w.heap.size = rb := ⟨_, rfl⟩
  have HRb := Lib.hid hrb
  obtain ⟨C, hC⟩ : ∃ C, clampW W = C := ⟨_, rfl⟩
  have hcl := clampW_le W
  have hcw := clamp_go W
  rw [hC] at hcl hcw
  have HC := Lib.hid hC
  have hc2 := hcl.1
  have hc3 := hcl.2
  have HFit : Hid (∀ r ∈ cutR C l, (sumG r : Int) ≤ C) := Lib.hid (cutR_fits hc2 l)
  obtain ⟨w1, hw1⟩ : ∃ w1, (w.alloc (.cells #[] 65)).alloc (.cells #[.slice (some ⟨rb, 0, none⟩) 0 0] 25) = w1 := ⟨_, rfl⟩
  have hb1 : Below rb w w1 := by rw [← hw1, ← hrb]; exact ((Below.refl _ _).alloc (Nat.le_refl _) _).alloc (by simp) _
  have hs1 : w1.heap.size = rb + 2 := by rw [← hw1, ← hrb]; simp
  have hn0 : w1.heap[rb]? = some (Obj.cells #[] 65 (0, 0)) := by
    rw [← hw1, ← hrb]
    exact (Below.heap_alloc _ _ _ (by simp)).trans (World.alloc_heap_new w _)
  have hn1 : w1.heap[rb + 1]? = some (Obj.cells #[.slice (some ⟨rb, 0, none⟩) 0 0] 25 (0, 0)) := by
    have h := World.alloc_heap_new (w.alloc (.cells #[] 65)) (.cells #[.slice (some ⟨rb, 0, none⟩) 0 0] 25)
    rw [World.size_alloc, hw1, hrb] at h
    exact h
  have HD0 : Hid (CutD rb (.slice (some ⟨rb + 1, 0, none⟩) 1 1) [] ⟨some ⟨rb, 0, none⟩, 0, 0⟩ [] [] w1) := Lib.hid ⟨⟨rfl, .inr ⟨rb + 1, 1, _, rfl, by omega, hn1, Nat.le_refl _, by unfold maxLen; omega, rfl, rfl⟩⟩, ⟨rfl, (fun i u l h => by cases h)⟩, .inr ⟨rb, 0, 0, #[], rfl, Nat.le_refl _, hn0, Nat.le_refl _, by unfold maxLen; omega, by simp, fun j u hj => by simp [flatP] at hj⟩, (fun u' hu' => by cases hu'), by omega⟩
  have HB1 := Lib.hid hb1
  have HW1 := Lib.hid hw1
  clear hP h hr hrb hC hcl hb1 hs1 hn0 hn1 hw1
  go_enter Tryd.func15, Tryd.ntmps15
  go_wp2_with fail
  try rw [HRb.out]
  try rw [HW1.out]
  go_loopw [5, 6, 18] (fun v s i wr => ∃ j S m gb cb : Nat, i = .int .i64 (j : Int) ∧ s = .int .i64 (S : Int) ∧ v = .slice (some ⟨gb, 0, none⟩) m cb ∧ j ≤ n ∧ (S : Int) ≤ 2000 ∧ Hid (∃ us u L cur, CutD rb v us u L cur wr ∧ cutR C l = L ++ brk C (l.drop j) cur S ∧ S = sumG cur ∧ L.length ≤ j ∧ cur.length ≤ j ∧ Below rb w wr)) (fun _ _ i _ => n - (intOf i).toNat)
  case atStart => exact ⟨0, 0, 1, rb + 1, 1, rfl, rfl, rfl, Nat.zero_le _, by omega, Lib.hid ⟨[], _, [], [], HD0.out, rfl, rfl, Nat.le_refl _, Nat.le_refl _, HB1.out⟩⟩
  case round =>
    obtain ⟨j, S, m, g0, c0, rfl, rfl, rfl, hj, hS, HF⟩ := hrel
    by_cases hlt : j < n
    · have hd : decide (j < n) = true := decide_eq_true hlt
      have hjI : (j : Int) < n := by omega
      have hjl : j < l.length := by rw [← HL.out]; exact hlt
      obtain ⟨us, u, L, cur, hD, hEq, hSum, hLl, hCl, hBw⟩ := HF.out
      have hbb : Below w.heap.size w wr := by rw [HRb.out]; exact hBw
      obtain ⟨b, off, rfl, hb, hA⟩ := H1.out.at_.resolve_left (by intro e; rw [e] at hjl; simp at hjl)
      have hdr := List.drop_eq_getElem_cons hjl
      have hrg := HR.out l[j] (List.getElem_mem hjl)
      obtain ⟨⟨z0, sty⟩, hg⟩ : ∃ g, l[j] = g := ⟨_, rfl⟩
      have hk := hA j (z0, sty) (by rw [List.getElem?_eq_getElem hjl, hg])
      rw [hg] at hdr hrg
      have k0 := (hbb.cell (p := ⟨b, off + j * 2, none⟩) hb).trans hk.1
      have k1 := (hbb.cell (p := ⟨b, off + j * 2 + 1, none⟩) hb).trans hk.2
      simp only at k0 k1
      rw [hdr, brk_eq] at hEq
      have hof := ofS_le z0
      have href := ofS_ref z0 hrg.1 hrg.2
      obtain ⟨Z, hZ⟩ : ∃ Z, ofS z0 = Z := ⟨_, rfl⟩
      have hone : Z = sumG [(z0, sty)] := by rw [sumG_cons, sumG_nil, ← hZ]; rfl
      simp only at hEq
      rw [hZ] at hEq hof href
      obtain ⟨p8, hp8⟩ : ∃ p8, wr.heap.size = p8 := ⟨_, rfl⟩
      obtain ⟨w4, hw4⟩ : ∃ w4, wr.alloc (.cells #[.int .i64 z0, .int .i64 sty] 65) = w4 := ⟨_, rfl⟩
      have hb4 : Below wr.heap.size wr w4 := by rw [← hw4]; exact (Below.refl _ _).alloc (Nat.le_refl _) _
      have hn4 : w4.heap[p8]? = some (.cells #[.int .i64 z0, .int .i64 sty] 65 (0, 0)) := by rw [← hw4, ← hp8]; exact heap_alloc_new wr _
      have c40 : w4.cell? ⟨p8, 0, none⟩ = some (.int .i64 z0) := by rw [cell_block hn4]; rfl
      have c41 : w4.cell? ⟨p8, 1, none⟩ = some (.int .i64 sty) := by rw [cell_block hn4]; rfl
      have HN4 := Lib.hid hn4
      have HOf := Lib.hid (refOf_any z0 w4)
      rw [← href] at HOf
      have HB4 := Lib.hid hb4
      have HW4 := Lib.hid hw4
      have HP8' := Lib.hid hp8
      have HDD := Lib.hid hD
      have HEq0 := Lib.hid hEq
      have HSum0 := Lib.hid hSum
      have HOne := Lib.hid hone
      have HBw := Lib.hid hBw
      have HLl := Lib.hid hLl
      have HCl0 := Lib.hid hCl
      clear hD hEq hSum hLl hCl hBw hbb hA hjl hdr hrg hg hk hZ href hone hb4 hn4 hw4 hp8 hb HF c41
      go_wp2_with fail
      rw [HP8'.out, HW4.out]
      refine HOf.out.mono ?_
      rintro e w5 ⟨rfl, hb5⟩
      have hb45 : Below wr.heap.size wr w5 := HB4.out.trans (hb5.mono HB4.out.size)
      have HD5 := Lib.hid (HDD.out.below hb45)
      have HB5 : Hid (Below rb w w5) := Lib.hid (HBw.out.trans (hb45.mono HDD.out.sz))
      have HN5 : Hid (w5.heap[p8]? = some (.cells #[.int .i64 z0, .int .i64 sty] 65 (0, 0))) := Lib.hid ((hb5.block p8 (Array.getElem?_eq_some_iff.1 HN4.out).1).trans HN4.out)
      clear hb5 hb45 HOf k0 k1 c40 HDD HN4 HB4
      by_cases hgt : C < ((S + Z : Nat) : Int)
      · have d1 : decide ((S : Int) + (Z : Int) > C) = true := decide_eq_true (by omega)
        have d1' : decide (C < (S : Int) + (Z : Int)) = true := decide_eq_true (by omega)
        have hEq1 := HEq0.out
        rw [if_pos hgt] at hEq1
        obtain ⟨w6, hw6⟩ : ∃ w6, w5.alloc (.cells #[] 65) = w6 := ⟨_, rfl⟩
        obtain ⟨w7, hw7⟩ : ∃ w7, w6.alloc (.cells #[.slice (some ⟨w5.heap.size, 0, none⟩) 0 0] 25) = w7 := ⟨_, rfl⟩
        have hs6 : w6.heap.size = w5.heap.size + 1 := by rw [← hw6]; simp
        have hb57 : Below w5.heap.size w5 w7 := by rw [← hw7, ← hw6]; exact ((Below.refl _ _).alloc (Nat.le_refl _) _).alloc (by simp) _
        have hn6 : w7.heap[w5.heap.size]? = some (Obj.cells #[] 65 (0, 0)) := by
          rw [← hw7, ← hw6]
          exact (Below.heap_alloc _ _ _ (by simp)).trans (World.alloc_heap_new w5 _)
        have hn7 : w7.cell? ⟨w5.heap.size + 1, 0, none⟩ = some (sV ⟨some ⟨w5.heap.size, 0, none⟩, 0, 0⟩) := by
          rw [← hw7, ← hs6, World.cell?_alloc_new]; rfl
        have HW7 : Hid ((w5.alloc (.cells #[] 65)).alloc (.cells #[.slice (some ⟨w5.heap.size, 0, none⟩) 0 0] 25) = w7) := Lib.hid (by rw [hw6, hw7])
        have HB57 := Lib.hid hb57
        have HN6 := Lib.hid hn6
        have HN7 := Lib.hid hn7
        have HUl : Hid ((us ++ [u]).length ≤ 100) := Lib.hid (by rw [List.length_append, HD5.out.rows.1, List.length_singleton]; have := HLl.out; omega)
        have HEq : Hid (cutR C l = (L ++ [cur]) ++ brk C (l.drop (j + 1)) ([] ++ [(z0, sty)]) (0 + Z)) := Lib.hid (by rw [hEq1, Nat.zero_add]; simp)
        have HSum : Hid (0 + Z = sumG ([] ++ [(z0, sty)])) := Lib.hid (by rw [Nat.zero_add, HOne.out]; rfl)
        have HLen : Hid ((L ++ [cur]).length ≤ 100) := Lib.hid (by rw [List.length_append, List.length_singleton]; have := HLl.out; omega)
        have HLen2 : Hid ((L ++ [cur]).length ≤ j + 1) := Lib.hid (by rw [List.length_append, List.length_singleton]; have := HLl.out; omega)
        have HCl : Hid (([] : List (Int × Int)).length ≤ j) := Lib.hid (by simp)
        have HS9 : Hid ((((0 + Z : Nat)) : Int) ≤ 2000) := Lib.hid (by omega)
        clear hEq1 hw6 hw7 hs6 hb57 hn6 hn7
        go_wp2_with (at_builtin; rw [HW7.out]; refine wpList_append_ln rfl _ _ rfl rfl rb _ (us ++ [u]) ⟨some ⟨w5.heap.size, 0, none⟩, 0, 0⟩ (w5.heap.size + 1) rfl rfl (HD5.out.own.below HB57.out) HN7.out (by have := HUl.out; omega) (Nat.le_trans HD5.out.sz HB57.out.size) ?_)
        intro v' wB ho hgr
        obtain ⟨us1, hus1⟩ : ∃ us1, us ++ [u] = us1 := ⟨_, rfl⟩
        obtain ⟨u1, hu1⟩ : ∃ u1 : Sv, u1 = ⟨some ⟨w5.heap.size, 0, none⟩, 0, 0⟩ := ⟨_, rfl⟩
        have ho' : OwnS 25 rb v' ((us ++ [u]) ++ [⟨some ⟨w5.heap.size, 0, none⟩, 0, 0⟩]) wB := by simpa using ho
        have hnx := HD5.out.next HB57.out (Nat.le_refl _) HN6.out ho' hgr
        rw [hus1, ← hu1] at hnx
        have hnsz : ∀ r, (Value.slice (some ⟨g0, 0, none⟩) m c0).ownBlock = some r → rb ≤ r ∧ r < w7.heap.size ∧ ∃ cs, w7.heap[r]? = some (Obj.cells cs 25 (0, 0)) := own_ln_ty (HD5.out.own.below HB57.out)
        have HBB : Hid (Below rb w wB) := Lib.hid ((HB5.out.trans (HB57.out.mono HD5.out.sz)).grown hgr (Nat.le_trans HD5.out.sz HB57.out.size) (fun q hq => (hnsz q hq).1))
        have hn8 : wB.heap[p8]? = some (.cells #[.int .i64 z0, .int .i64 sty] 65 (0, 0)) := glyph_kept hgr (fun r e => (hnsz r e).2.2) p8 _ ((HB57.out.block p8 (Array.getElem?_eq_some_iff.1 HN5.out).1).trans HN5.out)
        have HP8 : Hid (p8 < wB.heap.size ∧ wB.cell? ⟨p8, 0, none⟩ = some (.int .i64 z0) ∧ wB.cell? ⟨p8, 1, none⟩ = some (.int .i64 sty)) := Lib.hid ⟨(Array.getElem?_eq_some_iff.1 hn8).1, by rw [cell_block hn8]; rfl, by rw [cell_block hn8]; rfl⟩
        have HD := Lib.hid hnx
        clear ho ho' hgr hnx hnsz hn8 hus1 hu1 HD5 HN5 HN6 HN7 HB57 HB5
        have hD1 := HD.out
        obtain ⟨ab, cb, hvb, hfb, htb, -, hatb⟩ := hD1.own.shape
        obtain ⟨gb, rfl, -, hgl, hA⟩ := hatb.resolve_left (by simp)
        obtain ⟨K, hK0⟩ : ∃ K, us1.length = K := ⟨_, rfl⟩
        have hcb := hA us1.length u1 (by simp)
        rw [List.length_append, List.length_singleton, hK0] at hvb hfb
        rw [hK0] at hcb
        first | subst hvb | (obtain ⟨rfl, rfl, rfl⟩ : gb = g0 ∧ K + 1 = m ∧ cb = c0 := by (injection hvb with e1 e2 e3; injection e1 with e1; injection e1 with e4; exact ⟨e4.symm, e2.symm, e3.symm⟩))
        have HGb : Hid (gb < wB.heap.size ∧ wB.cell? ⟨gb, K, none⟩ = some (.slice u1.a u1.n u1.c)) := Lib.hid ⟨hgl, hcb⟩
        have hKl : K ≤ 100 := by rw [← hK0, hD1.rows.1]; exact HLen.out
        have hcbI : (K : Int) + 1 ≤ cb := by omega
        have hKI : (K : Int) < (K : Int) + 1 := by omega
        have HKK := Lib.hid hK0
        have HHD := Lib.hid hD1
        have hgb : rb ≤ gb := (own_ln_ty hD1.own gb rfl).1
        have HFinP : Hid (∀ (u2 : Sv) (W2 W3 : World), Below wB.heap.size wB W2 → GrewQ .i64 65 rb (sV u1) (([]) ++ [(z0, sty)]) W2 (sV u2) W3 → ∃ us u L cur, CutD rb (.slice (some ⟨gb, 0, none⟩) (K + 1) cb) us u L cur (W3.setCell ⟨gb, K, none⟩ (sV u2)) ∧ cutR C l = L ++ brk C (l.drop (j + 1)) cur (0 + Z) ∧ 0 + Z = sumG cur ∧ L.length ≤ j + 1 ∧ cur.length ≤ j + 1 ∧ Below rb w (W3.setCell ⟨gb, K, none⟩ (sV u2))) := Lib.hid (fun u2 W2 W3 hz hgq => by
          have hmore := HHD.out.more (u2 := u2) hz hgq
          rw [HKK.out] at hmore
          have hB3 : Below rb w W3 := (HBB.out.trans (hz.mono HHD.out.sz)).grown hgq.grown (Nat.le_trans HHD.out.sz hz.size) (fun q hq => (HHD.out.last.own q hq).1)
          exact ⟨us1, u2, (L ++ [cur]), ([]) ++ [(z0, sty)], hmore, HEq.out, HSum.out, HLen2.out, by have := HCl.out; simp at this ⊢; first | done | omega, hB3.setCell (p := ⟨gb, K, none⟩) hgb _⟩)
        have HSl : Hid (((0 + Z : Nat) : Int) ≤ 2000) := Lib.hid HS9.out
        clear hD1 hatb hA hgl hcb HD hK0
        go_upto_region 13 with fail
        refine Go.Proofs.YtjlhinofglokoaaDoor.R.wp_region_due [8, 10] [1, 1, 0, 0, 0, 0, 0, 0, 0, 1, 1] (by kernel_rfl) (RcSt wB rb u1 (([]) ++ [(z0, sty)]) gb K (fun W => ∃ us u L cur, CutD rb (.slice (some ⟨gb, 0, none⟩) (K + 1) cb) us u L cur W ∧ cutR C l = L ++ brk C (l.drop (j + 1)) cur (0 + Z) ∧ 0 + Z = sumG cur ∧ L.length ≤ j + 1 ∧ cur.length ≤ j + 1 ∧ Below rb w W)) (fun a b => ∀ q, wB.heap.size ≤ q → q < a.heap.size → b.heap[q]? = a.heap[q]?) (RcOk wB.heap.size gb K cb u1.a u1.n u1.c z0 sty) (by rfl) (by kernel_rfl) (by kernel_rfl) (by kernel_rfl) (by kernel_rfl) ?hcong ?hOk ?hop ?hdone ?h0
        case hcong =>
          intro k f f2 u hs hst
          match k, hs, hst with
          | 0, _, hst => exact hst
          | 1, hs, ⟨u2, W2, e, h1, h2⟩ => exact ⟨u2, W2, (hs 48 (Go.Proofs.YtjlhinofglokoaaDoor.R.mem_slots (by kernel_rfl))).symm.trans e, h1, h2⟩
          | k + 2, _, hst => exact hst
        case hOk =>
          intro i u w1 w2 h hr
          unfold RcOk at h ⊢
          split <;> first | exact True.intro | exact h | (obtain ⟨g, e, h0, h1⟩ := h; exact ⟨g, e, h0, (hr g h0 (Array.getElem?_eq_some_iff.1 h1).1).trans h1⟩)
        case h0 => exact (Below.refl _ _).drew
        case hop =>
          refine ⟨?_, ?_, ?_, ?_, ?_, ?_, ?_, ?_, ?_, ?_, ?_, trivial⟩
          · intro k z v hk hst hag hdep
            refine .inl ⟨rfl, fun KK hK => ?_⟩
            have d5 : z.tmps.getD 5 undef = .slice (some ⟨gb, 0, none⟩) (K + 1) cb := hag.2.2 5 (by kernel_rfl)
            have e5 := d5
            rw [Array.getD_eq_getD_getElem?] at e5
            have HSt := Lib.hid hst
            clear hdep hag hst
            go_simp
            exact hK _ _ (fun q _ _ => rfl) rfl HSt.out
          · intro k z v hk hst hag hdep
            refine .inl ⟨rfl, fun KK hK => ?_⟩
            have d10 : z.tmps.getD 10 undef = .int .i64 (K : Int) := hag.2.2 10 (by kernel_rfl)
            have e10 := d10
            rw [Array.getD_eq_getD_getElem?] at e10
            have HSt := Lib.hid hst
            clear hdep hag hst
            go_simp
            exact hK _ _ (fun q _ _ => rfl) rfl HSt.out
          · intro k z v hk hst hag hdep
            refine .inl ⟨rfl, fun KK hK => ?_⟩
            have d5 : z.tmps.getD 5 undef = .slice (some ⟨gb, 0, none⟩) (K + 1) cb := hag.2.2 5 (by kernel_rfl)
            have e5 := d5
            rw [Array.getD_eq_getD_getElem?] at e5
            have HSt := Lib.hid hst
            clear hdep hag hst
            go_simp
            exact hK _ _ (fun q _ _ => rfl) rfl HSt.out
          · intro k z v hk hst hag hdep
            refine .inl ⟨rfl, fun KK hK => ?_⟩
            have d10 : z.tmps.getD 10 undef = .int .i64 (K : Int) := hag.2.2 10 (by kernel_rfl)
            have e10 := d10
            rw [Array.getD_eq_getD_getElem?] at e10
            have HSt := Lib.hid hst
            clear hdep hag hst
            go_simp
            exact hK _ _ (fun q _ _ => rfl) rfl HSt.out
          · intro k z v hk hst hag hdep
            refine .inl ⟨rfl, fun KK hK => ?_⟩
            have d42 : z.tmps.getD 42 undef = .slice (some ⟨gb, 0, none⟩) (K + 1) cb := hdep { on := 2, ground := .data } (by simp) rfl _ _ rfl rfl
            have e42 := d42
            rw [Array.getD_eq_getD_getElem?] at e42
            have d43 : z.tmps.getD 43 undef = .int .i64 (K : Int) := hdep { on := 3, ground := .data } (by simp) rfl _ _ rfl rfl
            have e43 := d43
            rw [Array.getD_eq_getD_getElem?] at e43
            have HSt := Lib.hid hst
            clear hdep hag hst
            go_simp
            exact hK _ _ (fun q _ _ => rfl) rfl HSt.out
          · intro k z v hk hst hag hdep
            refine .inl ⟨rfl, fun KK hK => ?_⟩
            obtain rfl : k = 0 := by (have h9 : k ≤ 0 := hk); omega
            have hz : Below wB.heap.size wB v := hst
            have d44 : z.tmps.getD 44 undef = .pointer (some ⟨gb, K, none⟩) := hdep { on := 4, ground := .data } (by simp) rfl _ _ rfl rfl
            have e44 := d44
            rw [Array.getD_eq_getD_getElem?] at e44
            have l0 := (hz.cell (p := ⟨gb, K, none⟩) HGb.out.1).trans HGb.out.2
            have HSt := Lib.hid hst
            clear hdep hag hst
            go_simp
            exact hK _ _ (fun q _ _ => rfl) rfl HSt.out
          · intro k z v hk hst hag hdep
            refine .inl ⟨rfl, fun KK hK => ?_⟩
            obtain rfl : k = 0 := by (have h9 : k ≤ 0 := hk); omega
            have hz : Below wB.heap.size wB v := hst
            have d8 : z.tmps.getD 8 undef = .pointer (some ⟨p8, 0, none⟩) := hag.2.2 8 (by kernel_rfl)
            have e8 := d8
            rw [Array.getD_eq_getD_getElem?] at e8
            have l0 := (hz.cell (p := ⟨p8, 0, none⟩) HP8.out.1).trans HP8.out.2.1
            have l1 := (hz.cell (p := ⟨p8, 1, none⟩) HP8.out.1).trans HP8.out.2.2
            have HSt := Lib.hid hst
            clear hdep hag hst
            go_simp
            exact hK _ _ (fun q _ _ => rfl) rfl HSt.out
          · intro k z v hk hst hag hdep
            refine .inl ⟨rfl, fun KK hK => ?_⟩
            obtain rfl : k = 0 := by (have h9 : k ≤ 0 := hk); omega
            have hz : Below wB.heap.size wB v := hst
            have d46 : z.tmps.getD 46 undef = .agg #[.int .i64 z0, .int .i64 sty] := hdep { on := 6, ground := .data } (by simp) rfl _ _ rfl rfl
            have e46 := d46
            rw [Array.getD_eq_getD_getElem?] at e46
            have hbz : Below v.heap.size v (v.alloc (.cells #[.int .i64 z0, .int .i64 sty] 65)) := (Below.refl _ _).alloc (Nat.le_refl _) _
            have HBz := Lib.hid hbz
            have hzs : wB.heap.size ≤ v.heap.size := hz.size
            clear hbz
            have HSt := Lib.hid hst
            clear hdep hag hst
            go_simp
            exact hK _ _ (fun q _ hq => HBz.out.block q hq) ⟨v.heap.size, rfl, hzs, heap_alloc_new _ _⟩ (HSt.out.trans (HBz.out.mono hzs))
          · intro z v hst hag hdep
            refine ⟨rfl, fun KK hK => ?_⟩
            have hz : Below wB.heap.size wB v := hst
            have d45 : z.tmps.getD 45 undef = .slice u1.a u1.n u1.c := hdep { on := 5, ground := .data } (by simp) rfl _ _ rfl rfl
            have e45 := d45
            rw [Array.getD_eq_getD_getElem?] at e45
            obtain ⟨p9, d47, hp90, hp9⟩ := hdep { on := 7, ground := .data } (by simp) rfl _ _ rfl rfl
            have hsz : 48 < z.tmps.size := by rw [hag.2.1]; show 48 < 52; decide
            have hs : z.eval (.tmp 45) = .slice u1.a u1.n u1.c := d45
            have hy : z.eval (.tmp 47) = .slice (some ⟨p9, 0, none⟩) 1 1 := d47
            have hown : OwnQ .i64 65 rb (.slice u1.a u1.n u1.c) ([]) v := HHD.out.last.below hz
            refine wp_append_q lineT (.tmp 45) (.tmp 47) rfl rfl rb (.slice u1.a u1.n u1.c) ([]) (some ⟨p9, 0, none⟩) 1 1 [(z0, sty)] hs hy hown (pair_in (z0, sty) hp9) (by have := HCl.out; first | omega | simp) (by simp) (Nat.le_trans HHD.out.sz hz.size) ?_
            intro v2 W3 hgq
            obtain ⟨u2, rfl, -⟩ := sv_of hgq.own
            refine hK _ _ (fun q h1 h2 => hgq.grown.block q h2 (fun e => ?_)) True.intro ⟨u2, v, Go.Proofs.YtjlhinofglokoaaDoor.R.slot_same hsz, hz, hgq⟩
            have h3 := (HHD.out.last.own q e.symm).2.1
            omega
          · intro k z v hk hst hag hdep
            refine .inl ⟨rfl, fun KK hK => ?_⟩
            have d40 : z.tmps.getD 40 undef = .slice (some ⟨gb, 0, none⟩) (K + 1) cb := hdep { on := 0, ground := .data } (by simp) rfl _ _ rfl rfl
            have e40 := d40
            rw [Array.getD_eq_getD_getElem?] at e40
            have d41 : z.tmps.getD 41 undef = .int .i64 (K : Int) := hdep { on := 1, ground := .data } (by simp) rfl _ _ rfl rfl
            have e41 := d41
            rw [Array.getD_eq_getD_getElem?] at e41
            have HSt := Lib.hid hst
            clear hdep hag hst
            go_simp
            exact hK _ _ (fun q _ _ => rfl) rfl HSt.out
          · intro z v hst hag hdep
            refine ⟨rfl, fun KK hK => ?_⟩
            obtain ⟨⟨u2a, u2n, u2c⟩, W2, f48, hz, hgq⟩ := hst
            have d48 : z.tmps.getD 48 undef = .slice u2a u2n u2c := f48
            have e48 := d48
            rw [Array.getD_eq_getD_getElem?] at e48
            have d49 : z.tmps.getD 49 undef = .pointer (some ⟨gb, K, none⟩) := hdep { on := 9, ground := .data } (by simp) rfl _ _ rfl rfl
            have e49 := d49
            rw [Array.getD_eq_getD_getElem?] at e49
            have hcell := rc_cell HHD.out hz HGb.out.1 HGb.out.2 hgq
            have c9 := hcell.1
            have f9 := hcell.2
            have HFin := Lib.hid (HFinP.out ⟨u2a, u2n, u2c⟩ W2 v hz hgq)
            have HLt := Lib.hid HGb.out.1
            clear hdep hag hcell hgq hz f48
            go_simp
            exact hK undef _ (fun q h1 _ => Below.heap_setCell _ _ _ q (fun e => by have h2 : q = gb := e; have := HLt.out; omega)) True.intro HFin.out
        case hdone =>
          intro z v hst hag hok
          obtain ⟨uu, hu, hzz⟩ := Go.Proofs.YtjlhinofglokoaaDoor.R.agree_frame [40, 41, 42, 43, 44, 45, 46, 47, 48, 49] rfl hag
          subst hzz
          have hst : ∃ us u L cur, CutD rb (.slice (some ⟨gb, 0, none⟩) (K + 1) cb) us u L cur v ∧ cutR C l = L ++ brk C (l.drop (j + 1)) cur (0 + Z) ∧ 0 + Z = sumG cur ∧ L.length ≤ j + 1 ∧ cur.length ≤ j + 1 ∧ Below rb w v := hst
          have HE := Lib.hid hst
          clear hu hag hok hst
          simp only [List.foldl_cons, List.foldl_nil]
          simp only [List.setIfInBounds_toArray, List.set_cons_succ, List.set_cons_zero]
          try dsimp only [Exit.inBlock, Exit.then]
          go_wp2_with fail
          go_roundw
          case rel => exact ⟨j + 1, 0 + Z, K + 1, gb, cb, by go_num, by go_num, rfl, by omega, HSl.out, HE⟩
          case measure => simp [intOf]; omega
      · have d1 : decide ((S : Int) + (Z : Int) > C) = false := decide_eq_false (by omega)
        have d1' : decide (C < (S : Int) + (Z : Int)) = false := decide_eq_false (by omega)
        have hEq1 := HEq0.out
        rw [if_neg hgt] at hEq1
        obtain ⟨wB, hwB⟩ : ∃ wB, w5 = wB := ⟨_, rfl⟩
        subst hwB
        obtain ⟨us1, hus1⟩ : ∃ us1, us1 = us := ⟨_, rfl⟩
        obtain ⟨u1, hu1⟩ : ∃ u1, u1 = u := ⟨_, rfl⟩
        subst hus1 hu1
        have HEq := Lib.hid hEq1
        have HSum : Hid (S + Z = sumG (cur ++ [(z0, sty)])) := Lib.hid (by rw [sumG_append, ← HSum0.out, ← HOne.out])
        have HLen : Hid (L.length ≤ 100) := Lib.hid (by have := HLl.out; omega)
        have HLen2 : Hid (L.length ≤ j + 1) := Lib.hid (by have := HLl.out; omega)
        have HCl : Hid (cur.length ≤ j) := Lib.hid HCl0.out
        have HS9 : Hid ((((S + Z : Nat)) : Int) ≤ 2000) := Lib.hid (by omega)
        have HBB := HB5
        have HP8 : Hid (p8 < w5.heap.size ∧ w5.cell? ⟨p8, 0, none⟩ = some (.int .i64 z0) ∧ w5.cell? ⟨p8, 1, none⟩ = some (.int .i64 sty)) := Lib.hid ⟨(Array.getElem?_eq_some_iff.1 HN5.out).1, by rw [cell_block HN5.out]; rfl, by rw [cell_block HN5.out]; rfl⟩
        have HD := HD5
        clear hEq1 HD5 HN5
        have hD1 := HD.out
        obtain ⟨ab, cb, hvb, hfb, htb, -, hatb⟩ := hD1.own.shape
        obtain ⟨gb, rfl, -, hgl, hA⟩ := hatb.resolve_left (by simp)
        obtain ⟨K, hK0⟩ : ∃ K, us1.length = K := ⟨_, rfl⟩
        have hcb := hA us1.length u1 (by simp)
        rw [List.length_append, List.length_singleton, hK0] at hvb hfb
        rw [hK0] at hcb
        first | subst hvb | (obtain ⟨rfl, rfl, rfl⟩ : gb = g0 ∧ K + 1 = m ∧ cb = c0 := by (injection hvb with e1 e2 e3; injection e1 with e1; injection e1 with e4; exact ⟨e4.symm, e2.symm, e3.symm⟩))
        have HGb : Hid (gb < w5.heap.size ∧ w5.cell? ⟨gb, K, none⟩ = some (.slice u1.a u1.n u1.c)) := Lib.hid ⟨hgl, hcb⟩
        have hKl : K ≤ 100 := by rw [← hK0, hD1.rows.1]; exact HLen.out
        have hcbI : (K : Int) + 1 ≤ cb := by omega
        have hKI : (K : Int) < (K : Int) + 1 := by omega
        have HKK := Lib.hid hK0
        have HHD := Lib.hid hD1
        have hgb : rb ≤ gb := (own_ln_ty hD1.own gb rfl).1
        have HFinP : Hid (∀ (u2 : Sv) (W2 W3 : World), Below w5.heap.size w5 W2 → GrewQ .i64 65 rb (sV u1) ((cur) ++ [(z0, sty)]) W2 (sV u2) W3 → ∃ us u L cur, CutD rb (.slice (some ⟨gb, 0, none⟩) (K + 1) cb) us u L cur (W3.setCell ⟨gb, K, none⟩ (sV u2)) ∧ cutR C l = L ++ brk C (l.drop (j + 1)) cur (S + Z) ∧ S + Z = sumG cur ∧ L.length ≤ j + 1 ∧ cur.length ≤ j + 1 ∧ Below rb w (W3.setCell ⟨gb, K, none⟩ (sV u2))) := Lib.hid (fun u2 W2 W3 hz hgq => by
          have hmore := HHD.out.more (u2 := u2) hz hgq
          rw [HKK.out] at hmore
          have hB3 : Below rb w W3 := (HBB.out.trans (hz.mono HHD.out.sz)).grown hgq.grown (Nat.le_trans HHD.out.sz hz.size) (fun q hq => (HHD.out.last.own q hq).1)
          exact ⟨us1, u2, L, (cur) ++ [(z0, sty)], hmore, HEq.out, HSum.out, HLen2.out, by have := HCl.out; simp at this ⊢; first | done | omega, hB3.setCell (p := ⟨gb, K, none⟩) hgb _⟩)
        have HSl : Hid (((S + Z : Nat) : Int) ≤ 2000) := Lib.hid HS9.out
        clear hD1 hatb hA hgl hcb HD hK0
        go_upto_region 13 with fail
        refine Go.Proofs.YtjlhinofglokoaaDoor.R.wp_region_due [8, 10] [1, 1, 0, 0, 0, 0, 0, 0, 0, 1, 1] (by kernel_rfl) (RcSt w5 rb u1 ((cur) ++ [(z0, sty)]) gb K (fun W => ∃ us u L cur, CutD rb (.slice (some ⟨gb, 0, none⟩) (K + 1) cb) us u L cur W ∧ cutR C l = L ++ brk C (l.drop (j + 1)) cur (S + Z) ∧ S + Z = sumG cur ∧ L.length ≤ j + 1 ∧ cur.length ≤ j + 1 ∧ Below rb w W)) (fun a b => ∀ q, w5.heap.size ≤ q → q < a.heap.size → b.heap[q]? = a.heap[q]?) (RcOk w5.heap.size gb K cb u1.a u1.n u1.c z0 sty) (by rfl) (by kernel_rfl) (by kernel_rfl) (by kernel_rfl) (by kernel_rfl) ?hcong ?hOk ?hop ?hdone ?h0
        case hcong =>
          intro k f f2 u hs hst
          match k, hs, hst with
          | 0, _, hst => exact hst
          | 1, hs, ⟨u2, W2, e, h1, h2⟩ => exact ⟨u2, W2, (hs 48 (Go.Proofs.YtjlhinofglokoaaDoor.R.mem_slots (by kernel_rfl))).symm.trans e, h1, h2⟩
          | k + 2, _, hst => exact hst
        case hOk =>
          intro i u w1 w2 h hr
          unfold RcOk at h ⊢
          split <;> first | exact True.intro | exact h | (obtain ⟨g, e, h0, h1⟩ := h; exact ⟨g, e, h0, (hr g h0 (Array.getElem?_eq_some_iff.1 h1).1).trans h1⟩)
        case h0 => exact (Below.refl _ _).drew
        case hop =>
          refine ⟨?_, ?_, ?_, ?_, ?_, ?_, ?_, ?_, ?_, ?_, ?_, trivial⟩
          · intro k z v hk hst hag hdep
            refine .inl ⟨rfl, fun KK hK => ?_⟩
            have d5 : z.tmps.getD 5 undef = .slice (some ⟨gb, 0, none⟩) (K + 1) cb := hag.2.2 5 (by kernel_rfl)
            have e5 := d5
            rw [Array.getD_eq_getD_getElem?] at e5
            have HSt := Lib.hid hst
            clear hdep hag hst
            go_simp
            exact hK _ _ (fun q _ _ => rfl) rfl HSt.out
          · intro k z v hk hst hag hdep
            refine .inl ⟨rfl, fun KK hK => ?_⟩
            have d10 : z.tmps.getD 10 undef = .int .i64 (K : Int) := hag.2.2 10 (by kernel_rfl)
            have e10 := d10
            rw [Array.getD_eq_getD_getElem?] at e10
            have HSt := Lib.hid hst
            clear hdep hag hst
            go_simp
            exact hK _ _ (fun q _ _ => rfl) rfl HSt.out
          · intro k z v hk hst hag hdep
            refine .inl ⟨rfl, fun KK hK => ?_⟩
            have d5 : z.tmps.getD 5 undef = .slice (some ⟨gb, 0, none⟩) (K + 1) cb := hag.2.2 5 (by kernel_rfl)
            have e5 := d5
            rw [Array.getD_eq_getD_getElem?] at e5
            have HSt := Lib.hid hst
            clear hdep hag hst
            go_simp
            exact hK _ _ (fun q _ _ => rfl) rfl HSt.out
          · intro k z v hk hst hag hdep
            refine .inl ⟨rfl, fun KK hK => ?_⟩
            have d10 : z.tmps.getD 10 undef = .int .i64 (K : Int) := hag.2.2 10 (by kernel_rfl)
            have e10 := d10
            rw [Array.getD_eq_getD_getElem?] at e10
            have HSt := Lib.hid hst
            clear hdep hag hst
            go_simp
            exact hK _ _ (fun q _ _ => rfl) rfl HSt.out
          · intro k z v hk hst hag hdep
            refine .inl ⟨rfl, fun KK hK => ?_⟩
            have d42 : z.tmps.getD 42 undef = .slice (some ⟨gb, 0, none⟩) (K + 1) cb := hdep { on := 2, ground := .data } (by simp) rfl _ _ rfl rfl
            have e42 := d42
            rw [Array.getD_eq_getD_getElem?] at e42
            have d43 : z.tmps.getD 43 undef = .int .i64 (K : Int) := hdep { on := 3, ground := .data } (by simp) rfl _ _ rfl rfl
            have e43 := d43
            rw [Array.getD_eq_getD_getElem?] at e43
            have HSt := Lib.hid hst
            clear hdep hag hst
            go_simp
            exact hK _ _ (fun q _ _ => rfl) rfl HSt.out
          · intro k z v hk hst hag hdep
            refine .inl ⟨rfl, fun KK hK => ?_⟩
            obtain rfl : k = 0 := by (have h9 : k ≤ 0 := hk); omega
            have hz : Below w5.heap.size w5 v := hst
            have d44 : z.tmps.getD 44 undef = .pointer (some ⟨gb, K, none⟩) := hdep { on := 4, ground := .data } (by simp) rfl _ _ rfl rfl
            have e44 := d44
            rw [Array.getD_eq_getD_getElem?] at e44
            have l0 := (hz.cell (p := ⟨gb, K, none⟩) HGb.out.1).trans HGb.out.2
            have HSt := Lib.hid hst
            clear hdep hag hst
            go_simp
            exact hK _ _ (fun q _ _ => rfl) rfl HSt.out
          · intro k z v hk hst hag hdep
            refine .inl ⟨rfl, fun KK hK => ?_⟩
            obtain rfl : k = 0 := by (have h9 : k ≤ 0 := hk); omega
            have hz : Below w5.heap.size w5 v := hst
            have d8 : z.tmps.getD 8 undef = .pointer (some ⟨p8, 0, none⟩) := hag.2.2 8 (by kernel_rfl)
            have e8 := d8
            rw [Array.getD_eq_getD_getElem?] at e8
            have l0 := (hz.cell (p := ⟨p8, 0, none⟩) HP8.out.1).trans HP8.out.2.1
            have l1 := (hz.cell (p := ⟨p8, 1, none⟩) HP8.out.1).trans HP8.out.2.2
            have HSt := Lib.hid hst
            clear hdep hag hst
            go_simp
            exact hK _ _ (fun q _ _ => rfl) rfl HSt.out
          · intro k z v hk hst hag hdep
            refine .inl ⟨rfl, fun KK hK => ?_⟩
            obtain rfl : k = 0 := by (have h9 : k ≤ 0 := hk); omega
            have hz : Below w5.heap.size w5 v := hst
            have d46 : z.tmps.getD 46 undef = .agg #[.int .i64 z0, .int .i64 sty] := hdep { on := 6, ground := .data } (by simp) rfl _ _ rfl rfl
            have e46 := d46
            rw [Array.getD_eq_getD_getElem?] at e46
            have hbz : Below v.heap.size v (v.alloc (.cells #[.int .i64 z0, .int .i64 sty] 65)) := (Below.refl _ _).alloc (Nat.le_refl _) _
            have HBz := Lib.hid hbz
            have hzs : w5.heap.size ≤ v.heap.size := hz.size
            clear hbz
            have HSt := Lib.hid hst
            clear hdep hag hst
            go_simp
            exact hK _ _ (fun q _ hq => HBz.out.block q hq) ⟨v.heap.size, rfl, hzs, heap_alloc_new _ _⟩ (HSt.out.trans (HBz.out.mono hzs))
          · intro z v hst hag hdep
            refine ⟨rfl, fun KK hK => ?_⟩
            have hz : Below w5.heap.size w5 v := hst
            have d45 : z.tmps.getD 45 undef = .slice u1.a u1.n u1.c := hdep { on := 5, ground := .data } (by simp) rfl _ _ rfl rfl
            have e45 := d45
            rw [Array.getD_eq_getD_getElem?] at e45
            obtain ⟨p9, d47, hp90, hp9⟩ := hdep { on := 7, ground := .data } (by simp) rfl _ _ rfl rfl
            have hsz : 48 < z.tmps.size := by rw [hag.2.1]; show 48 < 52; decide
            have hs : z.eval (.tmp 45) = .slice u1.a u1.n u1.c := d45
            have hy : z.eval (.tmp 47) = .slice (some ⟨p9, 0, none⟩) 1 1 := d47
            have hown : OwnQ .i64 65 rb (.slice u1.a u1.n u1.c) (cur) v := HHD.out.last.below hz
            refine wp_append_q lineT (.tmp 45) (.tmp 47) rfl rfl rb (.slice u1.a u1.n u1.c) (cur) (some ⟨p9, 0, none⟩) 1 1 [(z0, sty)] hs hy hown (pair_in (z0, sty) hp9) (by have := HCl.out; first | omega | simp) (by simp) (Nat.le_trans HHD.out.sz hz.size) ?_
            intro v2 W3 hgq
            obtain ⟨u2, rfl, -⟩ := sv_of hgq.own
            refine hK _ _ (fun q h1 h2 => hgq.grown.block q h2 (fun e => ?_)) True.intro ⟨u2, v, Go.Proofs.YtjlhinofglokoaaDoor.R.slot_same hsz, hz, hgq⟩
            have h3 := (HHD.out.last.own q e.symm).2.1
            omega
          · intro k z v hk hst hag hdep
            refine .inl ⟨rfl, fun KK hK => ?_⟩
            have d40 : z.tmps.getD 40 undef = .slice (some ⟨gb, 0, none⟩) (K + 1) cb := hdep { on := 0, ground := .data } (by simp) rfl _ _ rfl rfl
            have e40 := d40
            rw [Array.getD_eq_getD_getElem?] at e40
            have d41 : z.tmps.getD 41 undef = .int .i64 (K : Int) := hdep { on := 1, ground := .data } (by simp) rfl _ _ rfl rfl
            have e41 := d41
            rw [Array.getD_eq_getD_getElem?] at e41
            have HSt := Lib.hid hst
            clear hdep hag hst
            go_simp
            exact hK _ _ (fun q _ _ => rfl) rfl HSt.out
          · intro z v hst hag hdep
            refine ⟨rfl, fun KK hK => ?_⟩
            obtain ⟨⟨u2a, u2n, u2c⟩, W2, f48, hz, hgq⟩ := hst
            have d48 : z.tmps.getD 48 undef = .slice u2a u2n u2c := f48
            have e48 := d48
            rw [Array.getD_eq_getD_getElem?] at e48
            have d49 : z.tmps.getD 49 undef = .pointer (some ⟨gb, K, none⟩) := hdep { on := 9, ground := .data } (by simp) rfl _ _ rfl rfl
            have e49 := d49
            rw [Array.getD_eq_getD_getElem?] at e49
            have hcell := rc_cell HHD.out hz HGb.out.1 HGb.out.2 hgq
            have c9 := hcell.1
            have f9 := hcell.2
            have HFin := Lib.hid (HFinP.out ⟨u2a, u2n, u2c⟩ W2 v hz hgq)
            have HLt := Lib.hid HGb.out.1
            clear hdep hag hcell hgq hz f48
            go_simp
            exact hK undef _ (fun q h1 _ => Below.heap_setCell _ _ _ q (fun e => by have h2 : q = gb := e; have := HLt.out; omega)) True.intro HFin.out
        case hdone =>
          intro z v hst hag hok
          obtain ⟨uu, hu, hzz⟩ := Go.Proofs.YtjlhinofglokoaaDoor.R.agree_frame [40, 41, 42, 43, 44, 45, 46, 47, 48, 49] rfl hag
          subst hzz
          have hst : ∃ us u L cur, CutD rb (.slice (some ⟨gb, 0, none⟩) (K + 1) cb) us u L cur v ∧ cutR C l = L ++ brk C (l.drop (j + 1)) cur (S + Z) ∧ S + Z = sumG cur ∧ L.length ≤ j + 1 ∧ cur.length ≤ j + 1 ∧ Below rb w v := hst
          have HE := Lib.hid hst
          clear hu hag hok hst
          simp only [List.foldl_cons, List.foldl_nil]
          simp only [List.setIfInBounds_toArray, List.set_cons_succ, List.set_cons_zero]
          try dsimp only [Exit.inBlock, Exit.then]
          go_wp2_with fail
          go_roundw
          case rel => exact ⟨j + 1, S + Z, K + 1, gb, cb, by go_num, by go_num, rfl, by omega, HSl.out, HE⟩
          case measure => simp [intOf]; omega
    · obtain rfl : j = n := by omega
      have hd : decide (j < j) = false := by simp
      have hend : Hid (P (.returned (.slice (some ⟨g0, 0, none⟩) m c0)) wr) := Lib.hid (by
        rw [← HP.out]
        obtain ⟨us, u, L, cur, hD, hEq, hSum, hLl, hCl, hBw⟩ := HF.out
        rw [List.drop_eq_nil_of_le (by rw [← HL.out]; exact Nat.le_refl _)] at hEq
        rw [HC.out, hEq]
        show RcPost (L ++ [cur]) w _ wr
        refine ⟨_, us ++ [u], rfl, ?_, ?_, ?_⟩
        · rw [HRb.out]; exact hD.own
        · rw [HRb.out]; exact SvsQ.snoc hD.rows hD.last
        · rw [HRb.out]; exact hBw)
      clear HF hlt
      go_wp2_with fail
      exact hend.out
end Go.Proofs.YtjlhinofglokoaaDoor.F
