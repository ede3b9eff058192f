/- The document's cache: newest. -/
import Derived.Test.YtgagkmlkoeceiaaCRfA
import Derived.Test.YtgagkmlkoeceiaaRelD
namespace Go.Proofs.Ytgagkmlkoeceiaa.C
open Go.RowKit Go.Maps Go.Proofs.Ytgagkmlkoeceiaa.H

theorem wp_append_evs {o : Oper} {z : Act} {w : World} {K : Act → World → Prop} {Q : Exit → Act → World → Prop} (s x : Operand)
    (ho : o.op = .call { callee := .builtin .append, args := #[s, x], argTypes := #[26, 26] }) (hty : o.type = 26)
    (base : Nat) (v : Value) (l : List Ev) (a : Option Addr) (m c : Nat) (l2 : List Ev) (hs : z.eval s = v) (hxv : z.eval x = .slice a m c) (hown : OwnE base v l w) (h : EvsIn a m c l2 w) (h1 : l.length ≤ 1000000) (h2 : l2.length ≤ 1000000) (hbase : base ≤ w.heap.size)
    (hK : ∀ v' w', OwnE base v' (l ++ l2) w' → w.grownBy w' v.ownBlock → K (z.put o.dst v') w') : o.wp Try.prog z w K Q := by
  obtain ⟨v', w', hr, k1, k2⟩ := run_append_evs base v l a m c l2 w hown h h1 h2 hbase
  unfold Oper.wp execOp
  simp only [ho, hty, resolve, invoke, builtin, Sem.run_bind, Sem.run_pure, Result.andThen_ok, List.map_toArray, List.map_cons, List.map_nil, hs, hxv, hr]
  exact hK v' w' k1 k2
theorem OwnE.movedB {base : Nat} {v : Value} {l : List Ev} {w w' : World} (h : OwnE base v l w) (hv : ∀ q, v.ownBlock = some q → w'.heap[q]? = w.heap[q]?) : OwnE base v l w' := by
  refine ⟨h.1, ?_⟩
  rcases h.2 with h0 | ⟨g', c', cur, he, hbase, hgb, hc, hmx, hsz, ht⟩
  · exact .inl h0
  · exact .inr ⟨g', c', cur, he, hbase, (hv g' (by rw [he]; rfl)).trans hgb, hc, hmx, hsz, ht⟩
def NwA (B : Nat) (wB : World) (lv : Value) (es : List Ev) (u : World) : Prop := OwnE B lv es u ∧ Below B wB u
def NwB (B : Nat) (wB : World) (lv : Value) (es : List Ev) (ev : Ev) (v : Value) (u : World) : Prop := ∃ gl, v = .slice (some ⟨gl, 0, none⟩) 1 1 ∧ EvsIn (some ⟨gl, 0, none⟩) 1 1 [ev] u ∧ OwnE B lv es u ∧ Below B wB u
def NwC (B : Nat) (wB : World) (es : List Ev) (ev : Ev) (v : Value) (u : World) : Prop := OwnE B v (es ++ [ev]) u ∧ Below B wB u
def NwD (B : Nat) (wB : World) (es : List Ev) (ev : Ev) (m : Int) (v : Value) (u : World) : Prop := ∃ vv, v = .agg #[.int .i64 m, vv] ∧ OwnE B vv (es ++ [ev]) u ∧ Below B wB u
def NwF (B : Nat) (w : World) (r : Nat) (es : List Ev) (ev : Ev) (m : Int) (u : World) : Prop := ∃ a c, OwnE B (.slice a (es ++ [ev]).length c) (es ++ [ev]) u ∧ u.heap[r]? = some (.cells #[.int .i64 m, .slice a (es ++ [ev]).length c] 28 (0, 0)) ∧ Below w.heap.size w u
theorem nwF {B r c : Nat} {w wB v : World} {es : List Ev} {ev : Ev} {m : Int} {a : Option Addr} {z0 z1 : Value} (hr : r < B) (hw : w.heap.size ≤ r) (hbw : Below w.heap.size w wB) (hz : v.heap[r]? = some (.cells #[z0, z1] 28 (0, 0))) (ho : OwnE B (.slice a (es ++ [ev]).length c) (es ++ [ev]) v) (hb : Below B wB v) :
    NwF B w r es ev m ((v.setCell ⟨r, 0, none⟩ (.int .i64 m)).setCell ⟨r, 1, none⟩ (.slice a (es ++ [ev]).length c)) := by
  refine ⟨a, c, ho.movedB (fun q hq => ?_), by simp [World.setCell, Array.getElem?_modify, hz], ?_⟩
  · have hne : q ≠ r := by have := (ho.ownBlock q hq).1; omega
    exact (Below.heap_setCell _ _ _ q hne).trans (Below.heap_setCell _ _ _ q hne)
  · exact ((hbw.trans (hb.mono (by have := hbw.size; omega))).setCell (p := ⟨r, 0, none⟩) hw _).setCell (p := ⟨r, 1, none⟩) hw _
theorem NwE {B : Nat} {w wB : World} {r : Nat} {lv : Value} {es : List Ev} {ev : Ev} {m : Int} {k : Nat} {f : Nat → Value} {u : World} (hk : k ≤ 2) (h : QuaS (NwA B wB lv es) (NwB B wB lv es ev) (NwC B wB es ev) (NwD B wB es ev m) (fun _ u => NwF B w r es ev m u) 30 31 32 32 k f u) : Below B wB u := by
  match k, hk, h with
  | 0, _, h => exact h.2
  | 1, _, h =>
    obtain ⟨gl, -, -, -, h⟩ : NwB B wB lv es ev (f 30) u := h
    exact h
  | 2, _, h => exact (show NwC B wB es ev (f 31) u from h).2
def NwOk8 (p : Nat) (m i : Int) (ea : Option Addr) (en ec : Nat) (lv : Value) : Nat → Value → World → Prop
  | 0, u, _ => u = .pointer (some ⟨p, 0, none⟩)
  | 1, u, _ => u = .int .i64 m
  | 2, u, _ => u = lv
  | 3, u, _ => u = .agg #[.int .i64 i, .slice ea en ec]
  | 4, _, _ => True
  | 5, _, _ => True
  | 6, _, _ => True
  | 7, _, _ => True
  | _, _, _ => True
def NewPostR (M : List Nat) (x : Ca) (i : Int) (g : List (Int × Int)) (w : World) (r : Ending) (w' : World) : Prop := ∃ X', r = .returned X' ∧ RefC M X' ⟨x.most, dropC x.L i ++ [(i, g)]⟩ w' ∧ Below w.heap.size w w'
theorem drop_take {L : List (Int × List (Int × Int))} {j : Nat} {y : Int × List (Int × Int)} (i : Int) (h : L[j]? = some y) : dropC (L.take (j + 1)) i = dropC (L.take j) i ++ (if y.1 = i then [] else [y]) := by
  obtain ⟨hk, he⟩ := List.getElem?_eq_some_iff.1 h
  rw [List.take_succ_eq_append_getElem hk, he]
  unfold dropC
  rw [List.filter_append]
  congr 1
  by_cases e : y.1 = i
  · simp [e]
  · simp [e]
set_option maxRecDepth 100000 in
set_option maxHeartbeats 8000000 in
theorem rnewest_any (M : List Nat) (X : Value) (x : Ca) (i : Int) (ea : Option Addr) (en ec : Nat) (g : List (Int × Int)) (w : World) (h : RefC M X x w) (hM : ∀ p ∈ M, p < w.heap.size) (hg : PairsIn .i64 ea en ec g w) (hgp : ∀ p o, ea = some ⟨p, o, none⟩ → p ∉ M ∧ p < w.heap.size) (hl : x.L.length ≤ 100000) :
    Calls Try.prog 29 #[X, .agg #[.int .i64 i, .slice ea en ec]] w (NewPostR M x i g w) := by
  obtain ⟨a, n, c, es0, rfl, h1, h2, h3⟩ := h
  obtain ⟨P, hP⟩ : ∃ P, NewPostR M x i g w = P := ⟨_, rfl⟩
  rw [hP]
  have HP := Lib.hid hP
  obtain ⟨m, hm⟩ : ∃ m : Int, (x.most : Int) = m := ⟨_, rfl⟩
  rw [hm]
  obtain ⟨p, hp⟩ : ∃ p, p = w.heap.size := ⟨_, rfl⟩
  obtain ⟨w1, hw1⟩ : ∃ w1, w1 = w.alloc (.cells #[.int .i64 m, .slice a n c] 28) := ⟨_, rfl⟩
  obtain ⟨w2, hw2⟩ : ∃ w2, w2 = w1.alloc (.cells #[.int .i64 i, .slice ea en ec] 63) := ⟨_, rfl⟩
  obtain ⟨wB, hwB⟩ : ∃ wB, wB = w2.alloc (.cells #[.int .i64 0, .slice none 0 0] 28) := ⟨_, rfl⟩
  have hs1 : w1.heap.size = p + 1 := by rw [hw1, World.size_alloc, hp]
  have hs2 : w2.heap.size = p + 2 := by rw [hw2, World.size_alloc, hs1]
  have hs3 : wB.heap.size = p + 3 := by rw [hwB, World.size_alloc, hs2]
  have ha1 : w1.heap[p]? = some (.cells #[.int .i64 m, .slice a n c] 28 (0, 0)) := by rw [hw1, hp]; exact heap_alloc_new w _
  have ha2 : w2.heap[p + 1]? = some (.cells #[.int .i64 i, .slice ea en ec] 63 (0, 0)) := by rw [hw2, ← hs1]; exact heap_alloc_new w1 _
  have hr : wB.heap[p + 2]? = some (.cells #[.int .i64 0, .slice none 0 0] 28 (0, 0)) := by rw [hwB, ← hs2]; exact heap_alloc_new w2 _
  have b1 : Below w.heap.size w w1 := by rw [hw1]; exact alloc_below _ _
  have b2 : Below w1.heap.size w1 w2 := by rw [hw2]; exact alloc_below _ _
  have b3 : Below w2.heap.size w2 wB := by rw [hwB]; exact alloc_below _ _
  have hbB : Below w.heap.size w wB := b1.trans ((b2.trans (b3.mono b2.size)).mono b1.size)
  have hap : wB.heap[p]? = some (.cells #[.int .i64 m, .slice a n c] 28 (0, 0)) := ((b2.trans (b3.mono b2.size)).block p (by omega)).trans ha1
  have haq : wB.heap[p + 1]? = some (.cells #[.int .i64 i, .slice ea en ec] 63 (0, 0)) := (b3.block (p + 1) (by omega)).trans ha2
  have c1 : wB.cell? ⟨p, 1, none⟩ = some (.slice a n c) := by rw [cell_block hap]; rfl
  obtain ⟨B, hB⟩ : ∃ B, wB.heap.size = B := ⟨_, rfl⟩
  obtain ⟨q, hq⟩ : ∃ q, q = p + 1 := ⟨_, rfl⟩
  obtain ⟨r, hr0⟩ : ∃ r, r = p + 2 := ⟨_, rfl⟩
  rw [← hr0] at hr
  rw [← hq] at haq
  have HXp : Hid (p < B ∧ wB.cell? ⟨p, 0, none⟩ = some (.int .i64 m) ∧ wB.cell? ⟨p, 1, none⟩ = some (.slice a n c)) := Lib.hid ⟨by omega, by rw [cell_block hap]; rfl, c1⟩
  have HXq : Hid (q < B ∧ wB.cell? ⟨q, 0, none⟩ = some (.int .i64 i) ∧ wB.cell? ⟨q, 1, none⟩ = some (.slice ea en ec)) := Lib.hid ⟨by omega, by rw [cell_block haq]; rfl, by rw [cell_block haq]; rfl⟩
  have HXr : Hid (r < B ∧ wB.heap[r]? = some (.cells #[.int .i64 0, .slice none 0 0] 28 (0, 0))) := Lib.hid ⟨by omega, hr⟩
  have HWr : Hid (w.heap.size ≤ r ∧ Below w.heap.size w wB) := Lib.hid ⟨by omega, hbB⟩
  have HBz := Lib.hid hB
  have H1 := Lib.hid h1
  have H2 := Lib.hid h2
  have HG := Lib.hid hg
  have HGp := Lib.hid hgp
  have HMm : Hid ((x.most : Int) = m ∧ ∀ p ∈ M, p < w.heap.size) := Lib.hid ⟨hm, hM⟩
  have HLn : Hid (n = x.L.length ∧ n ≤ 100000) := Lib.hid ⟨h1.len.trans h2.len, by rw [h1.len, h2.len]; exact hl⟩
  have HW : Hid ((((w.alloc (.cells #[.int .i64 m, .slice a n c] 28)).alloc (.cells #[.int .i64 i, .slice ea en ec] 63)).alloc (.cells #[.int .i64 0, .slice none 0 0] 28)) = wB) := Lib.hid (by rw [hwB, hw2, hw1])
  have HPp := Lib.hid hp
  have HQq := Lib.hid hq
  have HRr := Lib.hid hr0
  have HSz : Hid (w.heap.size + 1 = q ∧ w.heap.size + 1 + 1 = r ∧ w.heap.size + 2 = r) := Lib.hid ⟨by omega, by omega, by omega⟩
  have hnc := h1.fit
  have htop := h1.top
  have hzE := zeroEnt
  have hzC := zeroRC
  clear hP h1 h2 hm hp hw1 hw2 hwB hs1 hs2 hs3 ha1 ha2 hr b1 b2 b3 hbB hap haq hg hgp hM hl hB hq hr0 h3 c1
  go_enter Try.func29, Try.ntmps29
  go_upto_region 1 with fail
  rw [HW.out, HSz.out.2.1, HSz.out.1, ← HPp.out]
  obtain ⟨wl, hwl⟩ : ∃ wl, wB.alloc (.cells #[] 63) = wl := ⟨_, rfl⟩
  have ho0 : OwnE B (.slice (some ⟨B, 0, none⟩) 0 0) [] wl := by rw [← hwl, ← HBz.out]; exact OwnE.lit wB _ (Nat.le_refl _)
  have hbl : Below B wB wl := by rw [← hwl, ← HBz.out]; exact alloc_below _ _
  have HI : Hid (∃ es, OwnE B (.slice (some ⟨B, 0, none⟩) 0 0) es wl ∧ EvsOf M w es (dropC (x.L.take 0) i) ∧ Below B wB wl) := Lib.hid ⟨[], ho0, .nil, hbl⟩
  have HWl := Lib.hid hwl
  have HC1 : Hid (wl.cell? ⟨p, 1, none⟩ = some (.slice a n c)) := Lib.hid ((hbl.cell (p := ⟨p, 1, none⟩) HXp.out.1).trans HXp.out.2.2)
  clear ho0 hbl hwl HW HSz HPp
  go_upto_region 2 with fail
  rw [HWl.out, HBz.out]
  have c1 := HC1.out
  clear HWl
  go_wp2_with fail
  clear c1
  go_loopw [5, 12] (fun lv v wr => ∃ j : Nat, v = .int .i64 (j : Int) ∧ j ≤ n ∧ Hid (∃ es, OwnE B lv es wr ∧ EvsOf M w es (dropC (x.L.take j) i) ∧ Below B wB wr)) (fun _ v _ => n - (intOf v).toNat)
  case atStart => exact ⟨0, rfl, Nat.zero_le _, HI⟩
  case round =>
    obtain ⟨j, rfl, hj, HF⟩ := hrel
    obtain ⟨lv, hlv⟩ : ∃ lv, lv = u5 := ⟨_, rfl⟩
    subst hlv
    obtain ⟨es, ho, hes, hbr⟩ := HF.out
    have hwB : w.heap.size ≤ B := by have := HWr.out.1; have := HXr.out.1; omega
    have hbw : Below w.heap.size w wr := HWr.out.2.trans (hbr.mono hwB)
    clear HF HI
    by_cases hlt : j < n
    · have hd : decide (j < n) = true := decide_eq_true hlt
      have hjI : (j : Int) < n := by omega
      obtain ⟨y, hy⟩ : ∃ y, x.L[j]? = some y := ⟨_, List.getElem?_eq_getElem (by rw [← HLn.out.1]; exact hlt)⟩
      obtain ⟨e, he, hev⟩ := H2.out.at hy
      have hdt := drop_take i hy
      obtain ⟨b, off, rfl, hb, hi⟩ := H1.out.at_.resolve_left (by intro e9; rw [e9] at he; cases he)
      obtain ⟨k0, k1⟩ := hi j e he
      have k0 := (hbw.cell (p := ⟨b, off + j * 2, none⟩) hb).trans k0
      have k1 := (hbw.cell (p := ⟨b, off + j * 2 + 1, none⟩) hb).trans k1
      obtain ⟨yi, ya, yn, yc⟩ := e
      obtain ⟨y1, yg⟩ := y
      obtain rfl : yi = y1 := hev.1
      simp only at k0 k1
      obtain ⟨s5, hs5⟩ : ∃ s5, s5 = wr.heap.size := ⟨_, rfl⟩
      obtain ⟨w5, hw5⟩ : ∃ w5, w5 = wr.alloc (.cells #[.int .i64 yi, .slice ya yn yc] 63) := ⟨_, rfl⟩
      have hx5 : w5.heap[s5]? = some (.cells #[.int .i64 yi, .slice ya yn yc] 63 (0, 0)) := by rw [hw5, hs5]; exact heap_alloc_new _ _
      have hb15 : Below wr.heap.size wr w5 := by rw [hw5]; exact alloc_below _ _
      have hb5 : Below B wB w5 := hbr.trans (hb15.mono (by have := hbr.size; have := HBz.out; omega))
      have g0 : w5.cell? ⟨s5, 0, none⟩ = some (.int .i64 yi) := by rw [cell_block hx5]; rfl
      have g1 : w5.cell? ⟨s5, 1, none⟩ = some (.slice ya yn yc) := by rw [cell_block hx5]; rfl
      have q0 : w5.cell? ⟨q, 0, none⟩ = some (.int .i64 i) := (hb5.cell (p := ⟨q, 0, none⟩) HXq.out.1).trans HXq.out.2.1
      have HW5 := Lib.hid hw5
      have HS5 := Lib.hid hs5
      have HB5 := Lib.hid hb5
      have HO5 := Lib.hid (ho.belowAll hb15)
      have HEs := Lib.hid hes
      have HEv := Lib.hid hev
      have HDt := Lib.hid hdt
      have HLe : Hid (es.length ≤ 1000000) := Lib.hid (by
        have h9 := hes.len
        have h8 : (dropC (x.L.take j) i).length ≤ (x.L.take j).length := List.length_filter_le _ _
        rw [List.length_take] at h8
        have := HLn.out
        omega)
      clear hy he hi hb hbw hw5 hs5 hx5 hb5 hb15 hbr ho hes hev hdt
      go_upto_region 5 with fail
      rw [← HW5.out, ← HS5.out]
      clear HW5 HS5 k0 k1
      by_cases hyi : yi = i
      · have hd2 : (yi != i) = false := by simp [hyi]
        have HE : Hid (∃ es, OwnE B lv es w5 ∧ EvsOf M w es (dropC (x.L.take (j + 1)) i) ∧ Below B wB w5) := Lib.hid ⟨es, HO5.out, by rw [HDt.out, if_pos hyi, List.append_nil]; exact HEs.out, HB5.out⟩
        clear HDt HEs HEv HO5 hyi
        go_wp2_with fail
        go_roundw
        case rel => exact ⟨j + 1, by go_num, by omega, HE⟩
        case measure => simp [intOf]; omega
      · have hd2 : (yi != i) = true := by simpa using hyi
        obtain ⟨w6, hw6⟩ : ∃ w6, w5.alloc (.cells #[.int .i64 yi, .slice ya yn yc] 63) = w6 := ⟨_, rfl⟩
        have hb6 : Below w5.heap.size w5 w6 := by rw [← hw6]; exact alloc_below _ _
        have hi6 := evs_one w5 ⟨yi, ya, yn, yc⟩
        rw [hw6] at hi6
        have HI6 := Lib.hid hi6
        have HW6 := Lib.hid hw6
        have HO6 := Lib.hid (HO5.out.belowAll hb6)
        have HB6 : Hid (Below B wB w6) := Lib.hid (HB5.out.trans (hb6.mono (by have := HB5.out.size; have := HBz.out; omega)))
        have HS6 : Hid (B ≤ w6.heap.size) := Lib.hid (by have := HB6.out.size; have := HBz.out; omega)
        clear hw6 hb6 hi6
        go_wp2_with (at_builtin; rw [HW6.out]; refine wpList_append_evs rfl _ _ rfl rfl B _ es (some ⟨w5.heap.size, 0, none⟩) 1 1 [⟨yi, ya, yn, yc⟩] rfl rfl ?_ ?_ ?_ ?_ ?_ ?_; exact HO6.out; exact HI6.out; exact HLe.out; simp; exact HS6.out)
        intro v7 w7 ho7 hg7
        have HE : Hid (∃ es, OwnE B v7 es w7 ∧ EvsOf M w es (dropC (x.L.take (j + 1)) i) ∧ Below B wB w7) := Lib.hid ⟨_, ho7, by rw [HDt.out, if_neg hyi]; exact HEs.out.append (.cons HEv.out .nil), HB6.out.grown hg7 HS6.out (fun p hp => (HO6.out.ownBlock p hp).1)⟩
        clear ho7 hg7 HDt HEs HEv HO5 HO6 HI6 HB6 HS6 HW6
        go_wp2_with fail
        go_roundw
        case rel => exact ⟨j + 1, by go_num, by omega, HE⟩
        case measure => simp [intOf]; omega
    · obtain rfl : j = n := by omega
      have hd : decide (j < j) = false := by simp
      rw [List.take_of_length_le (by rw [← HLn.out.1]; exact Nat.le_refl _)] at hes
      have HO8 := Lib.hid ho
      have HB8 := Lib.hid hbr
      have HEs := Lib.hid hes
      have HLe : Hid (es.length ≤ 1000000) := Lib.hid (by
        have h9 := hes.len
        have h8 : (dropC x.L i).length ≤ x.L.length := List.length_filter_le _ _
        have := HLn.out
        omega)
      clear hes ho hbr hbw hlt
      go_upto_region 8 with fail
      refine Go.Proofs.Ytgagkmlkoeceiaa.R.wp_region_due [4, 5, 6, 7] [2, 2, 1, 0, 1, 2, 3, 4] (by kernel_rfl) (QuaS (NwA B wB lv es) (NwB B wB lv es (⟨i, ea, en, ec⟩ : Ev)) (NwC B wB es (⟨i, ea, en, ec⟩ : Ev)) (NwD B wB es (⟨i, ea, en, ec⟩ : Ev) m) (fun _ u => NwF B w r es (⟨i, ea, en, ec⟩ : Ev) m u) 30 31 32 32) (fun _ _ => True) (NwOk8 p m i ea en ec lv) (by rfl) (by kernel_rfl) (by kernel_rfl) (by kernel_rfl) (by kernel_rfl) ?hcong ?hOk ?hop ?hdone ?h0
      case hcong => exact fun k f f2 u hs hst => QuaS.cong (fun hk => hs 30 (Go.Proofs.Ytgagkmlkoeceiaa.R.mem_slots (by subst hk; kernel_rfl))) (fun hk => hs 31 (Go.Proofs.Ytgagkmlkoeceiaa.R.mem_slots (by subst hk; kernel_rfl))) (fun hk => hs 32 (Go.Proofs.Ytgagkmlkoeceiaa.R.mem_slots (by subst hk; kernel_rfl))) (fun hk => hs 32 (Go.Proofs.Ytgagkmlkoeceiaa.R.mem_slots (by subst hk; kernel_rfl))) hst
      case hOk => intro i u w1 w2 h hr; unfold NwOk8 at h ⊢; split <;> first | exact True.intro | exact h
      case h0 => exact ⟨HO8.out.belowAll (Below.refl _ _).drew, HB8.out.drew⟩
      case hop =>
        refine ⟨?_, ?_, ?_, ?_, ?_, ?_, ?_, ?_, trivial⟩
        · intro k z v hk hst hag hdep
          refine .inl ⟨rfl, fun K hK => ?_⟩
          have d2 : z.tmps.getD 2 undef = .pointer (some ⟨p, 0, none⟩) := hag.2.2 2 (by kernel_rfl)
          have e2 := d2
          rw [Array.getD_eq_getD_getElem?] at e2
          have HSt := Lib.hid hst
          clear hdep hag hst
          go_simp
          exact hK _ _ trivial rfl HSt.out
        · intro k z v hk hst hag hdep
          refine .inl ⟨rfl, fun K hK => ?_⟩
          have d26 : z.tmps.getD 26 undef = .pointer (some ⟨p, 0, none⟩) := hdep { on := 0, ground := .data } (by simp) rfl _ _ rfl rfl
          have e26 := d26
          rw [Array.getD_eq_getD_getElem?] at e26
          have hb9 := NwE (Nat.le_trans hk (by decide)) hst
          have l0 := (hb9.cell (p := ⟨p, 0, none⟩) HXp.out.1).trans HXp.out.2.1
          have l1 := (hb9.cell (p := ⟨p, 1, none⟩) HXp.out.1).trans HXp.out.2.2
          try simp only at l0 l1
          clear hb9
          have HSt := Lib.hid hst
          clear hdep hag hst
          go_simp
          exact hK _ _ trivial rfl HSt.out
        · intro k z v hk hst hag hdep
          refine .inl ⟨rfl, fun K hK => ?_⟩
          have d5 : z.tmps.getD 5 undef = lv := hag.2.2 5 (by kernel_rfl)
          have e5 := d5
          rw [Array.getD_eq_getD_getElem?] at e5
          have HSt := Lib.hid hst
          clear hdep hag hst
          go_simp
          exact hK _ _ trivial rfl HSt.out
        · intro k z v hk hst hag hdep
          refine .inl ⟨rfl, fun K hK => ?_⟩
          have d3 : z.tmps.getD 3 undef = .pointer (some ⟨q, 0, none⟩) := hag.2.2 3 (by kernel_rfl)
          have e3 := d3
          rw [Array.getD_eq_getD_getElem?] at e3
          have hb9 := NwE (Nat.le_trans hk (by decide)) hst
          have l0 := (hb9.cell (p := ⟨q, 0, none⟩) HXq.out.1).trans HXq.out.2.1
          have l1 := (hb9.cell (p := ⟨q, 1, none⟩) HXq.out.1).trans HXq.out.2.2
          try simp only at l0 l1
          clear hb9
          have HSt := Lib.hid hst
          clear hdep hag hst
          go_simp
          exact hK _ _ trivial rfl HSt.out
        · intro z v hst hag hdep
          refine ⟨rfl, fun K hK => ?_⟩
          have d29 : z.tmps.getD 29 undef = .agg #[.int .i64 i, .slice ea en ec] := hdep { on := 3, ground := .data } (by simp) rfl _ _ rfl rfl
          have e29 := d29
          rw [Array.getD_eq_getD_getElem?] at e29
          have hsz : 30 < z.tmps.size := by rw [hag.2.1]; show 30 < 33; decide
          obtain ⟨ho, hb⟩ := hst
          have hbz := alloc_below v (.cells #[.int .i64 i, .slice ea en ec] 63)
          have he := evs_one v ⟨i, ea, en, ec⟩
          have HQ : Hid (NwB B wB lv es (⟨i, ea, en, ec⟩ : Ev) (.slice (some ⟨v.heap.size, 0, none⟩) 1 1) (v.alloc (.cells #[.int .i64 i, .slice ea en ec] 63))) := Lib.hid ⟨v.heap.size, rfl, he, ho.belowAll hbz, hb.trans (hbz.mono (by have := hb.size; have := HBz.out; omega))⟩
          clear hdep hag ho hb hbz he
          go_simp
          exact hK _ _ trivial True.intro (by
      show NwB _ _ _ _ _ _ _
      rw [Go.Proofs.Ytgagkmlkoeceiaa.R.slot_same hsz]
      exact HQ.out)
        · intro z v hst hag hdep
          refine ⟨rfl, fun K hK => ?_⟩
          have d28 : z.tmps.getD 28 undef = lv := hdep { on := 2, ground := .data } (by simp) rfl _ _ rfl rfl
          have e28 := d28
          rw [Array.getD_eq_getD_getElem?] at e28
          have hsz : 31 < z.tmps.size := by rw [hag.2.1]; show 31 < 33; decide
          obtain ⟨gl, f30, he, ho, hb⟩ := hst
          have d30 : z.tmps.getD 30 undef = .slice (some ⟨gl, 0, none⟩) 1 1 := f30
          have HE := Lib.hid he
          have HO := Lib.hid ho
          have HB := Lib.hid hb
          have HS : Hid (B ≤ v.heap.size) := Lib.hid (by have := hb.size; have := HBz.out; omega)
          have HW := Lib.hid (fun (q : Nat) (hq : lv.ownBlock = some q) => (ho.ownBlock q hq).1)
          clear hdep hag f30 he ho hb
          refine wp_append_evs _ _ rfl rfl B _ es (some ⟨gl, 0, none⟩) 1 1 [⟨i, ea, en, ec⟩] d28 d30 HO.out HE.out HLe.out (by simp) HS.out ?_
          intro v2 w9 k1 k2
          exact hK _ _ trivial True.intro (by
      show NwC _ _ _ _ _ _
      rw [Go.Proofs.Ytgagkmlkoeceiaa.R.slot_same hsz]
      exact ⟨k1, HB.out.grown k2 HS.out HW.out⟩)
        · intro z v hst hag hdep
          refine ⟨rfl, fun K hK => ?_⟩
          have d27 : z.tmps.getD 27 undef = .int .i64 m := hdep { on := 1, ground := .data } (by simp) rfl _ _ rfl rfl
          have e27 := d27
          rw [Array.getD_eq_getD_getElem?] at e27
          have hsz : 32 < z.tmps.size := by rw [hag.2.1]; show 32 < 33; decide
          obtain ⟨v31, hv31⟩ : ∃ x, z.tmps.getD 31 undef = x := ⟨_, rfl⟩
          have hv31s : Go.Proofs.Ytgagkmlkoeceiaa.R.slot z 31 = v31 := hv31
          have hst : NwC B wB es (⟨i, ea, en, ec⟩ : Ev) (Go.Proofs.Ytgagkmlkoeceiaa.R.slot z 31) v := hst
          rw [hv31s] at hst
          obtain ⟨a9, c9, e9, -⟩ := hst.1.shape
          obtain ⟨K9, hK9⟩ : ∃ K, (es ++ [(⟨i, ea, en, ec⟩ : Ev)]).length = K := ⟨_, rfl⟩
          rw [hK9] at e9
          have HSt := Lib.hid hst
          have e31 := hv31
          rw [Array.getD_eq_getD_getElem?] at e31
          rw [e9] at e31
          clear hdep hag hst hv31s
          go_simp
          exact hK _ _ trivial True.intro (by
      show NwD _ _ _ _ _ _ _
      rw [Go.Proofs.Ytgagkmlkoeceiaa.R.slot_same hsz]
      exact ⟨_, rfl, by rw [← e9]; exact HSt.out.1, HSt.out.2⟩)
        · intro z v hst hag hdep
          refine ⟨rfl, fun K hK => ?_⟩
          have d4 : z.tmps.getD 4 undef = .pointer (some ⟨r, 0, none⟩) := hag.2.2 4 (by kernel_rfl)
          have e4 := d4
          rw [Array.getD_eq_getD_getElem?] at e4
          obtain ⟨vv, f32, ho, hb⟩ := hst
          have d32 : z.tmps.getD 32 undef = .agg #[.int .i64 m, vv] := f32
          have e32 := d32
          rw [Array.getD_eq_getD_getElem?] at e32
          obtain ⟨a9, c9, e9, -⟩ := ho.shape
          subst e9
          obtain ⟨K9, hK9⟩ : ∃ K, (es ++ [(⟨i, ea, en, ec⟩ : Ev)]).length = K := ⟨_, rfl⟩
          rw [hK9] at e32
          have hz : v.heap[r]? = some (.cells #[.int .i64 0, .slice none 0 0] 28 (0, 0)) := (hb.block r HXr.out.1).trans HXr.out.2
          have hz1 : (v.setCell ⟨r, 0, none⟩ (.int .i64 m)).heap[r]? = some (.cells #[.int .i64 m, .slice none 0 0] 28 (0, 0)) := by simp [World.setCell, Array.getElem?_modify, hz]
          have s0 : v.cell? ⟨r, 0, none⟩ = some (.int .i64 0) := by rw [cell_block hz]; rfl
          have s1 : (v.setCell ⟨r, 0, none⟩ (.int .i64 m)).cell? ⟨r, 1, none⟩ = some (.slice none 0 0) := by rw [cell_block hz1]; rfl
          have g0 := frozen_block hz 0
          have g1 := frozen_block hz1 1
          have HE : Hid (NwF B w r es (⟨i, ea, en, ec⟩ : Ev) m ((v.setCell ⟨r, 0, none⟩ (.int .i64 m)).setCell ⟨r, 1, none⟩ (.slice a9 K9 c9))) := Lib.hid (by rw [← hK9]; exact nwF HXr.out.1 HWr.out.1 HWr.out.2 hz ho hb)
          clear hdep hag d32 f32 ho hb hz hz1
          go_simp
          exact hK undef _ trivial True.intro HE.out
      case hdone =>
        intro z w3 hst hag hok
        replace hst : NwF B w r es (⟨i, ea, en, ec⟩ : Ev) m w3 := hst
        have d27 : z.tmps.getD 27 undef = .int .i64 m := hok 1 _ 27 rfl rfl
        have HSt := Lib.hid hst
        clear hst
        obtain ⟨uu, hu, hzz⟩ := Go.Proofs.Ytgagkmlkoeceiaa.R.agree_frame [26, 27, 28, 29, 30, 31, 32] rfl hag
        have e27 := (hu 27).trans d27
        subst hzz
        simp only [List.foldl_cons, List.foldl_nil]
        rw [e27]
        clear e27 d27 hu hag hok
        try dsimp only [Exit.then]
        simp only [List.setIfInBounds_toArray, List.set_cons_succ, List.set_cons_zero]
        generalize uu 26 = u26', uu 28 = u28', uu 29 = u29', uu 30 = u30', uu 31 = u31', uu 32 = u32'
        clear uu
        obtain ⟨a9, c9, ho, hr9, hb9⟩ := HSt.out
        have g0 : w3.cell? ⟨r, 0, none⟩ = some (.int .i64 m) := by rw [cell_block hr9]; rfl
        have g1 : w3.cell? ⟨r, 1, none⟩ = some (.slice a9 (es ++ [(⟨i, ea, en, ec⟩ : Ev)]).length c9) := by rw [cell_block hr9]; rfl
        obtain ⟨K9, hK9⟩ : ∃ K9, (es ++ [(⟨i, ea, en, ec⟩ : Ev)]).length = K9 := ⟨_, rfl⟩
        rw [hK9] at g1
        have HO := Lib.hid ho
        have HB9 := Lib.hid hb9
        have HK9 := Lib.hid hK9
        clear ho hr9 hb9 hK9
        go_wp2_with fail
        refine bodyPost_ret (v := .agg #[.int .i64 m, .slice a9 K9 c9]) (by rw [results_c1 rfl]; go_simp) rfl ?_
        rw [← HP.out]
        obtain ⟨a', c', e9, hin, hbk⟩ := HO.out.shape
        injection e9 with e1 e2 e3
        subst e1 e3
        refine ⟨_, rfl, ⟨a9, K9, c9, _, by rw [HMm.out.1], by rw [← HK9.out]; exact hin, ?_, fun p o e => ?_⟩, HB9.out⟩
        · exact (HEs.out.belowAll HB9.out).append (.cons ⟨rfl, HG.out.belowAll HB9.out, fun p o e => ⟨(HGp.out p o e).1, Nat.lt_of_lt_of_le (HGp.out p o e).2 HB9.out.size⟩⟩ .nil)
        · obtain ⟨k1, k2⟩ := hbk p o e
          exact ⟨fun hm => by have := HMm.out.2 p hm; omega, k2⟩
end Go.Proofs.Ytgagkmlkoeceiaa.C
