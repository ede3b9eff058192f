/- BookLong: a line that is too long is cut, and nothing of it is lost: the walk. -/
import Derived.Test.YtkggmcnocpgnbaaDoorBAwk
import Derived.Test.YtkggmcnocpgnbaaDoorBRefA
import Derived.Test.YtkggmcnocpgnbaaDoorMerged16
namespace Go.Proofs.YtkggmcnocpgnbaaDoor.K
open Go.RowKit

theorem glF_blanks (n : Nat) (s : Int) : (glyphs ⟨blanks n s, true⟩).length = n := by
  rw [glyphs_glF, trimS_wrapped]
  unfold glF blanks
  rw [List.length_map, List.filter_eq_self.2 (fun c hc => by rw [(List.mem_replicate.1 hc).2]; rfl), List.length_replicate]
theorem cutB_len (x : Bk) (h : ∀ l ∈ x.L, l.length = 1024) : ∀ l ∈ (cutB x).L, l.length = 1024 := by
  rw [cutB]
  split
  · refine cutB_len (endB x 1024) (fun l hl => ?_)
    rcases List.mem_append.1 hl with hl | hl
    · exact h l hl
    · rw [List.mem_singleton.1 hl, List.length_take]; omega
  · exact h
termination_by x.G.length
decreasing_by
  show (x.G.drop 1024).length < _
  rw [List.length_drop]
  omega
theorem flat_len : ∀ (L : List (List (Int × Int))), (∀ l ∈ L, l.length = 1024) → L.flatten.length = 1024 * L.length
  | [], _ => rfl
  | l :: L, h => by
    rw [List.flatten_cons, List.length_append, List.length_cons, flat_len L (fun m hm => h m (List.mem_cons_of_mem _ hm)), h l (List.mem_cons_self ..)]
    omega
/-- the same row, again and again -/
def longB (r : Ro) : Nat → Bk
  | 0 => ⟨[], []⟩
  | j + 1 => addB (longB r j) r
structure LongOk (r : Ro) (j : Nat) (y : Bk) : Prop where
  ok : BkOk y
  len : ∀ l ∈ y.L, l.length = 1024
  all : (allB y).length = j * (glyphs r).length
  rng : RngG y.G
  rngL : ∀ l ∈ y.L, RngG l
theorem longB_ok {r : Ro} (hw : r.wrapped = true) (hr : AllC Rng r.l) : ∀ j, LongOk r j (longB r j)
  | 0 => ⟨⟨by show (0 : Nat) < 1024; decide, fun l hl => by cases hl⟩, (fun l hl => by cases hl), by simp [longB, allB], (fun g hg => by cases hg), fun l hl => by cases hl⟩
  | j + 1 => by
    have h := longB_ok hw hr j
    have hall := addB_all (longB r j) r
    have hrg : RngG (allB (addB (longB r j) r)) := by
      rw [hall]
      refine rngG_append (fun g hg => ?_) (rngG_glyphs hr)
      unfold allB at hg
      rcases List.mem_append.1 hg with h1 | h1
      · obtain ⟨l, hl, hgl⟩ := List.mem_flatten.1 h1
        exact h.rngL l hl g hgl
      · exact h.rng g h1
    refine ⟨addB_ok h.ok r, ?_, by show (allB (addB _ _)).length = _; rw [hall, List.length_append, h.all, Nat.succ_mul], fun g hg => hrg g (List.mem_append_right _ hg), fun l hl g hg => hrg g (List.mem_append_left _ (List.mem_flatten.2 ⟨l, hl, hg⟩))⟩
    show ∀ l ∈ (addB (longB r j) r).L, l.length = 1024
    unfold addB
    rw [if_pos hw]
    exact cutB_len _ h.len
theorem LongOk.count {r : Ro} {j : Nat} {y : Bk} (h : LongOk r j y) : 1024 * y.L.length + y.G.length = j * (glyphs r).length := by
  have h1 := h.all
  unfold allB at h1
  rw [List.length_append, flat_len y.L h.len] at h1
  exact h1
theorem toldRow_any {ra : Option Addr} {rn rc : Nat} {r : Ro} {w : World} (h : RowV .i32 (.agg #[.slice ra rn rc, .bool true]) r w) (hr : AllC Rng r.l) (hn : r.l.length ≤ 1000000) :
    Calls Tryd.prog 16 #[.agg #[.slice ra rn rc, .bool true]] w fun e w' => ∃ a n c, e = .returned (.agg #[.slice a n c, .bool true]) ∧ RowV .i64 (.agg #[.slice a n c, .bool true]) r w' ∧ Below w.heap.size w w' := by
  obtain ⟨hb, i1, -, -, -, hl⟩ := h.of
  refine (told_any ra rn rc true r.l w i1 hr (by omega)).mono ?_
  rintro e w' h2
  obtain ⟨v, rfl, hv, hb2⟩ := RowPost.rowV h2
  have hv2 := hv
  obtain ⟨a, c, rfl, -⟩ := hv
  refine ⟨a, _, c, rfl, ?_, hb2⟩
  have e : r = ⟨r.l, true⟩ := by rw [hb]
  rw [e]
  exact hv2
/-- the region's state -/
def LoS (w9 : World) (q : Nat) (X : List Nat) (r : Ro) (y2 : Bk) : Nat → (Nat → Value) → World → Prop
  | 0, _, u => Below w9.heap.size w9 u
  | 1, f, u => Below w9.heap.size w9 u ∧ ∃ a n c, f 34 = .agg #[.slice a n c, .bool true] ∧ RowV .i64 (.agg #[.slice a n c, .bool true]) r u
  | 2, f, u => Below w9.heap.size w9 u ∧ ∃ v, f 35 = v ∧ RefB X v y2 u
  | _, _, u => ∃ u0 la ln lc ga gn gc, Below w9.heap.size w9 u0 ∧ RefB X (.agg #[.slice la ln lc, .slice ga gn gc]) y2 u0 ∧ u = (u0.setCell ⟨q + 1, 0, none⟩ (.slice la ln lc)).setCell ⟨q + 1, 1, none⟩ (.slice ga gn gc)
theorem LoS.base1 {w9 : World} {q : Nat} {X : List Nat} {r : Ro} {y2 : Bk} {k : Nat} {f : Nat → Value} {u : World} (hk : k ≤ 1) (h : LoS w9 q X r y2 k f u) : Below w9.heap.size w9 u := by
  match k, hk, h with
  | 0, _, h => exact h
  | 1, _, h => exact h.1
theorem LoS.cong {w9 : World} {q : Nat} {X : List Nat} {r : Ro} {y2 : Bk} {k : Nat} {f f2 : Nat → Value} {u : World} (e1 : k = 1 → f 34 = f2 34) (e2 : k = 2 → f 35 = f2 35) (h : LoS w9 q X r y2 k f u) : LoS w9 q X r y2 k f2 u := by
  match k, h, e1, e2 with
  | 0, h, _, _ => exact h
  | 1, ⟨h, a, n, c, e, h2⟩, e1, _ => exact ⟨h, a, n, c, by rw [← e1 rfl]; exact e, h2⟩
  | 2, ⟨h, v, e, h2⟩, _, e2 => exact ⟨h, v, by rw [← e2 rfl]; exact e, h2⟩
  | _ + 3, h, _, _ => exact h
/-- the loop: a book, and the document's in a block -/
structure LoF (b q : Nat) (w0 : World) (y : Bk) (w : World) : Prop where
  ex : ∃ M la ln lc ga gn gc, Bo b M [q + 1] y w ∧ (∀ p ∈ M, p = b ∨ w0.heap.size ≤ p) ∧ RefB ((q + 1) :: M) (.agg #[.slice la ln lc, .slice ga gn gc]) y w ∧ w.heap[q + 1]? = some (.cells #[.slice la ln lc, .slice ga gn gc] 33 (0, 0))
  keep : KeepB [b, q + 1] w0 w
/-- behind a row more -/
theorem LoF.next {b q : Nat} {w0 w wr u0 : World} {y2 : Bk} {M M9 : List Nat} {la : Option Addr} {ln lc : Nat} {ga : Option Addr} {gn gc : Nat} {c0 c1 : Value} (hbq : b < q) (hq0 : q + 1 < w0.heap.size) (hk0 : KeepB [b, q + 1] w0 wr) (hM : ∀ p ∈ M, p = b ∨ w0.heap.size ≤ p) (hB : Bo b M9 [q + 1] y2 w) (hk : KeepB M wr w) (hM9 : ∀ p ∈ M9, p ∈ M ∨ wr.heap.size ≤ p)
    (hu : Below w.heap.size w u0) (hR : RefB ((q + 1) :: M9) (.agg #[.slice la ln lc, .slice ga gn gc]) y2 u0) (hblk : w.heap[q + 1]? = some (.cells #[c0, c1] 33 (0, 0))) :
    LoF b q w0 y2 ((u0.setCell ⟨q + 1, 0, none⟩ (.slice la ln lc)).setCell ⟨q + 1, 1, none⟩ (.slice ga gn gc)) := by
  have hkE : KeepB [q + 1] u0 ((u0.setCell ⟨q + 1, 0, none⟩ (.slice la ln lc)).setCell ⟨q + 1, 1, none⟩ (.slice ga gn gc)) := (KeepB.setCell (q := q + 1) _).trans (KeepB.setCell (q := q + 1) _)
  have hs := hk0.size
  have hM9' : ∀ p ∈ M9, p = b ∨ w0.heap.size ≤ p := fun p hp => by
    rcases hM9 p hp with h | h
    · exact hM p h
    · exact .inr (Nat.le_trans hs h)
  have hqw : q + 1 < w.heap.size := (Array.getElem?_eq_some_iff.1 hblk).1
  have hblk0 := (hu.block (q + 1) hqw).trans hblk
  refine ⟨⟨M9, la, ln, lc, ga, gn, gc, (hB.below hu).grew hkE (fun p hp => ⟨hp, fun hm => by
    have h1 := List.mem_singleton.1 hp
    rcases hM9' p hm with h2 | h2 <;> omega⟩) [q + 1] (fun p hp => .inl hp) (fun p hp => by rw [List.mem_singleton.1 hp]; exact Nat.lt_of_lt_of_le hqw (Nat.le_trans hu.size hkE.size)), hM9', hR.kept (M := [q + 1]) (fun p hp => by rw [List.mem_singleton.1 hp]; exact List.mem_cons_self ..) hkE (fun p hp => .inl hp), by simp [World.setCell, Array.getElem?_modify, hblk0]⟩, ?_⟩
  have hkw : KeepB [b, q + 1] w0 w := ⟨hk.os.trans hk0.os, hk.tape.trans hk0.tape, hk.output.trans hk0.output, Nat.le_trans hs hk.size, fun i hi hn => (hk.block i (Nat.lt_of_lt_of_le hi hs) (fun hm => by
    rcases hM i hm with h | h
    · exact hn (by simp [h])
    · omega)).trans (hk0.block i hi hn)⟩
  exact (hkw.trans (KeepB.of_below hu)).trans (hkE.mono (fun p hp => by rw [List.mem_singleton.1 hp]; simp))
def LoOk (la : Option Addr) (ln lc : Nat) (ga : Option Addr) (gn gc : Nat) (a5 : Option Addr) (n5 c5 : Nat) : Nat → Value → World → Prop
  | 0, u, _ => u = .agg #[.slice la ln lc, .slice ga gn gc]
  | 1, u, _ => u = .agg #[.slice a5 n5 c5, .bool true]
  | 2, _, _ => True
  | 3, _, _ => True
  | 4, _, _ => True
  | _, _, _ => True
theorem RefB.of {X : List Nat} {la : Option Addr} {ln lc : Nat} {ga : Option Addr} {gn gc : Nat} {x : Bk} {w : World} (h : RefB X (.agg #[.slice la ln lc, .slice ga gn gc]) x w) : LinO X la ln lc x.L w ∧ PairsIn .i64 ga gn gc x.G w := by
  obtain ⟨a, n, c, a2, n2, c2, e, h1, h2, -⟩ := h
  have e1 : #[Value.slice la ln lc, Value.slice ga gn gc] = #[Value.slice a n c, Value.slice a2 n2 c2] := by injection e
  simp only [Array.mk.injEq, List.cons.injEq, Value.slice.injEq, and_true] at e1
  obtain ⟨⟨rfl, rfl, rfl⟩, rfl, rfl, rfl⟩ := e1
  exact ⟨h1, h2⟩
set_option maxRecDepth 100000 in
set_option maxHeartbeats 16000000 in
theorem long_walk (n0 w0 : Int) (w : World) (hW : W.Tab w) (hT : S.Tab w) :
    Calls Tryd.prog 3 #[.int .i64 n0, .int .i64 w0] w fun e w' => e = .returned (.bool true) ∧ Below w.heap.size w w' := by
  obtain ⟨rb, hrb⟩ : ∃ rb, w.heap.size = rb := ⟨_, rfl⟩
  rw [hrb]
  obtain ⟨P, hP⟩ : ∃ P : Ending → World → Prop, (fun e w' => e = .returned (.bool true) ∧ Below rb w w') = P := ⟨_, rfl⟩
  rw [hP]
  have HP := Lib.hid hP
  have HRb := Lib.hid hrb
  have HT := Lib.hid hT
  have HAw := Lib.hid (bawake_any w hW hT)
  have HHf : Hid (1 < rb) := Lib.hid (by rw [← hrb]; exact S.halfLt hT)
  obtain ⟨nn, hnn, hnl⟩ := and_small n0 1023 (by decide)
  obtain ⟨ww, hww, hwl⟩ := and_small w0 7 (by decide)
  have hnn : bits .and .i64 n0 1023 = (nn : Int) := hnn
  have hww : bits .and .i64 w0 7 = (ww : Int) := hww
  have HNl := Lib.hid hnl
  have HWl := Lib.hid hwl
  clear hP hrb hW hT hnl hwl
  go_enter Tryd.func3, Tryd.ntmps3
  go_upto_region 3 with (go_at_call 11; refine HAw.out.mono ?_; rintro e w1 ⟨rfl, hb1⟩)
  have HB1 : Hid (Below rb w w1 ∧ rb ≤ w1.heap.size) := Lib.hid ⟨by rw [← HRb.out]; exact hb1, by rw [← HRb.out]; exact hb1.size⟩
  have HN := Lib.hid (bnew_any w1)
  clear hb1 HAw
  go_wp2_with fail
  refine HN.out.mono ?_
  rintro e w2 ⟨b, rfl, hbw, hBo, hb2⟩
  have HBr : Hid (rb ≤ b ∧ b < w2.heap.size) := Lib.hid ⟨Nat.le_trans HB1.out.2 hbw, hBo.lt b (List.mem_singleton.2 rfl)⟩
  have HB2 : Hid (Below rb w w2 ∧ rb ≤ w2.heap.size) := Lib.hid ⟨HB1.out.1.trans (hb2.mono HB1.out.2), Nat.le_trans HB1.out.2 hb2.size⟩
  have HBo := Lib.hid hBo
  have HRb1 := Lib.hid (rowBlank_any (nn : Int) 3 w2)
  clear hbw hBo hb2 HN
  go_upto_region 8 with fail
  clear hnn hww
  go_wp2_with fail
  refine HRb1.out.mono ?_
  rintro e w5 ⟨v5, rfl, hO, hb5⟩
  obtain ⟨a5, c5, rfl, hi5, hlo5, hn5, hf5, hx5⟩ := hO.shape
  obtain ⟨mm, hmm⟩ : ∃ m, nearN (nn : Int) = m := ⟨_, rfl⟩
  have hmin : min (nn : Int) 1000 = (mm : Int) := by unfold nearN at hmm; omega
  have hm1000 : mm ≤ 1000 := by rw [← hmm]; exact nearN_le _
  rw [hmm] at hi5 hf5 ⊢
  have hrow : RowV .i32 (.agg #[.slice a5 (blanks mm 3).length c5, .bool true]) ⟨blanks mm 3, true⟩ w5 := ⟨a5, c5, rfl, hi5, hn5, hf5, hx5⟩
  have hn5' : (blanks mm 3).length = mm := blanks_length _ _
  rw [hn5'] at hrow ⊢
  obtain ⟨r, hr⟩ : ∃ r, (⟨blanks mm 3, true⟩ : Ro) = r := ⟨_, rfl⟩
  rw [hr] at hrow
  have HRk : Hid (r.l.length ≤ 1024) := Lib.hid (by rw [← hr]; show (blanks mm 3).length ≤ 1024; omega)
  have HRl : Hid (r.l.length ≤ 1000000) := Lib.hid (by rw [← hr]; show (blanks mm 3).length ≤ 1000000; omega)
  have HRng : Hid (AllC Rng r.l) := Lib.hid (by rw [← hr]; exact all_blanks rng_blk _ _)
  have HGl : Hid ((glyphs r).length = mm) := Lib.hid (by rw [← hr]; exact glF_blanks _ _)
  have HRt : Hid (r.wrapped = true) := Lib.hid (by rw [← hr])
  obtain ⟨q, hq⟩ : ∃ q, w5.heap.size = q := ⟨_, rfl⟩
  obtain ⟨w6, hw6⟩ : ∃ w6, (w5.alloc (.cells #[.slice a5 mm c5, .bool true] 27)).alloc (.cells #[.slice none 0 0, .slice none 0 0] 33) = w6 := ⟨_, rfl⟩
  have hb6 : Below w5.heap.size w5 w6 := by rw [← hw6]; exact ((Below.refl _ _).alloc (Nat.le_refl _) _).alloc (by rw [World.size_alloc]; omega) _
  have hs6 : w6.heap.size = q + 2 := by rw [← hw6, World.size_alloc, World.size_alloc, hq]
  have hq6 : w6.heap[q]? = some (.cells #[.slice a5 mm c5, .bool true] 27 (0, 0)) := by
    rw [← hw6, Below.heap_alloc _ _ _ (by rw [World.size_alloc]; omega), ← hq]
    exact heap_alloc_new w5 _
  have hx6 : w6.heap[q + 1]? = some (.cells #[.slice none 0 0, .slice none 0 0] 33 (0, 0)) := by
    have h := heap_alloc_new (w5.alloc (.cells #[.slice a5 mm c5, .bool true] 27)) (.cells #[.slice none 0 0, .slice none 0 0] 33)
    rw [World.size_alloc, hq, hw6] at h
    exact h
  have hb26 : Below w2.heap.size w2 w6 := hb5.trans (hb6.mono hb5.size)
  have hbq : b < q := by have h1 := HBr.out.2; have h2 := hb5.size; omega
  have HBq := Lib.hid hbq
  have HOff : Hid (∀ b' o, a5 = some ⟨b', o, none⟩ → b' ≠ b ∧ b' < q) := Lib.hid (fun b' o e => by
    have h1 := hlo5 b' o e
    have h2 := HBr.out.2
    exact ⟨by omega, by omega⟩)
  have HRow6 := Lib.hid (hrow.belowAll hb6)
  have HQ6 := Lib.hid hq6
  have HS6 := Lib.hid hs6
  have HB6 : Hid (Below rb w w6 ∧ rb ≤ w6.heap.size) := Lib.hid ⟨HB2.out.1.trans (hb26.mono HB2.out.2), Nat.le_trans HB2.out.2 hb26.size⟩
  have HF0 : Hid (LoF b q w6 ⟨[], []⟩ w6) := Lib.hid ⟨⟨[b], none, 0, 0, none, 0, 0, HBo.out.grew (KeepB.of_below (L := []) hb26) (fun p hp => by cases hp) [q + 1] (fun p hp => by
    have h := List.mem_singleton.1 hp
    have h2 := hb5.size
    exact .inr (by omega)) (fun p hp => by rw [List.mem_singleton.1 hp]; omega), fun p hp => .inl (List.mem_singleton.1 hp), RefB.nil _ _, hx6⟩, KeepB.refl _ _⟩
  have HW6 := Lib.hid hw6
  have HQq := Lib.hid hq
  have HMm := Lib.hid hm1000
  clear hO hb5 hi5 hlo5 hn5 hf5 hx5 hmm hm1000 hrow hn5' hr hq hw6 hb6 hs6 hq6 hx6 hb26 hbq HRb1 HBo
  go_upto_region 11 with fail
  rw [HW6.out, HQq.out]
  go_wp2_with fail
  go_loopw [26] (fun i wr => ∃ j : Nat, i = .int .i64 (j : Int) ∧ j ≤ ww ∧ Hid (LoF b q w6 (longB r j) wr)) (fun i _ => ww - (intOf i).toNat)
  case atStart => exact ⟨0, rfl, Nat.zero_le _, HF0⟩
  case round =>
    obtain ⟨j, rfl, hj, HF⟩ := hrel
    by_cases hlt : j < ww
    · have hd : decide (j < ww) = true := decide_eq_true hlt
      have hjI : (j : Int) < ww := by omega
      have hj7 : (j : Int) < 7 := by have := HWl.out; omega
      have hLo := longB_ok HRt.out HRng.out j
      obtain ⟨y, hy⟩ : ∃ y, longB r j = y := ⟨_, rfl⟩
      obtain ⟨y2, hy2⟩ : ∃ y2, longB r (j + 1) = y2 := ⟨_, rfl⟩
      have hyy : addB y r = y2 := by rw [← hy, ← hy2]; rfl
      rw [hy] at HF hLo
      have hcn := hLo.count
      rw [HGl.out] at hcn
      have hjm : j * mm ≤ 7 * 1000 := Nat.mul_le_mul (by omega) HMm.out
      have HYok := Lib.hid hLo.ok
      have HYr := Lib.hid hLo.rng
      have HYl : Hid (y.L.length ≤ 10000) := Lib.hid (by omega)
      have HYg : Hid (y.G.length ≤ 1024) := Lib.hid (by have := hLo.ok.g; omega)
      obtain ⟨M, la, ln, lc, ga, gn, gc, hBo, hM, hRB, hblk⟩ := HF.out.ex
      have hk0 := HF.out.keep
      have hoff : Off [b, q + 1] ⟨a5, mm, c5, true⟩ := fun _ b' o e hm => by
        have h1 := HOff.out b' o e
        simp only [List.mem_cons, List.not_mem_nil, or_false] at hm
        rcases hm with h2 | h2
        · exact h1.1 h2
        · omega
      have hoffM : Off M ⟨a5, mm, c5, true⟩ := fun _ b' o e hm => by
        have h1 := HOff.out b' o e
        have h3 := HS6.out
        rcases hM b' hm with h2 | h2
        · exact h1.1 h2
        · omega
      have hrw : RowV .i32 (.agg #[.slice a5 mm c5, .bool true]) r wr := RowV.keptB (u := ⟨a5, mm, c5, true⟩) HRow6.out hoff hk0
      have hqb : wr.heap[q]? = some (.cells #[.slice a5 mm c5, .bool true] 27 (0, 0)) := (hk0.block q (by have := HS6.out; omega) (fun hm => by
        have h1 := HBq.out
        simp only [List.mem_cons, List.not_mem_nil, or_false] at hm
        omega)).trans HQ6.out
      have hqM : q ∉ M := fun hm => by
        have h1 := HBq.out
        have h3 := HS6.out
        rcases hM q hm with h2 | h2 <;> omega
      have hxM : q + 1 ∉ M := fun hm => by
        have h1 := HBq.out
        have h3 := HS6.out
        rcases hM (q + 1) hm with h2 | h2 <;> omega
      have k0 : wr.cell? ⟨q, 0, none⟩ = some (.slice a5 mm c5) := by rw [cell_block hqb]; rfl
      have k1 : wr.cell? ⟨q, 1, none⟩ = some (.bool true) := by rw [cell_block hqb]; rfl
      obtain ⟨p8, hp8⟩ : ∃ p, wr.heap.size = p := ⟨_, rfl⟩
      obtain ⟨w8, hw8⟩ : ∃ w8, wr.alloc (.cells #[.slice a5 mm c5, .bool true] 27) = w8 := ⟨_, rfl⟩
      have hb8 : Below wr.heap.size wr w8 := by rw [← hw8]; exact (Below.refl _ _).alloc (Nat.le_refl _) _
      have hR8 : RowsL .i32 M (some ⟨p8, 0, none⟩) 1 1 [r] w8 := by
        rw [← hw8, ← hp8]
        exact rows_one wr hrw hoffM (fun p hp => hBo.lt p hp)
      have hBw8 : Below rb w w8 := (hk0.below (fun i hi => by
        have h1 := HBr.out
        have h2 := HBq.out
        simp only [List.mem_cons, List.not_mem_nil, or_false] at hi
        omega) HB6.out.1 HB6.out.2).trans (hb8.mono (Nat.le_trans HB6.out.2 hk0.size))
      have hadd := badd_any (some ⟨p8, 0, none⟩) 1 1 [r] w8 (hBo.below hb8) HYok.out HYr.out hR8 (fun t ht => by rw [List.mem_singleton.1 ht]; exact HRng.out) (fun t ht => by rw [List.mem_singleton.1 ht]; exact HRk.out) (by have := HYl.out; show _ + 2 * 1 ≤ 800000; omega) (by show 1 ≤ 1000; decide) (S.tab_of HT.out (by rw [HRb.out]; exact hBw8)) (fun hm => by
        have h2 := HHf.out
        have h3 := HBr.out
        have h4 := HB6.out.2
        rcases hM _ hm with h1 | h1 <;> omega)
      rw [show addsB y [r] = addB y r from rfl, hyy] at hadd
      have hnext : ∀ (w9 : World) (M9 : List Nat), Bo b M9 [q + 1] y2 w9 → KeepB M w8 w9 → (∀ p ∈ M9, p ∈ M ∨ w8.heap.size ≤ p) → Hid (RowV .i32 (.agg #[.slice a5 mm c5, .bool true]) r w9 ∧ w9.heap[q]? = some (.cells #[.slice a5 mm c5, .bool true] 27 (0, 0)) ∧ w9.heap[q + 1]? = some (.cells #[.slice la ln lc, .slice ga gn gc] 33 (0, 0)) ∧ RefB ((q + 1) :: M9) (.agg #[.slice la ln lc, .slice ga gn gc]) y w9 ∧ (∀ p ∈ (q + 1) :: M9, p < w9.heap.size) ∧ KeepB M wr w9 ∧ ∀ p ∈ M9, p ∈ M ∨ wr.heap.size ≤ p) := fun w9 M9 e1 e2 e3 => Lib.hid (by
        have hkw : KeepB M wr w9 := (KeepB.of_below hb8).trans e2
        have e3' : ∀ p ∈ M9, p ∈ M ∨ wr.heap.size ≤ p := fun p hp => (e3 p hp).imp id (fun h => Nat.le_trans hb8.size h)
        have hq1 := (Array.getElem?_eq_some_iff.1 hqb).1
        have hx1 := (Array.getElem?_eq_some_iff.1 hblk).1
        refine ⟨RowV.keptB (u := ⟨a5, mm, c5, true⟩) hrw hoffM hkw, (hkw.block q hq1 hqM).trans hqb, (hkw.block (q + 1) hx1 hxM).trans hblk, hRB.kept (fun p hp => List.mem_cons_of_mem _ hp) hkw (fun p hp => ?_), fun p hp => ?_, hkw, e3'⟩
        · rcases List.mem_cons.1 hp with h | h
          · exact .inl (by rw [h]; exact List.mem_cons_self ..)
          · exact (e3' p h).imp (fun h => List.mem_cons_of_mem _ h) id
        · rcases List.mem_cons.1 hp with h | h
          · rw [h]; exact Nat.lt_of_lt_of_le hx1 hkw.size
          · exact e1.lt p h)
      have HAdd := Lib.hid hadd
      have HNx := Lib.hid hnext
      have HW8 := Lib.hid hw8
      have HP8 := Lib.hid hp8
      have HY2 := Lib.hid hyy
      have HYy := Lib.hid hy2
      have HK0 := Lib.hid hk0
      have HM := Lib.hid hM
      clear hLo hy hy2 hyy hcn hjm hBo hM hRB hblk hk0 hoff hoffM hrw hqb hqM hxM hp8 hw8 hb8 hR8 hBw8 hadd hnext HF
      go_wp2_with fail
      rw [HW8.out, HP8.out]
      refine HAdd.out.mono ?_
      rintro e w9 ⟨rfl, M9, hB9, hk9, hM9⟩
      have HA9 := HNx.out w9 M9 hB9 hk9 hM9
      obtain ⟨X, hX⟩ : ∃ X, (q + 1) :: M9 = X := ⟨_, rfl⟩
      have h9 := HA9.out
      rw [hX] at h9
      have HRow9 := Lib.hid h9.1
      have HBlk := Lib.hid h9.2.2.1
      have HLin := Lib.hid h9.2.2.2.1.of.1
      have HPi := Lib.hid h9.2.2.2.1.of.2
      have HXl := Lib.hid h9.2.2.2.2.1
      have HXe := Lib.hid hX
      have HB9 := Lib.hid hB9
      have HS9 : Hid (q < w9.heap.size ∧ q + 1 < w9.heap.size) := Lib.hid ⟨(Array.getElem?_eq_some_iff.1 h9.2.1).1, (Array.getElem?_eq_some_iff.1 h9.2.2.1).1⟩
      have HC : Hid (w9.cell? ⟨q, 0, none⟩ = some (.slice a5 mm c5) ∧ w9.cell? ⟨q, 1, none⟩ = some (.bool true) ∧ w9.cell? ⟨q + 1, 0, none⟩ = some (.slice la ln lc) ∧ w9.cell? ⟨q + 1, 1, none⟩ = some (.slice ga gn gc)) := Lib.hid ⟨by rw [cell_block h9.2.1]; rfl, by rw [cell_block h9.2.1]; rfl, by rw [cell_block h9.2.2.1]; rfl, by rw [cell_block h9.2.2.1]; rfl⟩
      clear h9 hB9 hk9 hM9 hX k0 k1 HAdd HNx
      go_upto_region 14 with fail
      refine Go.Proofs.YtkggmcnocpgnbaaDoor.R.wp_region_due [2, 3, 4] [1, 0, 1, 2, 3] (by kernel_rfl) (LoS w9 q X r y2) (fun _ _ => True) (LoOk la ln lc ga gn gc a5 mm c5) (by rfl) (by kernel_rfl) (by kernel_rfl) (by kernel_rfl) (by kernel_rfl) ?hcong ?hOk ?hop ?hdone ?h0
      case hcong => exact fun k f f2 u hs hst => LoS.cong (fun hk => hs 34 (Go.Proofs.YtkggmcnocpgnbaaDoor.R.mem_slots (by subst hk; kernel_rfl))) (fun hk => hs 35 (Go.Proofs.YtkggmcnocpgnbaaDoor.R.mem_slots (by subst hk; kernel_rfl))) hst
      case hOk => intro i u w1 w2 h hr; unfold LoOk at h ⊢; split <;> first | exact True.intro | exact h
      case h0 => exact (Below.refl _ _).drew
      case hop =>
        refine ⟨?_, ?_, ?_, ?_, ?_, trivial⟩
        · intro k z v hk hst hag hdep
          refine .inl ⟨rfl, fun K hK => ?_⟩
          have d7 : z.tmps.getD 7 undef = .pointer (some ⟨q + 1, 0, none⟩) := hag.2.2 7 (by kernel_rfl)
          have e7 := d7
          rw [Array.getD_eq_getD_getElem?] at e7
          have hB := LoS.base1 hk hst
          have l0 := (hB.cell (p := ⟨q + 1, 0, none⟩) HS9.out.2).trans HC.out.2.2.1
          have l1 := (hB.cell (p := ⟨q + 1, 1, none⟩) HS9.out.2).trans HC.out.2.2.2
          have HSt := Lib.hid hst
          clear hdep hag hst
          go_simp
          exact hK _ _ trivial rfl HSt.out
        · intro k z v hk hst hag hdep
          refine .inl ⟨rfl, fun K hK => ?_⟩
          have d6 : z.tmps.getD 6 undef = .pointer (some ⟨q, 0, none⟩) := hag.2.2 6 (by kernel_rfl)
          have e6 := d6
          rw [Array.getD_eq_getD_getElem?] at e6
          obtain rfl : k = 0 := by have : k ≤ 0 := hk; omega
          have hB : Below w9.heap.size w9 v := hst
          have l0 := (hB.cell (p := ⟨q, 0, none⟩) HS9.out.1).trans HC.out.1
          have l1 := (hB.cell (p := ⟨q, 1, none⟩) HS9.out.1).trans HC.out.2.1
          have HSt := Lib.hid hst
          clear hdep hag hst
          go_simp
          exact hK _ _ trivial rfl HSt.out
        · intro z v hst hag hdep
          refine ⟨rfl, fun K hK => ?_⟩
          have d33 : z.tmps.getD 33 undef = .agg #[.slice a5 mm c5, .bool true] := hdep { on := 1, ground := .data } (by simp) rfl _ _ rfl rfl
          have e33 := d33
          rw [Array.getD_eq_getD_getElem?] at e33
          have hB : Below w9.heap.size w9 v := hst
          have hrv := HRow9.out.belowAll hB
          have hsz : 34 < z.tmps.size := by rw [hag.2.1]; show 34 < 76; decide
          have HCl := Lib.hid (toldRow_any hrv HRng.out HRl.out)
          have HSt := Lib.hid hB
          clear hdep hag hB hst hrv
          go_simp
          refine HCl.out.mono ?_
          rintro e w' ⟨a2, n2, c2, rfl, hr2, hb⟩
          exact hK _ _ trivial True.intro ⟨HSt.out.trans (hb.mono HSt.out.size), a2, n2, c2, Go.Proofs.YtkggmcnocpgnbaaDoor.R.slot_same hsz, hr2⟩
        · intro z v hst hag hdep
          refine ⟨rfl, fun K hK => ?_⟩
          have d32 : z.tmps.getD 32 undef = .agg #[.slice la ln lc, .slice ga gn gc] := hdep { on := 0, ground := .data } (by simp) rfl _ _ rfl rfl
          have e32 := d32
          rw [Array.getD_eq_getD_getElem?] at e32
          obtain ⟨hB, a2, n2, c2, f34, h34⟩ := hst
          have d34 : z.tmps.getD 34 undef = .agg #[.slice a2 n2 c2, .bool true] := f34
          have e34 := d34
          rw [Array.getD_eq_getD_getElem?] at e34
          have hsz : 35 < z.tmps.size := by rw [hag.2.1]; show 35 < 76; decide
          have HCl := Lib.hid (refAdd_any X y la ln lc ga gn gc a2 n2 c2 true r v (fun p hp => Nat.lt_of_lt_of_le (HXl.out p hp) hB.size) (HLin.out.below hB) (HPi.out.belowAll hB) h34 HYl.out HYg.out HRk.out)
          have HSt := Lib.hid hB
          clear hdep hag hB h34 f34
          go_simp
          refine HCl.out.mono ?_
          rintro e w' ⟨v2, rfl, hrb, hb⟩
          rw [HY2.out] at hrb
          exact hK _ _ trivial True.intro ⟨HSt.out.trans (hb.mono HSt.out.size), v2, Go.Proofs.YtkggmcnocpgnbaaDoor.R.slot_same hsz, hrb⟩
        · intro z v hst hag hdep
          refine ⟨rfl, fun K hK => ?_⟩
          have d7 : z.tmps.getD 7 undef = .pointer (some ⟨q + 1, 0, none⟩) := hag.2.2 7 (by kernel_rfl)
          have e7 := d7
          rw [Array.getD_eq_getD_getElem?] at e7
          obtain ⟨hB, v35, f35, h35⟩ := hst
          have d35 : z.tmps.getD 35 undef = v35 := f35
          obtain ⟨xa, xn, xc, ya, yn, yc, rfl, hlo, hpi, hpo⟩ := h35
          have e35 := d35
          rw [Array.getD_eq_getD_getElem?] at e35
          have hblk := (hB.block (q + 1) HS9.out.2).trans HBlk.out
          have s0 := cell_block hblk 0
          have s1 := cell_block hblk 1
          have f0 := frozen_block hblk 0
          have f1 := frozen_block hblk 1
          have HSt := Lib.hid hB
          have HRb9 : Hid (RefB X (.agg #[.slice xa xn xc, .slice ya yn yc]) y2 v) := Lib.hid ⟨xa, xn, xc, ya, yn, yc, rfl, hlo, hpi, hpo⟩
          clear hdep hag hB f35 hlo hpi hpo hblk
          go_simp
          exact hK undef _ trivial trivial ⟨v, xa, xn, xc, ya, yn, yc, HSt.out, HRb9.out, rfl⟩
      case hdone =>
        intro z v hst hag hok
        obtain ⟨u0, xa, xn, xc, ya, yn, yc, hBu, hRu, rfl⟩ := hst
        have HE : Hid (LoF b q w6 y2 ((u0.setCell ⟨q + 1, 0, none⟩ (.slice xa xn xc)).setCell ⟨q + 1, 1, none⟩ (.slice ya yn yc))) := Lib.hid (LoF.next HBq.out (by have := HS6.out; omega) HK0.out HM.out HB9.out HA9.out.2.2.2.2.2.1 HA9.out.2.2.2.2.2.2 hBu (by rw [HXe.out]; exact hRu) HBlk.out)
        rw [← HYy.out] at HE
        obtain ⟨wE, hwE⟩ : ∃ wE, (u0.setCell ⟨q + 1, 0, none⟩ (.slice xa xn xc)).setCell ⟨q + 1, 1, none⟩ (.slice ya yn yc) = wE := ⟨_, rfl⟩
        rw [hwE] at HE hok ⊢
        clear hBu hRu hwE
        obtain ⟨uu, hu, hzz⟩ := Go.Proofs.YtkggmcnocpgnbaaDoor.R.agree_frame [32, 33, 34, 35] rfl hag

        subst hzz
        simp only [List.foldl_cons, List.foldl_nil]
        rw []
        clear  hu hag hok
        try dsimp only [Exit.then]
        simp only [List.setIfInBounds_toArray, List.set_cons_succ, List.set_cons_zero]
        generalize uu 32 = u32', uu 33 = u33', uu 34 = u34', uu 35 = u35'
        clear uu
        rename_i K hK
        refine hK _ _ ?_
        clear hlt
        go_wp2_with fail
        go_roundw
        case rel => exact ⟨j + 1, by go_num, by omega, HE⟩
        case measure => simp [intOf]; omega
    · obtain rfl : j = ww := by omega
      have hd : decide (j < j) = false := by simp
      have hj7 : j ≤ 7 := HWl.out
      have hLo := longB_ok HRt.out HRng.out j
      obtain ⟨y, hy⟩ : ∃ y, longB r j = y := ⟨_, rfl⟩
      rw [hy] at HF hLo
      have hcn := hLo.count
      rw [HGl.out] at hcn
      have hjm : j * mm ≤ 7 * 1000 := Nat.mul_le_mul hj7 HMm.out
      obtain ⟨M, la, ln, lc, ga, gn, gc, hBo, hM, hRB, hblk⟩ := HF.out.ex
      have hBw : Below rb w wr := HF.out.keep.below (fun i hi => by
        have h1 := HBr.out
        have h2 := HBq.out
        simp only [List.mem_cons, List.not_mem_nil, or_false] at hi
        omega) HB6.out.1 HB6.out.2
      have HBw : Hid (Below rb w wr ∧ rb ≤ wr.heap.size) := Lib.hid ⟨hBw, Nat.le_trans HB6.out.2 HF.out.keep.size⟩
      have HBo := Lib.hid hBo
      have HLo := Lib.hid hLo
      have HLin := Lib.hid hRB.of.1.linR
      have HPi := Lib.hid hRB.of.2
      have HBlk := Lib.hid hblk
      have hbg := bbegun_any wr hBo (by have := hLo.ok.g; omega)
      have hln := blen_any wr hBo
      obtain ⟨nl, hnl⟩ : ∃ n, y.L.length = n := ⟨_, rfl⟩
      obtain ⟨gg, hgg⟩ : ∃ n, y.G.length = n := ⟨_, rfl⟩
      rw [hnl, hgg] at hcn
      rw [hnl] at hln
      have HCn := Lib.hid hcn
      have HNy := Lib.hid hnl
      have HGg := Lib.hid hgg
      have HBg := Lib.hid hbg
      have HG1024 : Hid (gg < 1024) := Lib.hid (by rw [← hgg]; exact hLo.ok.g)
      have hnl7 : (nl : Int) ≤ 7 := by omega
      have hggI : (gg : Int) < 1024 := by have := HG1024.out; omega
      have htot : gg + 1024 * nl = j * mm := by omega
      have HTot := Lib.hid htot
      have hjmI : (mm : Int) * (j : Int) ≤ 7000 := by
        have h1 : ((j * mm : Nat) : Int) ≤ 7000 := by omega
        rw [Int.natCast_mul] at h1
        rw [Int.mul_comm]
        exact h1
      have hjm0 : 0 ≤ (mm : Int) * (j : Int) := Int.mul_nonneg (by omega) (by omega)
      have hLen := hln
      have HLen := Lib.hid hLen
      clear hLo hy hcn hjm hBo hM hRB hblk hBw hbg hln hLen hnl hgg htot HF hlt
      go_wp2_with fail
      refine HBg.out.mono ?_
      rintro e w12 ⟨v12, rfl, hq12, hb12⟩
      obtain ⟨a12, c12, rfl, -⟩ := hq12.shape
      rw [HGg.out]
      have HB12 := Lib.hid hb12
      have HLen2 : Hid (Calls Tryd.prog 18 #[.pointer (some ⟨b, 0, none⟩)] w12 fun e w' => e = .returned (.int .i64 (nl : Int)) ∧ w12 = w') := Lib.hid (by
        have h := blen_any w12 (HBo.out.below hb12)
        rw [HNy.out] at h
        exact h)
      clear hq12 hb12 HBg HLen
      go_wp2_with fail
      refine HLen2.out.mono ?_
      rintro e w13 ⟨rfl, rfl⟩
      go_wp2_with fail
      obtain ⟨wv, hwv⟩ : ∃ wv, wv = w12 := ⟨_, rfl⟩
      subst hwv
      clear hd
      go_loopw [8, 42] (fun s i wr => ∃ t k : Nat, s = .int .i64 (t : Int) ∧ i = .int .i64 (k : Int) ∧ k ≤ nl ∧ t = gg + 1024 * k ∧ Hid (Below wv.heap.size wv wr)) (fun _ i _ => nl - (intOf i).toNat)
      case atStart => exact ⟨gg, 0, rfl, rfl, Nat.zero_le _, rfl, Lib.hid (Below.refl _ _)⟩
      case round =>
        obtain ⟨t, k, rfl, rfl, hk, ht, HF⟩ := hrel
        by_cases hlt : k < nl
        · have hd : decide (k < nl) = true := decide_eq_true hlt
          have hkI : (k : Int) < nl := by omega
          have htI : (t : Int) ≤ 10000 := by omega
          have hkx : k < y.L.length := by rw [HNy.out]; exact hlt
          obtain ⟨lk, hlk⟩ : ∃ l, y.L[k]? = some l := ⟨_, List.getElem?_eq_getElem hkx⟩
          have hl := bline_any k lk wr ((HBo.out.below HB12.out).below HF.out) hlk (by have := HLo.out.len lk (List.mem_of_getElem? hlk); omega) (by rw [HNy.out]; omega)
          have HL := Lib.hid hl
          have HLk : Hid (lk.length = 1024) := Lib.hid (HLo.out.len lk (List.mem_of_getElem? hlk))
          clear hkx hlk hl
          go_wp2_with fail
          refine HL.out.mono ?_
          rintro e w14 ⟨v14, rfl, hq14, hb14⟩
          obtain ⟨a14, c14, rfl, -⟩ := hq14.shape
          rw [HLk.out]
          have HE : Hid (Below wv.heap.size wv w14) := Lib.hid (HF.out.trans (hb14.mono HF.out.size))
          clear hq14 hb14 HL HF
          go_wp2_with fail
          go_roundw
          case rel => exact ⟨gg + 1024 * k + 1024, k + 1, congrArg (Value.int .i64) (by omega), by go_num, by omega, by omega, HE⟩
          case measure => simp [intOf]; omega
        · obtain rfl : k = nl := by omega
          have hd : decide (k < k) = false := by simp
          have htot : ((t : Nat) : Int) = (mm : Int) * (j : Int) := by
            have h := HTot.out
            rw [← ht] at h
            rw [h, Int.natCast_mul, Int.mul_comm]
          have q3 : ((t : Int) == (mm : Int) * (j : Int)) = true := by rw [beq_iff_eq]; exact htot
          have hbwr : Below wr.heap.size wr wr := Below.refl _ _
          have hBr := (HBo.out.below HB12.out).below HF.out
          have hall := HB12.out.trans (HF.out.mono HB12.out.size)
          have HIs := Lib.hid (lawIs12_any la ln lc ga gn gc wr hBr (HLin.out.belowAll hall) (HPi.out.belowAll hall) HLo.out.rng HLo.out.rngL (by rw [HGg.out]; omega) (by rw [HNy.out]; omega) (fun l hl => by rw [HLo.out.len l hl]; decide))
          have hblk := (hall.block (q + 1) (Array.getElem?_eq_some_iff.1 HBlk.out).1).trans HBlk.out
          have k0 : wr.cell? ⟨q + 1, 0, none⟩ = some (.slice la ln lc) := by rw [cell_block hblk]; rfl
          have k1 : wr.cell? ⟨q + 1, 1, none⟩ = some (.slice ga gn gc) := by rw [cell_block hblk]; rfl
          have HBr2 := Lib.hid hBr
          have HAll := Lib.hid hall
          clear hbwr hBr hall hblk htot ht HF hlt
          go_wp2_with fail
          refine HIs.out.mono ?_
          rintro e w15 ⟨rfl, hb15⟩
          have HBg := Lib.hid (bbegun_any w15 (HBr2.out.below hb15) (by rw [HGg.out]; omega))
          have HB15 := Lib.hid (HAll.out.trans (hb15.mono HAll.out.size))
          clear hb15 HIs HBr2 HAll
          go_wp2_with fail
          refine HBg.out.mono ?_
          rintro e w16 ⟨v16, rfl, hq16, hb16⟩
          obtain ⟨a16, c16, rfl, -⟩ := hq16.shape
          rw [HGg.out]
          have hend : Hid (P (.returned (.bool true)) w16) := Lib.hid (by rw [← HP.out]; exact ⟨rfl, (HBw.out.1.trans (HB15.out.mono HBw.out.2)).trans (hb16.mono (Nat.le_trans HBw.out.2 HB15.out.size))⟩)
          have q4 : decide ((gg : Int) < 1024) = true := decide_eq_true hggI
          clear hq16 hb16 HBg
          go_wp2_with fail
          exact hend.out

end Go.Proofs.YtkggmcnocpgnbaaDoor.K
