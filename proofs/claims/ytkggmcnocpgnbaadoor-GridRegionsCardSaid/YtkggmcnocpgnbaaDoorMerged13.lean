/- The iterator of rows from the lowest one: slices.Backward, and grid.upwards over it. -/
import Derived.Test.YtkggmcnocpgnbaaDoorMerged10
import Derived.Test.YtkggmcnocpgnbaaDoorMerged0
import Derived.Test.YtkggmcnocpgnbaaDoorMerged8
namespace Go.Proofs.YtkggmcnocpgnbaaDoor.K
open Go.RowKit Go.Shelf

attribute [local go_sem] Oper.semAt_some

theorem backw_in (n : Nat) (a : Option Addr) (len cap : Nat) (w : World) :
    CallsIn Fence.wide n Tryd.prog 106 #[.slice a len cap] w fun e w' => e = .returned (.func (.func 119) #[] #[.pointer (some ⟨w.heap.size, 0, none⟩)]) ∧ w' = w.alloc (.cells #[.slice a len cap] 66) := by
  refine callsIn_of_wp Tryd.func106 rfl trivial ?_ rfl
  simp only [Tryd.ntmps106, List.size_toArray, List.length_cons, List.length_nil, Nat.reduceAdd, Nat.reduceSub, Array.replicate_succ, Array.replicate_zero, List.push_toArray, List.append_toArray, List.nil_append, List.cons_append]
  gi_wp2
  go_ret
  exact ⟨rfl, rfl⟩
theorem up_in (n : Nat) (a : Option Addr) (len cap : Nat) (w : World) :
    CallsIn Fence.wide n Tryd.prog 77 #[.slice a len cap] w fun e w' => e = .returned (.func (.func 105) #[] #[.pointer (some ⟨w.heap.size, 0, none⟩)]) ∧ w' = w.alloc (.cells #[.slice a len cap] 66) := by
  refine callsIn_of_wp Tryd.func77 rfl trivial ?_ rfl
  simp only [Tryd.ntmps77, List.size_toArray, List.length_cons, List.length_nil, Nat.reduceAdd, Nat.reduceSub, Array.replicate_succ, Array.replicate_zero, List.push_toArray, List.append_toArray, List.nil_append, List.cons_append]
  gi_wp2
  go_ret
  exact ⟨rfl, rfl⟩
theorem up_any (a : Option Addr) (len cap : Nat) (w : World) :
    Calls Tryd.prog 77 #[.slice a len cap] w fun e w' => e = .returned (.func (.func 105) #[] #[.pointer (some ⟨w.heap.size, 0, none⟩)]) ∧ w' = w.alloc (.cells #[.slice a len cap] 66) :=
  (callsIn_wide (n := 2)).1 (up_in 2 a len cap w)

/-- the rows, from the last one -/
def downIx {α : Type} (its : List α) : List (Nat × α) := (its.zipIdx.map fun p => (p.2, p.1)).reverse
theorem downIx_length {α : Type} (its : List α) : (downIx its).length = its.length := by simp [downIx]
theorem downIx_snd {α : Type} (its : List α) : (downIx its).map Prod.snd = its.reverse := by
  unfold downIx
  rw [List.map_reverse, List.map_map]
  congr 1
  have : ((Prod.snd : Nat × α → α) ∘ fun p : α × Nat => (p.2, p.1)) = Prod.fst := rfl
  rw [this]
  exact List.zipIdx_map_fst 0 its
theorem downIx_get {α : Type} (its : List α) (j : Nat) (h : j < its.length) : (downIx its)[its.length - 1 - j]? = some (j, its[j]) := by
  unfold downIx
  rw [List.getElem?_reverse (by simp; omega)]
  simp only [List.length_map, List.length_zipIdx]
  rw [show its.length - 1 - (its.length - 1 - j) = j by omega, List.getElem?_map, List.getElem?_zipIdx, List.getElem?_eq_getElem h]
  simp

set_option maxRecDepth 100000 in
set_option maxHeartbeats 4000000 in
theorem back_own (w0 : World) (n : Nat) (hn : 2 ≤ n) (m B : Nat) (a : Option Addr) (len cap : Nat) (its : List (It w0)) (hlen : (its.length : Int) ≤ 1000000) (w : World) (hL : LooksV B a len cap (its.map It.u) w) (hB : m < B) (hm : ∀ b ∈ blkV a its, b < m) :
    SeqOwn n 119 #[.pointer (some ⟨B, 0, none⟩)] (fun x : Nat × It w0 => #[.int .i64 (x.1 : Int), x.2.u.val]) (downIx its) m w := fun l J W hW hmW hJ hY h0 => by
  obtain ⟨N, hN⟩ : ∃ N, its.length = N := ⟨_, rfl⟩
  rw [hN] at hlen
  have hl : len = N := by rw [hL.rs.len, List.length_map, hN]
  subst hl
  rw [downIx_length] at hY
  have hLW := hL.below hW
  have hlk : ∀ V V', LooksV B a len cap (its.map It.u) V → KpU m V V' → LooksV B a len cap (its.map It.u) V' := by
    intro V V' h hk
    refine ⟨(hk.2.2 B _ _ _ h.bx hB (by decide)).trans h.bx, ?_, fun b hb => Nat.lt_of_lt_of_le (h.lt b hb) hk.1⟩
    by_cases hu : its = []
    · exact ⟨h.rs.len, h.rs.fit, h.rs.top, .inl (by rw [hu]; rfl)⟩
    · exact h.rs.blocks hk.1 (fun b off e hl => hk.2.1 b (hm b (blkV_some hu e)) hl)
  have HLk := Lib.hid hlk
  have HN := Lib.hid hN
  have HY := Lib.hid hY
  have HJ := Lib.hid hJ
  have HL := Lib.hid hLW
  have hs := hLW.bx.cell
  have hszb : W.heap.size ≤ W.heap.size := Nat.le_refl _
  obtain ⟨base, hbase⟩ : ∃ base, W.heap.size = base := ⟨_, rfl⟩
  have hszb : base ≤ W.heap.size := by omega
  rw [hbase] at HJ HY
  clear hY hJ hL hLW hN hbase hlk hW hmW
  refine callsIn_of_wp Tryd.func119 rfl trivial ?_ rfl
  simp only [Tryd.ntmps119, List.size_toArray, List.length_cons, List.length_nil, Nat.reduceAdd, Nat.reduceSub, Array.replicate_succ, Array.replicate_zero, List.push_toArray, List.append_toArray, List.nil_append, List.cons_append]
  gi_wp2
  clear hs
  gi_loopw [3] (fun i wr => ∃ j : Nat, i = .int .i64 ((j : Int) - 1) ∧ j ≤ len ∧ base ≤ wr.heap.size ∧ Hid (LooksV B a len cap (its.map It.u) wr ∧ J ((downIx its).take (len - j)) wr)) (fun i _ => (intOf i + 1).toNat)
  case atStart => exact ⟨len, by go_num, by omega, hszb, Lib.hid ⟨HL.out, by rw [Nat.sub_self]; exact h0⟩⟩
  case round =>
    rename_i wr
    obtain ⟨j, rfl, hj, hbw, HF⟩ := hrel
    by_cases hlt : 0 < j
    · obtain ⟨k, rfl⟩ : ∃ k, j = k + 1 := ⟨j - 1, by omega⟩
      have hk1 : ((k + 1 : Nat) : Int) - 1 = (k : Int) := by omega
      have d1 : decide ((k : Int) ≥ 0) = true := decide_eq_true (by omega)
      have d2 : decide ((0 : Int) ≤ (k : Int)) = true := decide_eq_true (by omega)
      rw [hk1]
      have hjl : k < its.length := by rw [HN.out]; omega
      have hjm : (its.map It.u)[k]? = some its[k].u := by rw [List.getElem?_map, List.getElem?_eq_getElem hjl]; rfl
      obtain ⟨b, off, rfl, hbl, hI⟩ := HF.out.1.rs.at_.resolve_left (by intro e; rw [e] at hjm; simp at hjm)
      obtain ⟨hc0, hc1⟩ := hI k _ hjm
      have hget := downIx_get its k hjl
      rw [HN.out] at hget
      have hT : (downIx its).take (len - k) = (downIx its).take (len - (k + 1)) ++ [(k, its[k])] := by
        rw [show len - k = (len - (k + 1)) + 1 by omega, List.take_add_one, show len - (k + 1) = len - 1 - k by omega, hget]
        rfl
      obtain ⟨x, hx⟩ : ∃ x, its[k] = x := ⟨_, rfl⟩
      rw [hx] at hc0 hc1 hT
      have HT := Lib.hid hT
      obtain ⟨fn, tmps, assign, body, hy, hR⟩ := HY.out ((downIx its).take (len - (k + 1))) (k, x) wr HF.out.2 (by rw [List.length_take, downIx_length, HN.out]; omega)
      rw [← HT.out] at hR
      unfold Rv.val at hy
      have HR := Lib.hid hR
      obtain ⟨ua, un, uc, ub, hu⟩ : ∃ ua un uc ub, x.u = ⟨ua, un, uc, ub⟩ := ⟨_, _, _, _, rfl⟩
      simp only at hy
      rw [hu] at hc0 hc1 hy
      simp only at hc0 hc1 hy
      have hs := HF.out.1.bx.cell
      have hkl : (k : Int) < len := by omega
      clear hI hjl hbl hjm hR hx hu hget hT
      gi_wp2_with fail
      refine ⟨fun _ => by omega, HR.out.mono ?_⟩
      rintro e W' ⟨rfl, hJ', hk⟩
      have hb' : base ≤ W'.heap.size := Nat.le_trans hbw hk.1.1
      have HF' := Lib.hid (And.intro (HLk.out _ _ HF.out.1 hk.1) hJ')
      clear hJ' hk hs hc0 hc1
      gi_wp2
      go_roundw
      case rel => exact ⟨k, by go_num, by omega, hb', HF'⟩
      case measure => first | (simp [intOf]; done) | (simp [intOf]; omega)
    · obtain rfl : j = 0 := by omega
      have hfin : (downIx its).take (len - 0) = downIx its := by rw [Nat.sub_zero, ← HN.out, ← downIx_length its]; exact List.take_length
      have HFin := Lib.hid hfin
      have d1 : decide (((0 : Nat) : Int) - 1 ≥ 0) = false := by decide
      clear hfin
      gi_wp2
      go_end0
      exact ⟨⟨_, rfl⟩, by have h := HF.out.2; rwa [HFin.out] at h⟩
theorem roundIn_any {n n' l l' : Nat} {P : Program} {f : FuncId} {tmps : Array Value} {assign body : Code} {w : World} {R : Ending → World → Prop} (h : RoundIn Fence.wide n P l f tmps assign body w R) : RoundIn (Fence.wide.inRound l') n' P l f tmps assign body w R :=
  ⟨trivial, fun c cs _ => h.2 c cs (room_wide _)⟩

set_option maxRecDepth 100000 in
set_option maxHeartbeats 4000000 in
theorem upw_own (w0 : World) (n : Nat) (hn : 6 ≤ n) (m B : Nat) (a : Option Addr) (len cap : Nat) (its : List (It w0)) (hlen : (its.length : Int) ≤ 1000000) (w : World) (hL : LooksV B a len cap (its.map It.u) w) (hm : ∀ b ∈ lookV B a its, b < m) :
    SeqOwn n 105 #[.pointer (some ⟨B, 0, none⟩)] (fun x : It w0 => #[x.u.val]) its.reverse m w := fun l J W hW hmW hJ hY h0 => by
  have h1 : 1 ≤ n := by omega
  have hLW := hL.below hW
  have hs := hLW.bx.cell
  have hBl := hLW.bx.lt
  refine callsIn_of_wp_marks Tryd.func105 rfl trivial ?_ rfl
  simp only [Tryd.ntmps105, List.size_toArray, List.length_cons, List.length_nil, Nat.reduceAdd, Nat.reduceSub, Array.replicate_succ, Array.replicate_zero, List.push_toArray, List.append_toArray, List.nil_append, List.cons_append]
  obtain ⟨Y, hY0⟩ : ∃ Y, W.heap.size = Y := ⟨_, rfl⟩
  obtain ⟨WY, hWY⟩ : ∃ WY, W.alloc (.cells #[.func (.yield l) #[] #[]] 90) = WY := ⟨_, rfl⟩
  have bY : Boxed WY Y 90 (.func (.yield l) #[] #[]) := by rw [← hWY, ← hY0]; exact Boxed.new W _ _
  have hbY : Below W.heap.size W WY := by rw [← hWY]; exact (Below.refl _ _).alloc (Nat.le_refl _) _
  have hsY : WY.heap.size = Y + 1 := by rw [← hWY, World.size_alloc, hY0]
  have hLY := hLW.below hbY
  have hsy := hLY.bx.cell
  have hcy := bY.cell
  have HWY := Lib.hid hWY
  have HY0 := Lib.hid hY0
  clear hs
  gi_wp2_with fail
  try rw [HWY.out, HY0.out]
  gi_wp2_with fail
  refine ⟨by first | trivial | omega, ?_⟩
  refine (backw_in (n - 1) a len cap _).mono ?_
  rintro e w' ⟨rfl, rfl⟩
  obtain ⟨W2, hW2⟩ : ∃ W2, WY.alloc (.cells #[.slice a len cap] 66) = W2 := ⟨_, rfl⟩
  have hs2 : W2.heap.size = Y + 2 := by rw [← hW2, World.size_alloc, hsY]
  have hb2 : Below WY.heap.size WY W2 := by rw [← hW2]; exact (Below.refl _ _).alloc (Nat.le_refl _) _
  have hL2 := looksV_new hLY.rs
  rw [hW2, hsY] at hL2
  rw [hW2, hsY]
  have bY2 : Boxed W2 Y 90 (.func (.yield l) #[] #[]) := by rw [← hW2]; exact bY.alloc _
  have hJ2 : J [] W2 := by rw [← hW2]; exact hJ.alloc _ (by rw [← HWY.out]; exact hJ.alloc _ h0)
  have hJm : OwnFrom W2.heap.size J := fun s X Z row hs hg hr => hJ s X Z row hs hg (fun r e => ⟨by have := (hr r e).1; omega, (hr r e).2⟩)
  have HJ0 := Lib.hid hJ
  have HJm := Lib.hid hJm
  have HYy := Lib.hid hY
  have HL2 := Lib.hid hL2
  have HB2 := Lib.hid bY2
  have HJ2 := Lib.hid hJ2
  clear hJ hJm hY hL2 bY2 hJ2 hWY hY0 hW2 hb2 hLY hsy hcy bY hbY hLW
  gi_wp2_with fail
  refine own_range h1 (gf := 119) (lb := #[.pointer (some ⟨Y + 1, 0, none⟩)]) rfl (enters_of Tryd.func119 (by kernel_rfl) rfl)
    (back_own w0 (n - 1) (by omega) m (Y + 1) a len cap its hlen W2 HL2.out (by have := HY0.out; omega) (fun b hb => hm b (List.mem_cons_of_mem _ hb))) (Below.refl _ _) (by have := HY0.out; omega) (fun _ => rfl)
    (fun pre V => J (pre.map Prod.snd) V ∧ Boxed V Y 90 (.func (.yield l) #[] #[]))
    (OwnFrom.and (fun pre X Z row hs hg hr => HJm.out _ X Z row hs hg hr) (Own.from (boxed_own Y 90 (fun _ : List (Nat × It w0) => Value.func (.yield l) #[] #[])) _))
    ⟨HJ2.out, HB2.out⟩
    (fun x a' V => ∃ Bx, RoB 27 Bx (.slice x.2.u.a x.2.u.n x.2.u.c) x.2.u.b V ∧ a' = { tmps := #[.func (.yield l) #[] #[], .pointer (some ⟨B, 0, none⟩), .pointer (some ⟨Y, 0, none⟩), undef, .pointer (some ⟨Bx, 0, none⟩), .slice a len cap, .func (.func 119) #[] #[.pointer (some ⟨Y + 1, 0, none⟩)], .int .i64 (x.1 : Int), x.2.u.val, undef, undef, undef, undef], defers := [] })
    (fun x a' s X Z row hs hg hr => by
      obtain ⟨Bx, hb2, hb3⟩ := hs
      refine ⟨Bx, hb2.grown hg (fun e => ?_), hb3⟩
      obtain ⟨_, o, ho, hc⟩ := hr Bx e
      rw [show X.heap[Bx]? = _ from hb2] at ho
      cases ho
      cases hc)
    ?assign ?body ?done
  case assign =>
    rintro l2 pre x V K ⟨hj, hb⟩ hK
    obtain ⟨⟨i, ⟨⟨⟨ua, un, uc, ub⟩, r⟩, hx⟩⟩, hxx⟩ : ∃ y : Nat × It w0, y = x := ⟨x, rfl⟩
    subst hxx
    simp only [It.u, Rv.val] at hK ⊢
    gi_wp2
    refine hK _ _ (KeepX.of_below ((Below.refl _ V).alloc (Nat.le_refl _) _)) ⟨HJ0.out.alloc _ hj, hb.alloc _⟩ ⟨V.heap.size, RoB.new _ _ _ _, ?_⟩
    first | rfl | simp
  case body =>
    rintro l2 pre x a' V ⟨hj, hb⟩ ⟨Bx, hX, rfl⟩ hlt
    obtain ⟨i, x⟩ := x
    obtain ⟨fn, tmps, assign, body, hy, hR⟩ := HYy.out (pre.map Prod.snd) x V hj (by rw [downIx_length] at hlt; rw [List.length_map, List.length_reverse]; exact hlt)
    unfold Rv.val at hy
    have HR := Lib.hid hR
    obtain ⟨ua, un, uc, ub, hu⟩ : ∃ ua un uc ub, x.u = ⟨ua, un, uc, ub⟩ := ⟨_, _, _, _, rfl⟩
    simp only at hX ⊢
    rw [hu] at hX hy ⊢
    unfold Rv.val
    simp only at hX hy ⊢
    have hx0 := hX.c0
    have hx1 := hX.c1
    have hcb := hb.cell
    have HBb := Lib.hid hb
    clear hR hj hb hX hu
    gi_wp2_with fail
    try rw [hy]
    gi_wp2_with fail
    refine ⟨fun _ => by omega, (roundIn_any HR.out).mono ?_⟩
    rintro e V' ⟨rfl, hj', hk⟩
    have hb' : Boxed V' Y 90 (.func (.yield l) #[] #[]) := (hk.1.2.2 Y _ _ _ HBb.out (by have := HY0.out; omega) (by decide)).trans HBb.out
    have HK := Lib.hid (hk.mono (show W.heap.size ≤ Y + 2 by have := HY0.out; omega))
    have HI : Hid (J ((pre ++ [(i, x)]).map Prod.snd) V' ∧ Boxed V' Y 90 (.func (.yield l) #[] #[])) := Lib.hid ⟨by rw [List.map_append]; exact hj', hb'⟩
    clear hj' hk hb' hx0 hx1 hcb hy
    gi_wp2
    first | exact ⟨rfl, HK.out, HI.out⟩ | exact ⟨HK.out, HI.out⟩ | exact ⟨HK.out, by simpa using HI.out⟩
  case done =>
    rintro D V hD ⟨hj, hb⟩ hK
    have HJj := Lib.hid hj
    have HK := Lib.hid hK
    have HD := Lib.hid hD
    clear hj hb hK hD
    gi_wp2
    refine ⟨by simp, .inl ⟨_, _, rfl, run_takeDeferred HK.out, ?_⟩⟩
    refine ⟨_, results_none rfl _ _ _, ⟨_, rfl⟩, ?_⟩
    have h := HJj.out
    rw [downIx_snd] at h
    exact HJ0.out.putObj _ h (by have := HD.out; have := HY0.out; omega) HK.out rfl
end Go.Proofs.YtkggmcnocpgnbaaDoor.K

/- Rows that go up and down within a region of a list. -/
namespace Go.Proofs.YtkggmcnocpgnbaaDoor.D
variable {α : Type}

/-- k of a region's go up: the others go up, so many b stand below -/
def upR (R : List α) (k : Nat) (b : α) : List α := R.drop k ++ List.replicate (min k R.length) b
def downR (R : List α) (k : Nat) (b : α) : List α := List.replicate (min k R.length) b ++ R.take (R.length - k)
theorem upR_length (R : List α) (k : Nat) (b : α) : (upR R k b).length = R.length := by
  unfold upR; rw [List.length_append, List.length_drop, List.length_replicate]; omega
theorem downR_length (R : List α) (k : Nat) (b : α) : (downR R k b).length = R.length := by
  unfold downR; rw [List.length_append, List.length_take, List.length_replicate]; omega
theorem upR_zero (R : List α) (b : α) : upR R 0 b = R := by simp [upR]
theorem downR_zero (R : List α) (b : α) : downR R 0 b = R := by simp [downR]
theorem upR_one {R : List α} {k : Nat} (b : α) (h : k < R.length) : (upR R k b).drop 1 ++ [b] = upR R (k + 1) b := by
  unfold upR
  rw [List.drop_append_of_le_length (by rw [List.length_drop]; omega), List.drop_drop, Nat.min_eq_left (by omega), Nat.min_eq_left (by omega), List.append_assoc, List.replicate_succ']
theorem downR_one {R : List α} {k : Nat} (b : α) (h : k < R.length) : b :: (downR R k b).take (R.length - 1) = downR R (k + 1) b := by
  unfold downR
  rw [List.take_append, List.length_replicate, Nat.min_eq_left (by omega), Nat.min_eq_left (by omega), List.take_of_length_le (by rw [List.length_replicate]; omega), List.take_take, List.replicate_succ, List.cons_append]
  congr 3
  omega
/-- in steps: j at once, and k more, are j + k -/
theorem upR_add (R : List α) (j k : Nat) (b : α) (h : j + k ≤ R.length) : upR (upR R j b) k b = upR R (j + k) b := by
  induction k with
  | zero => rw [upR_zero]; rfl
  | succ k ih =>
    have h1 : k < (upR R j b).length := by rw [upR_length]; omega
    rw [← upR_one b h1, ih (by omega), upR_one b (by omega)]
    rfl
theorem downR_add (R : List α) (j k : Nat) (b : α) (h : j + k ≤ R.length) : downR (downR R j b) k b = downR R (j + k) b := by
  induction k with
  | zero => rw [downR_zero]; rfl
  | succ k ih =>
    have h1 : k < (downR R j b).length := by rw [downR_length]; omega
    rw [← downR_one b h1, ih (by omega), downR_length, downR_one b (by omega)]
    rfl
/-- a list with a region -/
def inL (l : List α) (top bot : Nat) (f : List α → List α) : List α := l.take top ++ f ((l.take (bot + 1)).drop top) ++ l.drop (bot + 1)
theorem region_length {l : List α} {top bot : Nat} (h1 : top ≤ bot) (h2 : bot < l.length) : ((l.take (bot + 1)).drop top).length = bot + 1 - top := by
  rw [List.length_drop, List.length_take]; omega
theorem inL_id (l : List α) {top bot : Nat} (h1 : top ≤ bot) : inL l top bot (fun R => R) = l := by
  unfold inL
  have : l.take top ++ (l.take (bot + 1)).drop top = l.take (bot + 1) := by
    have h := List.take_append_drop top (l.take (bot + 1))
    rw [List.take_take, Nat.min_eq_left (by omega)] at h
    exact h
  rw [this, List.take_append_drop]
theorem inL_length {l : List α} {top bot : Nat} (h1 : top ≤ bot) (h2 : bot < l.length) {f : List α → List α} (hf : ∀ R : List α, (f R).length = R.length) : (inL l top bot f).length = l.length := by
  unfold inL
  rw [List.length_append, List.length_append, hf, region_length h1 h2, List.length_take, List.length_drop]
  omega
theorem inL_region {l : List α} {top bot : Nat} (h1 : top ≤ bot) (h2 : bot < l.length) {f : List α → List α} (hf : ∀ R : List α, (f R).length = R.length) : ((inL l top bot f).take (bot + 1)).drop top = f ((l.take (bot + 1)).drop top) := by
  unfold inL
  have ha : (l.take top).length = top := by rw [List.length_take]; omega
  have hb : (f ((l.take (bot + 1)).drop top)).length = bot + 1 - top := by rw [hf, region_length h1 h2]
  rw [List.take_append_of_le_length (by rw [List.length_append, ha, hb]; omega), List.take_of_length_le (by rw [List.length_append, ha, hb]; omega), List.drop_append_of_le_length (by rw [ha]; exact Nat.le_refl _), List.drop_of_length_le (by rw [ha]; exact Nat.le_refl _), List.nil_append]
theorem inL_outer {l : List α} {top bot : Nat} (h1 : top ≤ bot) (h2 : bot < l.length) {f : List α → List α} (hf : ∀ R : List α, (f R).length = R.length) : (inL l top bot f).take top = l.take top ∧ (inL l top bot f).drop (bot + 1) = l.drop (bot + 1) := by
  unfold inL
  have ha : (l.take top).length = top := by rw [List.length_take]; omega
  have hb : (f ((l.take (bot + 1)).drop top)).length = bot + 1 - top := by rw [hf, region_length h1 h2]
  constructor
  · rw [List.append_assoc, List.take_append_of_le_length (by rw [ha]; exact Nat.le_refl _), List.take_of_length_le (by rw [ha]; exact Nat.le_refl _)]
  · rw [List.drop_append, List.length_append, ha, hb, List.drop_of_length_le (by rw [List.length_append, ha, hb]; omega), List.nil_append, show bot + 1 - (top + (bot + 1 - top)) = 0 by omega, List.drop_zero]
theorem inL_comp {l : List α} {top bot : Nat} (h1 : top ≤ bot) (h2 : bot < l.length) {f g : List α → List α} (hf : ∀ R : List α, (f R).length = R.length) : inL (inL l top bot f) top bot g = inL l top bot (fun R => g (f R)) := by
  have h := inL_region h1 h2 hf
  have ho := inL_outer h1 h2 hf
  show (inL l top bot f).take top ++ g (((inL l top bot f).take (bot + 1)).drop top) ++ (inL l top bot f).drop (bot + 1) = _
  rw [h, ho.1, ho.2]
  rfl
end Go.Proofs.YtkggmcnocpgnbaaDoor.D

/- Rows of a screen, one above the other: what each call makes of them. -/
namespace Go.Proofs.YtkggmcnocpgnbaaDoor.K

/-- how a size counts -/
def szN (n : Int) : Nat := (min (max n 1) 1000).toNat
theorem szN_pos (n : Int) : 1 ≤ szN n := by unfold szN; omega
theorem szN_le (n : Int) : szN n ≤ 1000 := by unfold szN; omega
def nearG (n lo hi : Int) : Int := min (max n lo) hi
/-- how a place counts, among so many -/
def plN (len : Nat) (t : Int) : Nat := (min (max t 0) ((len : Int) - 1)).toNat
theorem plN_lt {len : Nat} (h : 0 < len) (t : Int) : plN len t < len := by unfold plN; omega
theorem plN_near {len : Nat} (h : 0 < len) (t : Int) : nearG t 0 ((len : Int) - 1) = (plN len t : Int) := by unfold nearG plN; omega
/-- a grid -/
structure Gd where
  W : Nat
  rs : List Ro
def blankR (W : Nat) (s : Int) : Ro := ⟨blanks W s, false⟩
def newG (w h : Int) : Gd := ⟨szN w, List.replicate (szN h) (blankR (szN w) 0)⟩
def setG (x : Gd) (y : Int) (r : Ro) : Gd := if 0 ≤ y ∧ y < x.rs.length then ⟨x.W, x.rs.set y.toNat (resizeS r x.W)⟩ else x
def regR (rs : List Ro) (t b : Nat) : List Ro := (rs.take (b + 1)).drop t
def cntN (n : Int) (len : Nat) : Nat := (min (max n 0) len).toNat
theorem cntN_le (n : Int) (len : Nat) : cntN n len ≤ len := by unfold cntN; omega
def upG (x : Gd) (top bot n s : Int) : Gd × List Ro :=
  let t := plN x.rs.length top
  let b := plN x.rs.length bot
  if b < t then (x, []) else
    let k := cntN n (b + 1 - t)
    (⟨x.W, D.inL x.rs t b fun R => D.upR R k (blankR x.W s)⟩, (regR x.rs t b).take k)
def downG (x : Gd) (top bot n s : Int) : Gd × List Ro :=
  let t := plN x.rs.length top
  let b := plN x.rs.length bot
  if b < t then (x, []) else
    let k := cntN n (b + 1 - t)
    (⟨x.W, D.inL x.rs t b fun R => D.downR R k (blankR x.W s)⟩, ((regR x.rs t b).drop (b + 1 - t - k)).reverse)
def sizeG (x : Gd) (w h off : Int) : Gd × List Ro :=
  let o := plN x.rs.length off
  (⟨szN w, (((x.rs.drop o).take (szN h)).map fun r => resizeS r (szN w)) ++ List.replicate (szN h - (x.rs.length - o)) (blankR (szN w) 0)⟩, x.rs.take o)
/-- a grid as it may be -/
structure GdOk (x : Gd) : Prop where
  w1 : 1 ≤ x.W
  w2 : x.W ≤ 1000
  h1 : 1 ≤ x.rs.length
  h2 : x.rs.length ≤ 1000
  len : ∀ r ∈ x.rs, r.l.length = x.W
  rng : ∀ r ∈ x.rs, AllC Rng r.l
theorem blankR_len (W : Nat) (s : Int) : (blankR W s).l.length = W := blanks_length W s
theorem blankR_rng (W : Nat) (s : Int) : AllC Rng (blankR W s).l := all_blanks rng_blk W s
theorem resize_len (r : Ro) (W : Nat) (h : W ≤ 1000) : (resizeS r W).l.length = W := by
  have hn : nearN (W : Int) = W := by unfold nearN; omega
  unfold resizeS
  rw [hn]
  split
  · rename_i h'; exact h'.symm
  · simp only
    rw [mend_length, List.length_append, List.length_take, blanks_length]
    omega
theorem newG_ok (w h : Int) : GdOk (newG w h) := by
  refine ⟨szN_pos w, szN_le w, ?_, ?_, fun r hr => ?_, fun r hr => ?_⟩
  · show 1 ≤ (List.replicate _ _).length; rw [List.length_replicate]; exact szN_pos h
  · show (List.replicate _ _).length ≤ 1000; rw [List.length_replicate]; exact szN_le h
  · rw [(List.mem_replicate.1 hr).2]; exact blankR_len _ _
  · rw [(List.mem_replicate.1 hr).2]; exact blankR_rng _ _
theorem setG_ok {x : Gd} (hx : GdOk x) (y : Int) {r : Ro} (hr : AllC Rng r.l) : GdOk (setG x y r) := by
  unfold setG
  split
  · refine ⟨hx.w1, hx.w2, by show 1 ≤ (x.rs.set _ _).length; rw [List.length_set]; exact hx.h1, by show (x.rs.set _ _).length ≤ 1000; rw [List.length_set]; exact hx.h2, fun q hq => ?_, fun q hq => ?_⟩
    · rcases List.mem_or_eq_of_mem_set hq with hq | rfl
      · exact hx.len q hq
      · exact resize_len r x.W hx.w2
    · rcases List.mem_or_eq_of_mem_set hq with hq | rfl
      · exact hx.rng q hq
      · exact all_resize rng_blk hr _
  · exact hx
theorem mem_inL {α : Type} {l : List α} {t b : Nat} {f : List α → List α} {p : α → Prop} (hl : ∀ a ∈ l, p a) (hf : ∀ R : List α, (∀ a ∈ R, p a) → ∀ a ∈ f R, p a) : ∀ a ∈ D.inL l t b f, p a := by
  intro a ha
  unfold D.inL at ha
  rcases List.mem_append.1 ha with ha | ha
  · rcases List.mem_append.1 ha with ha | ha
    · exact hl a (List.mem_of_mem_take ha)
    · exact hf _ (fun c hc => hl c (List.mem_of_mem_take (List.mem_of_mem_drop hc))) a ha
  · exact hl a (List.mem_of_mem_drop ha)
theorem mem_upR {α : Type} {p : α → Prop} {k : Nat} {c : α} (hc : p c) (R : List α) (hR : ∀ a ∈ R, p a) : ∀ a ∈ D.upR R k c, p a := by
  intro a ha
  unfold D.upR at ha
  rcases List.mem_append.1 ha with ha | ha
  · exact hR a (List.mem_of_mem_drop ha)
  · rw [(List.mem_replicate.1 ha).2]; exact hc
theorem mem_downR {α : Type} {p : α → Prop} {k : Nat} {c : α} (hc : p c) (R : List α) (hR : ∀ a ∈ R, p a) : ∀ a ∈ D.downR R k c, p a := by
  intro a ha
  unfold D.downR at ha
  rcases List.mem_append.1 ha with ha | ha
  · rw [(List.mem_replicate.1 ha).2]; exact hc
  · exact hR a (List.mem_of_mem_take ha)
theorem upG_ok {x : Gd} (hx : GdOk x) (top bot n s : Int) : GdOk (upG x top bot n s).1 := by
  unfold upG
  simp only
  split
  · exact hx
  · rename_i h
    have hb := plN_lt (t := bot) (by have := hx.h1; omega : 0 < x.rs.length)
    have hl := D.inL_length (l := x.rs) (by omega : plN x.rs.length top ≤ plN x.rs.length bot) hb (f := fun R => D.upR R (cntN n (plN x.rs.length bot + 1 - plN x.rs.length top)) (blankR x.W s)) (fun R => D.upR_length R _ _)
    exact ⟨hx.w1, hx.w2, Nat.le_trans hx.h1 (Nat.le_of_eq hl.symm), Nat.le_trans (Nat.le_of_eq hl) hx.h2, mem_inL (p := fun r : Ro => r.l.length = x.W) hx.len (fun R hR => mem_upR (p := fun r : Ro => r.l.length = x.W) (blankR_len _ _) R hR), mem_inL (p := fun r : Ro => AllC Rng r.l) hx.rng (fun R hR => mem_upR (p := fun r : Ro => AllC Rng r.l) (blankR_rng _ _) R hR)⟩
theorem downG_ok {x : Gd} (hx : GdOk x) (top bot n s : Int) : GdOk (downG x top bot n s).1 := by
  unfold downG
  simp only
  split
  · exact hx
  · rename_i h
    have hb := plN_lt (t := bot) (by have := hx.h1; omega : 0 < x.rs.length)
    have hl := D.inL_length (l := x.rs) (by omega : plN x.rs.length top ≤ plN x.rs.length bot) hb (f := fun R => D.downR R (cntN n (plN x.rs.length bot + 1 - plN x.rs.length top)) (blankR x.W s)) (fun R => D.downR_length R _ _)
    exact ⟨hx.w1, hx.w2, Nat.le_trans hx.h1 (Nat.le_of_eq hl.symm), Nat.le_trans (Nat.le_of_eq hl) hx.h2, mem_inL (p := fun r : Ro => r.l.length = x.W) hx.len (fun R hR => mem_downR (p := fun r : Ro => r.l.length = x.W) (blankR_len _ _) R hR), mem_inL (p := fun r : Ro => AllC Rng r.l) hx.rng (fun R hR => mem_downR (p := fun r : Ro => AllC Rng r.l) (blankR_rng _ _) R hR)⟩
theorem sizeG_length {x : Gd} (hx : GdOk x) (w h off : Int) : (sizeG x w h off).1.rs.length = szN h := by
  have ho := plN_lt (t := off) (by have := hx.h1; omega : 0 < x.rs.length)
  unfold sizeG
  simp only
  rw [List.length_append, List.length_map, List.length_take, List.length_drop, List.length_replicate]
  omega
theorem sizeG_ok {x : Gd} (hx : GdOk x) (w h off : Int) : GdOk (sizeG x w h off).1 := by
  have hl := sizeG_length hx w h off
  refine ⟨szN_pos w, szN_le w, by rw [hl]; exact szN_pos h, by rw [hl]; exact szN_le h, fun r hr => ?_, fun r hr => ?_⟩
  · unfold sizeG at hr ⊢
    simp only at hr ⊢
    rcases List.mem_append.1 hr with hr | hr
    · obtain ⟨q, _, rfl⟩ := List.mem_map.1 hr
      exact resize_len q _ (szN_le w)
    · rw [(List.mem_replicate.1 hr).2]; exact blankR_len _ _
  · unfold sizeG at hr
    simp only at hr
    rcases List.mem_append.1 hr with hr | hr
    · obtain ⟨q, hq, rfl⟩ := List.mem_map.1 hr
      exact all_resize rng_blk (hx.rng q (List.mem_of_mem_drop (List.mem_of_mem_take hq))) _
    · rw [(List.mem_replicate.1 hr).2]; exact blankR_rng _ _
end Go.Proofs.YtkggmcnocpgnbaaDoor.K
