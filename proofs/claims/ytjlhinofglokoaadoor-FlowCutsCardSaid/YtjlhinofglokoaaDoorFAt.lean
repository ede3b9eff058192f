/- The contract of flow.At. -/
import Derived.Test.YtjlhinofglokoaaDoorFCut
namespace Go.Proofs.YtjlhinofglokoaaDoor.F
open Go.RowKit Go.Shelf H
open W (OwnR RunesIn Rn Tab blkOf blkOf_sub blkOf_some KeepL keepL_t keepL_b fitS fitS_le fit_any sum_any sumS)

attribute [local go_sem] Oper.semAt_some

/-- what a round of At has in hand -/
structure AtEnv where
  R : Nat
  L : Nat
  w0 : World
  V : World
  i : Int
  ra : Option Addr
  rl : Nat
  rc : Nat
  zs : List Int
  y : Nat
  x : Nat
  J : Nat
  k : Nat
  lk : List Nat
structure AtEnv.Good (E : AtEnv) : Prop where
  bi : Boxed E.V E.R 3 (.int .i64 E.i)
  b0 : Boxed E.V (E.R + 1) 3 (.int .i64 0)
  b1 : Boxed E.V (E.R + 2) 3 (.int .i64 0)
  bl : Boxed E.V E.L 69 (.slice E.ra E.rl E.rc)
  by_ : Boxed E.V (E.L + 1) 3 (.int .i64 (E.y : Int))
  hb : Below E.w0.heap.size E.w0 E.V
  h0 : E.w0.heap.size ≤ E.R
  hRL : E.R + 3 ≤ E.L
  hlk : ∀ b ∈ E.lk, b ≠ E.R + 1 ∧ b ≠ E.R + 2
  hrn : Rn E.ra E.rl E.zs E.V
  hlr : ∀ b ∈ blkOf E.ra E.zs, b ≠ E.R + 1 ∧ b ≠ E.R + 2
  hpos : 0 < E.R
  hfit : E.rl ≤ E.rc
  hsp : ∀ x, E.ra = some x → x = ⟨x.block, x.off, none⟩
  hi : E.i = (E.J + E.k : Nat)
  hk : E.J + E.k ≤ E.rl
  hx : sumS ((E.zs.drop E.J).take E.k) = E.x
structure AtEnv.C (E : AtEnv) (l : Array Bool) (W : World) : Prop where
  bi : Boxed W E.R 3 (.int .i64 E.i)
  b0 : Boxed W (E.R + 1) 3 (.int .i64 (if l.getD 6 false = true then (E.y : Int) else 0))
  b1 : Boxed W (E.R + 2) 3 (.int .i64 (if l.getD 7 false = true then (E.x : Int) else 0))
  bl : Boxed W E.L 69 (.slice E.ra E.rl E.rc)
  by_ : Boxed W (E.L + 1) 3 (.int .i64 (E.y : Int))
  hb : Below E.w0.heap.size E.w0 W
  ko : KeepsOthers E.V W
  kl : KeepL E.lk E.V W
  hrn : Rn E.ra E.rl E.zs W
def AtEnv.Ok (E : AtEnv) : Nat → Value → World → Prop
  | 0, u, _ => u = .int .i64 (E.y : Int)
  | 1, u, _ => u = .slice E.ra E.rl E.rc
  | 2, u, _ => u = .int .i64 (E.J : Int)
  | 3, u, _ => u = .int .i64 E.i
  | 4, u, _ => u = .slice (if E.rc = E.J then E.ra else Option.map (fun x => x.add E.J) E.ra) E.k (E.rc - E.J)
  | 5, u, _ => u = .int .i64 (E.x : Int)
  | _, _, _ => True
theorem AtEnv.C.same {E : AtEnv} {l : Array Bool} {W : World} (h : E.C l W) (i : Nat) (h1 : i < 6) (hs : l.size = 8) : E.C (l.setIfInBounds i true) W := by
  have f : ∀ j, i ≠ j → (l.setIfInBounds i true).getD j false = l.getD j false := fun j hj => by rw [flag_set j (by omega), if_neg hj]
  exact ⟨h.bi, by rw [f 6 (by omega)]; exact h.b0, by rw [f 7 (by omega)]; exact h.b1, h.bl, h.by_, h.hb, h.ko, h.kl, h.hrn⟩
theorem AtEnv.C.grew {E : AtEnv} {l : Array Bool} {W W' : World} (h : E.C l W) (hs : l.size = 8) (hb : Below W.heap.size W W') (hlk : ∀ b ∈ E.lk, b < W.heap.size) : E.C (l.setIfInBounds 5 true) W' := by
  have f : ∀ j, 5 ≠ j → (l.setIfInBounds 5 true).getD j false = l.getD j false := fun j hj => by rw [flag_set j (by omega), if_neg hj]
  exact ⟨(hb.block _ h.bi.lt).trans h.bi, by rw [f 6 (by omega)]; exact (hb.block _ h.b0.lt).trans h.b0, by rw [f 7 (by omega)]; exact (hb.block _ h.b1.lt).trans h.b1, (hb.block _ h.bl.lt).trans h.bl, (hb.block _ h.by_.lt).trans h.by_, h.hb.trans (hb.mono h.hb.size),
    ⟨Nat.le_trans h.ko.size hb.size, fun k o hk hc => (hb.block k (Array.getElem?_eq_some_iff.1 (h.ko.same k o hk hc)).1).trans (h.ko.same k o hk hc)⟩, keepL_t h.kl (KeepL.of_below hb hlk), h.hrn.belowAll hb⟩
theorem rn_set {a : Option Addr} {n : Nat} {zs : List Int} {w : World} (h : Rn a n zs w) {b : Nat} (v : Value) (hb : ∀ q ∈ blkOf a zs, q ≠ b) (h0 : b ≠ 0) : Rn a n zs (w.setCell ⟨b, 0, none⟩ v) := by
  have hk : KeepL (0 :: blkOf a zs) w (w.setCell ⟨b, 0, none⟩ v) := KeepL.setCell _ (fun hm => by
    rcases List.mem_cons.1 hm with e | hm
    · exact h0 e
    · exact hb _ hm rfl) _ _
  exact ⟨h.rs.kept hk.1 (fun b off hz e hl => hk.2 b (List.mem_cons_of_mem _ (blkOf_some hz e)) hl), h.tb.kept (hk.2 0 (by simp) h.tb.pos), fun b hb => Nat.lt_of_lt_of_le (h.lt b hb) hk.1, h.few⟩
theorem AtEnv.C.put0 {E : AtEnv} (G : E.Good) {l : Array Bool} {W : World} (h : E.C l W) (hs : l.size = 8) : E.C (l.setIfInBounds 6 true) (W.setCell ⟨E.R + 1, 0, none⟩ (.int .i64 (E.y : Int))) := by
  have f : ∀ j, 6 ≠ j → (l.setIfInBounds 6 true).getD j false = l.getD j false := fun j hj => by rw [flag_set j (by omega), if_neg hj]
  have f6 : (l.setIfInBounds 6 true).getD 6 false = true := by rw [flag_set 6 (by omega), if_pos rfl]
  have hRL := G.hRL
  have h0 := G.h0
  exact ⟨h.bi.other (by omega) _, by rw [f6, if_pos rfl]; exact h.b0.set _, by rw [f 7 (by omega)]; exact h.b1.other (by omega) _, h.bl.other (by omega) _, h.by_.other (by omega) _, h.hb.setCell (p := ⟨E.R + 1, 0, none⟩) (by show E.w0.heap.size ≤ E.R + 1; omega) _, h.ko.trans (KeepsOthers.setCell _ _ _), keepL_t h.kl (KeepL.setCell _ (fun hm => (G.hlk _ hm).1 rfl) _ _), rn_set h.hrn _ (fun q hq => (G.hlr q hq).1) (by omega)⟩
theorem AtEnv.C.put1 {E : AtEnv} (G : E.Good) {l : Array Bool} {W : World} (h : E.C l W) (hs : l.size = 8) : E.C (l.setIfInBounds 7 true) (W.setCell ⟨E.R + 2, 0, none⟩ (.int .i64 (E.x : Int))) := by
  have f : ∀ j, 7 ≠ j → (l.setIfInBounds 7 true).getD j false = l.getD j false := fun j hj => by rw [flag_set j (by omega), if_neg hj]
  have f7 : (l.setIfInBounds 7 true).getD 7 false = true := by rw [flag_set 7 (by omega), if_pos rfl]
  have hRL := G.hRL
  have h0 := G.h0
  exact ⟨h.bi.other (by omega) _, by rw [f 6 (by omega)]; exact h.b0.other (by omega) _, by rw [f7, if_pos rfl]; exact h.b1.set _, h.bl.other (by omega) _, h.by_.other (by omega) _, h.hb.setCell (p := ⟨E.R + 2, 0, none⟩) (by show E.w0.heap.size ≤ E.R + 2; omega) _, h.ko.trans (KeepsOthers.setCell _ _ _), keepL_t h.kl (KeepL.setCell _ (fun hm => (G.hlk _ hm).2 rfl) _ _), rn_set h.hrn _ (fun q hq => (G.hlr q hq).2) (by omega)⟩
theorem rn_take {a : Option Addr} {n : Nat} {zs : List Int} {w : World} (h : Rn a n zs w) (k : Nat) (hk : k ≤ n) : Rn a k (zs.take k) w := by
  have hl := h.rs.1
  refine ⟨⟨by rw [List.length_take]; omega, ?_⟩, h.tb, fun b hb => h.lt b (blkOf_sub (fun e e' => e (by rw [e']; simp)) b hb), by have := h.few; rw [List.length_take]; omega⟩
  rcases h.rs.2 with e | ⟨b, off, ha, hb, hi⟩
  · left; rw [e]; simp
  · refine .inr ⟨b, off, ha, hb, fun i hi' => ?_⟩
    rw [List.length_take] at hi'
    rw [hi i (by omega)]
    simp [List.getD_eq_getElem?_getD, List.getElem?_take, show i < k by omega]
theorem results_cell_cell {fn : Func} {p q : Tmp} {ty tz : TypeId} (h : fn.results = #[.cell p ty, .cell q tz]) (tmps : Array Value) (P : Program) (w : World) :
    (results fn tmps).run P w =
      ((asAddr (tmps.getD p undef)).run P w).andThen fun a w₁ => ((loadVar ty a).run P w₁).andThen fun v w₂ => ((asAddr (tmps.getD q undef)).run P w₂).andThen fun a' w₃ => ((loadVar tz a').run P w₃).andThen fun v' w₄ => .ok (.tuple #[v, v']) w₄ := by
  simp only [results, h]
  simp [Sem.run_bind, Result.andThen]
/-- between two rounds -/
structure AtI {N : Nat} (R L : Nat) (w0 w4 : World) (i : Int) (ra : Option Addr) (rl rc : Nat) (lk : List Nat) (pre : List (Ct N)) (V : World) : Prop where
  bi : Boxed V R 3 (.int .i64 i)
  b0 : Boxed V (R + 1) 3 (.int .i64 0)
  b1 : Boxed V (R + 2) 3 (.int .i64 0)
  bl : Boxed V L 69 (.slice ra rl rc)
  by_ : Boxed V (L + 1) 3 (.int .i64 (pre.length : Int))
  hb : Below w0.heap.size w0 V
  kl : KeepL lk w4 V
  no : ∀ c ∈ pre, ¬ ((c.1.1 : Int) ≤ i ∧ i < (c.1.2 : Int))
theorem AtI.grown {N : Nat} {R L : Nat} {w0 w4 : World} {i : Int} {ra : Option Addr} {rl rc : Nat} {lk : List Nat} {pre : List (Ct N)} {V V' : World} {row : Option Nat} (h : AtI R L w0 w4 i ra rl rc lk pre V) (h0 : w0.heap.size ≤ w4.heap.size) (hlk : ∀ b ∈ lk, b < w4.heap.size) (hg : V.grownBy V' row) (hr : ∀ r, row = some r → w4.heap.size ≤ r ∧ ∃ o : Obj, V.heap[r]? = some o ∧ o.isCells = false) : AtI R L w0 w4 i ra rl rc lk pre V' := by
  have hr2 : ∀ r, row = some r → ∃ o : Obj, V.heap[r]? = some o ∧ o.isCells = false := fun r e => (hr r e).2
  exact ⟨boxed_grown h.bi hg hr2, boxed_grown h.b0 hg hr2, boxed_grown h.b1 hg hr2, boxed_grown h.bl hg hr2, boxed_grown h.by_ hg hr2, h.hb.grown hg h.hb.size (fun r e => by have := (hr r e).1; omega), ⟨Nat.le_trans h.kl.1 hg.size, fun b hb hl => (hg.block b (Nat.lt_of_lt_of_le hl h.kl.1) (fun e => by have := (hr b e.symm).1; have := hlk b hb; omega)).trans (h.kl.2 b hb hl)⟩, h.no⟩
/-- where it was found -/
def AtX {N : Nat} (R : Nat) (w0 : World) (i : Int) (zs : List Int) (c : Code) (pre : List (Ct N)) (V : World) : Prop :=
  c = .ret ∧ ∃ p x, pre = p ++ [x] ∧ ((x.1.1 : Int) ≤ i ∧ i < (x.1.2 : Int)) ∧ Boxed V (R + 1) 3 (.int .i64 (p.length : Int)) ∧ Boxed V (R + 2) 3 (.int .i64 ((sumS ((zs.drop x.1.1).take (i.toNat - x.1.1)) : Nat) : Int)) ∧ Below w0.heap.size w0 V
/-- what At leaves -/
def AtPost (p : Nat × Nat) (w : World) (e : Ending) (w' : World) : Prop := e = .returned (.tuple #[.int .i64 (p.1 : Int), .int .i64 (p.2 : Int)]) ∧ Below w.heap.size w w'
set_option maxRecDepth 100000 in
set_option maxHeartbeats 8000000 in
theorem at_in (n : Nat) (hn : 9 ≤ n) (a : Option Addr) (len cap : Nat) (l : List (Int × Int)) (W i : Int) (w : World) (h : PairsIn .i32 a len cap l w) (hT : Tab w) (hl : (len : Int) ≤ 100000) :
    CallsIn Fence.wide n Tryd.prog 12 #[.slice a len cap, .int .i64 W, .int .i64 i] w (AtPost (atF (clampW W) l i) w) := by
  have h1 : 1 ≤ n := by omega
  obtain ⟨P, hP⟩ : ∃ P, AtPost (atF (clampW W) l i) w = P := ⟨_, rfl⟩
  rw [hP]
  have HP := Lib.hid hP
  have hpos := hT.pos
  have HT := Lib.hid hT
  obtain ⟨w1, hw1⟩ : ∃ w1, ((w.alloc (.cells #[.int .i64 i] 3)).alloc (.cells #[.int .i64 0] 3)).alloc (.cells #[.int .i64 0] 3) = w1 := ⟨_, rfl⟩
  have b01 : Below w.heap.size w w1 := by rw [← hw1]; exact (((Below.refl _ _).alloc (Nat.le_refl _) _).alloc (by simp) _).alloc (by simp; omega) _
  have hs1 : w1.heap.size = w.heap.size + 3 := by rw [← hw1]; simp
  have bI : Boxed w1 w.heap.size 3 (.int .i64 i) := by rw [← hw1]; exact ((Boxed.new w 3 _).alloc _).alloc _
  have bR0 : Boxed w1 (w.heap.size + 1) 3 (.int .i64 0) := by
    have h := (Boxed.new (w.alloc (.cells #[.int .i64 i] 3)) 3 (.int .i64 0)).alloc (.cells #[.int .i64 0] 3)
    rw [World.size_alloc, hw1] at h
    exact h
  have bR1 : Boxed w1 (w.heap.size + 2) 3 (.int .i64 0) := by
    have h := Boxed.new ((w.alloc (.cells #[.int .i64 i] 3)).alloc (.cells #[.int .i64 0] 3)) 3 (.int .i64 0)
    rw [World.size_alloc, World.size_alloc, hw1] at h
    exact h
  have HR := Lib.hid (runes_any a len cap l w1 (h.belowAll b01) (by omega))
  have HLn := Lib.hid h.len
  have HBI := Lib.hid bI
  have HBR0 := Lib.hid bR0
  have HBR1 := Lib.hid bR1
  have HB01 := Lib.hid b01
  have HS1 := Lib.hid hs1
  have HW1 := Lib.hid hw1
  clear hP hT h bI bR0 bR1 b01 hs1 hw1
  refine callsIn_of_wp_marks Tryd.func12 rfl trivial ?_ rfl
  simp only [Tryd.ntmps12, List.size_toArray, List.length_cons, List.length_nil, Nat.reduceAdd, Nat.reduceSub, Array.replicate_succ, Array.replicate_zero, List.push_toArray, List.append_toArray, List.nil_append, List.cons_append]
  gi_wp2_with fail
  refine ⟨by first | trivial | omega, ?_⟩
  rw [HW1.out]
  refine (callsIn_wide.2 HR.out).mono ?_
  rintro e w2 ⟨v, rfl, hown, hb2⟩
  have hb02 : Below w.heap.size w w2 := HB01.out.trans (hb2.mono HB01.out.size)
  obtain ⟨ra, rc, rfl, hrn, hrc, hrt, hrs, hrb⟩ := own_rn hown (HT.out.belowAll hb02) (by rw [runesF_len, ← HLn.out]; omega)
  obtain ⟨rl, hrl⟩ : ∃ rl, (runesF l).length = rl := ⟨_, rfl⟩
  rw [hrl] at hrn hrc ⊢
  obtain ⟨w3, hw3⟩ : ∃ w3, (w2.alloc (.cells #[.slice ra rl rc] 69)).alloc (.cells #[.int .i64 0] 3) = w3 := ⟨_, rfl⟩
  have b23 : Below w2.heap.size w2 w3 := by rw [← hw3]; exact ((Below.refl _ _).alloc (Nat.le_refl _) _).alloc (by simp) _
  have hs3 : w3.heap.size = w2.heap.size + 2 := by rw [← hw3]; simp
  have bL3 : Boxed w3 w2.heap.size 69 (.slice ra rl rc) := by rw [← hw3]; exact (Boxed.new w2 69 _).alloc _
  have bY3 : Boxed w3 (w2.heap.size + 1) 3 (.int .i64 0) := by
    have h := Boxed.new (w2.alloc (.cells #[.slice ra rl rc] 69)) 3 (.int .i64 0)
    rw [World.size_alloc, hw3] at h
    exact h
  have hcu := cuts_any ra rl rc (runesF l) W w3 (hrn.belowAll b23) hrc hrt hrs
  have cL3 := bL3.cell
  have HCu := Lib.hid hcu
  have hb13 : Below w1.heap.size w1 w3 := hb2.trans (b23.mono hb2.size)
  have HB03 := Lib.hid (hb02.trans (b23.mono hb02.size))
  have HBI3 : Hid (Boxed w3 w.heap.size 3 (.int .i64 i)) := Lib.hid ((hb13.block _ HBI.out.lt).trans HBI.out)
  have HBR03 : Hid (Boxed w3 (w.heap.size + 1) 3 (.int .i64 0)) := Lib.hid ((hb13.block _ HBR0.out.lt).trans HBR0.out)
  have HBR13 : Hid (Boxed w3 (w.heap.size + 2) 3 (.int .i64 0)) := Lib.hid ((hb13.block _ HBR1.out.lt).trans HBR1.out)
  have HBL3 := Lib.hid bL3
  have HBY3 := Lib.hid bY3
  have HRb := Lib.hid hrb
  have HRlt := Lib.hid hrn.lt
  have HRc := Lib.hid hrc
  have HRs := Lib.hid hrs
  have HRl := Lib.hid hrl
  have HS2 : Hid (w1.heap.size ≤ w2.heap.size) := Lib.hid hb2.size
  have HS3 := Lib.hid hs3
  have HW3 := Lib.hid hw3
  clear hown hb2 hb02 hrn hrc hrt hrs hrb hcu hw3 b23 hs3 bL3 bY3 hb13 hrl HR HW1
  gi_wp2_with fail
  refine ⟨by first | trivial | omega, ?_⟩
  rw [HW3.out]
  refine (callsIn_wide.2 HCu.out).mono ?_
  rintro e w4 ⟨rfl, hL4, hb4, hs4⟩
  obtain ⟨cs, hcs⟩ := cuts_all (clampW W) (runesF l)
  have hs1 := HS1.out
  have hs2 := HS2.out
  have hs3 := HS3.out
  have hs4' : w4.heap.size = w3.heap.size + 2 := hs4
  have hlk : ∀ b ∈ lookF w3.heap.size ra (runesF l), b = w3.heap.size ∨ b = w3.heap.size + 1 ∨ b = 0 ∨ (w1.heap.size ≤ b ∧ b < w2.heap.size) := fun b hb => by
    rcases List.mem_cons.1 hb with e | hb
    · exact .inl e
    rcases List.mem_cons.1 hb with e | hb
    · exact .inr (.inl e)
    rcases List.mem_cons.1 hb with e | hb
    · exact .inr (.inr (.inl e))
    · exact .inr (.inr (.inr ⟨HRb.out b hb, HRlt.out b hb⟩))
  have hlk4 : ∀ b ∈ lookF w3.heap.size ra (runesF l), b < w4.heap.size := fun b hb => by rcases hlk b hb with h | h | h | h <;> omega
  have hnY : w2.heap.size + 1 ∉ lookF w3.heap.size ra (runesF l) := fun hm => by rcases hlk _ hm with h | h | h | h <;> omega
  have hb04 : Below w.heap.size w w4 := HB03.out.trans (hb4.mono HB03.out.size)
  have hsz4 : w.heap.size ≤ w4.heap.size := hb04.size
  have hcl2 : cs.length ≤ 200000 := by
    have h1 := cuts_few (clampW_le W).1 l
    rw [← hcs, List.length_map] at h1
    have := HLn.out
    omega
  have HI0 : Hid (AtI (N := (runesF l).length) w.heap.size w2.heap.size w w4 i ra rl rc (lookF w3.heap.size ra (runesF l)) [] w4) := Lib.hid ⟨(hb4.block _ HBI3.out.lt).trans HBI3.out, (hb4.block _ HBR03.out.lt).trans HBR03.out, (hb4.block _ HBR13.out.lt).trans HBR13.out, (hb4.block _ HBL3.out.lt).trans HBL3.out, (hb4.block _ HBY3.out.lt).trans HBY3.out, hb04, KeepL.refl _ _, fun c hc => by cases hc⟩
  have HL4 := Lib.hid hL4
  have HCs := Lib.hid hcs
  have HCl := Lib.hid hcl2
  have HLk := Lib.hid hlk
  have HLk4 := Lib.hid hlk4
  clear hL4 hb4 hs4 hcs hb04 HCu hcl2 hlk hlk4 cL3 hs1 hs2 hs3 hs4'
  gi_wp2_with fail
  refine wpIn_rangeFunc_ownF rfl h1 (gf := 48) (lb := #[.pointer (some ⟨w3.heap.size + 1, 0, none⟩), .pointer (some ⟨w3.heap.size, 0, none⟩)]) rfl trivial (enters_of Tryd.func48 (by kernel_rfl) rfl)
    (cut_stops (n - 1) (by omega) w3.heap.size ra rl rc (runesF l) (clampW W) (clampW_le W) cs HCs.out w4 HL4.out) (fun h1 h2 => keepL_t h1 h2) (keepL_b HL4.out.all) (Below.refl _ _) (fun _ => rfl)
    (fun pre V => AtI w.heap.size w2.heap.size w w4 i ra rl rc (lookF w3.heap.size ra (runesF l)) pre V)
    (fun c pre V => AtX w.heap.size w i (runesF l) c pre V)
    (fun s X Y row hs hg hr => hs.grown hsz4 HLk4.out hg hr)
    (fun c s X Y row hs hg hr => by
      obtain ⟨h1, p, x, h2, h3, h4, h5, h6⟩ := hs
      exact ⟨h1, p, x, h2, h3, boxed_grown h4 hg (fun r e => (hr r e).2), boxed_grown h5 hg (fun r e => (hr r e).2), h6.grown hg h6.size (fun r e => by have := (hr r e).1; omega)⟩)
    HI0.out
    (fun x => { tmps := #[.slice a len cap, .int .i64 W, .int .i64 i, undef, undef, .pointer (some ⟨w.heap.size, 0, none⟩), .pointer (some ⟨w.heap.size + 1, 0, none⟩), .pointer (some ⟨w.heap.size + 2, 0, none⟩), .pointer (some ⟨w2.heap.size, 0, none⟩), .pointer (some ⟨w2.heap.size + 1, 0, none⟩), .int .i64 (x.1.1 : Int), .int .i64 (x.1.2 : Int), .slice a len cap, .slice ra rl rc, .slice ra rl rc, .int .i64 W, .func (.func 48) #[] #[.pointer (some ⟨w3.heap.size + 1, 0, none⟩), .pointer (some ⟨w3.heap.size, 0, none⟩)], .int .i64 (x.1.1 : Int), .int .i64 (x.1.2 : Int), undef, undef, undef, undef, undef, undef, undef, undef, undef, undef, undef, undef, undef, undef, undef, undef], defers := [] }) ?assign ?body ?done ?stop
  case assign =>
    intro l x V K hK
    gi_wp2
    simpa [encC] using hK
  case body =>
    rintro l1 pre x V hI hltp
    have hx := x.2
    have hrl2 := HRl.out
    obtain ⟨J, hJ⟩ : ∃ J, x.1.1 = J := ⟨_, rfl⟩
    obtain ⟨J2, hJ2⟩ : ∃ J, x.1.2 = J := ⟨_, rfl⟩
    rw [hJ, hJ2] at hx ⊢
    rw [hrl2] at hx
    have cI := hI.bi.cell
    obtain ⟨y, hy⟩ : ∃ y, pre.length = y := ⟨_, rfl⟩
    have hbY := hI.by_
    rw [hy] at hbY
    have cY := hbY.cell
    have fY := hbY.frozen
    have hyl : (y : Int) ≤ 200000 := by have := HCl.out; omega
    by_cases hin : (J : Int) ≤ i ∧ i < (J2 : Int)
    · obtain ⟨h1', h2'⟩ := hin
      obtain ⟨k, hk⟩ : ∃ k : Nat, i = ((J + k : Nat) : Int) := ⟨(i - J).toNat, by omega⟩
      have d1 : decide ((J : Int) ≤ i) = true := decide_eq_true h1'
      have d2 : decide (i < (J2 : Int)) = true := decide_eq_true h2'
      have hLV := HL4.out.keep hI.kl
      obtain ⟨X, hX⟩ : ∃ X, sumS (((runesF l).drop J).take k) = X := ⟨_, rfl⟩
      obtain ⟨E, hE⟩ : ∃ E : AtEnv, E = { R := w.heap.size, L := w2.heap.size, w0 := w, V := V, i := i, ra := ra, rl := rl, rc := rc, zs := runesF l, y := y, x := X, J := J, k := k, lk := lookF w3.heap.size ra (runesF l) } := ⟨_, rfl⟩
      have HG5 : Hid E.Good := Lib.hid (by
        have hs1 := HS1.out
        have hs2 := HS2.out
        have hs3 := HS3.out
        subst hE
        refine ⟨hI.bi, hI.b0, hI.b1, hI.bl, hbY, hI.hb, Nat.le_refl _, by show w.heap.size + 3 ≤ w2.heap.size; omega, fun b hb => ?_, hLV.rn, fun b hb => ?_, hpos, HRc.out, HRs.out, hk, by show J + k ≤ rl; omega, hX⟩
        · show b ≠ w.heap.size + 1 ∧ b ≠ w.heap.size + 2
          rcases HLk.out b hb with h | h | h | h <;> omega
        · show b ≠ w.heap.size + 1 ∧ b ≠ w.heap.size + 2
          have := HRb.out b hb
          omega)
      have HLkV : Hid (∀ b ∈ E.lk, b < E.V.heap.size) := Lib.hid (by subst hE; exact fun b hb => Nat.lt_of_lt_of_le (HLk4.out b hb) hI.kl.1)
      have HII : Hid (i = ((J + k : Nat) : Int)) := Lib.hid hk
      have HCV : Hid (E.C (Array.replicate 8 false) V.drew) := Lib.hid (by
        subst hE
        exact ⟨hI.bi, hI.b0, hI.b1, hI.bl, hbY, hI.hb.drew, ⟨Nat.le_refl _, fun k o h _ => h⟩, (KeepL.refl _ _).drew, hLV.rn.belowAll (Below.refl _ _).drew⟩)
      have HGoal : Hid (∀ W, E.C (Array.replicate 8 true) W → AtX w.heap.size w i (runesF l) .ret (pre ++ [x]) W) := Lib.hid (fun W hc => by
        have h3 := hc.b0
        have h4 := hc.b1
        have h5 := hc.hb
        have hii := HII.out
        subst hE
        refine ⟨rfl, pre, x, rfl, by rw [hJ, hJ2]; exact ⟨h1', h2'⟩, by rw [hy]; exact h3, ?_, h5⟩
        rw [hJ, show i.toNat - J = k by omega, hX]
        exact h4)
      have hrlk : rl - J ≤ rl := Nat.sub_le _ _
      have hkl : J + k ≤ rl := by omega
      have hJc : (J : Int) ≤ rc := by have := HRc.out; omega
      have hic : i ≤ (rc : Int) := by have := HRc.out; omega
      clear hI hLV hbY fY cY hX hx hltp hk
      gi_wp2_with fail
      refine Go.Proofs.YtjlhinofglokoaaDoor.I.wpIn_region_rel (by kernel_rfl) E.C E.Ok (by rfl) (by kernel_rfl) (by kernel_rfl) ?hop ?hdone ?h0
      case h0 => exact HCV.out
      case hdone =>
        intro listed z1 v1 hC hall hag _
        have hC8 : E.C (Array.replicate 8 true) v1 := ⟨hC.bi, by have h := hC.b0; rw [hall 6 (by decide)] at h; exact h, by have h := hC.b1; rw [hall 7 (by decide)] at h; exact h, hC.bl, hC.by_, hC.hb, hC.ko, hC.kl, hC.hrn⟩
        have hko : KeepsOthers V v1 := by have h := hC.ko; subst hE; exact h
        have HX := Lib.hid (HGoal.out v1 hC8)
        have HKo := Lib.hid hko
        clear hC8 hko hC hall hag
        gi_wp2
        exact ⟨HKo.out, HX.out⟩
      case hop =>
        refine ⟨?_, ?_, ?_, ?_, ?_, ?_, ?_, ?_, trivial⟩
        · intro listed z1 v1 hC hlsz hun hdl hag hdep
          refine .inl ⟨rfl, fun K hK => ?_⟩
          have d9 : z1.tmps.getD 9 undef = .pointer (some ⟨w2.heap.size + 1, 0, none⟩) := hag.2.2 9 (by kernel_rfl)
          have e9 := d9
          rw [Array.getD_eq_getD_getElem?] at e9
          have hcell : v1.cell? ⟨w2.heap.size + 1, 0, none⟩ = some (.int .i64 (y : Int)) := by
            have h := hC.by_.cell
            subst hE
            exact h
          have HC := Lib.hid hC
          clear hC hdep hag hdl
          go_simp
          exact hK _ _ (HC.out.same 0 (by omega) hlsz) (fun _ _ _ _ h => h) (by subst hE; rfl)
        · intro listed z1 v1 hC hlsz hun hdl hag hdep
          refine .inl ⟨rfl, fun K hK => ?_⟩
          have d8 : z1.tmps.getD 8 undef = .pointer (some ⟨w2.heap.size, 0, none⟩) := hag.2.2 8 (by kernel_rfl)
          have e8 := d8
          rw [Array.getD_eq_getD_getElem?] at e8
          have hcell : v1.cell? ⟨w2.heap.size, 0, none⟩ = some (.slice ra rl rc) := by
            have h := hC.bl.cell
            subst hE
            exact h
          have HC := Lib.hid hC
          clear hC hdep hag hdl
          go_simp
          exact hK _ _ (HC.out.same 1 (by omega) hlsz) (fun _ _ _ _ h => h) (by subst hE; rfl)
        · intro listed z1 v1 hC hlsz hun hdl hag hdep
          refine .inl ⟨rfl, fun K hK => ?_⟩
          have d10 : z1.tmps.getD 10 undef = .int .i64 (J : Int) := hag.2.2 10 (by kernel_rfl)
          have e10 := d10
          rw [Array.getD_eq_getD_getElem?] at e10
          have HC := Lib.hid hC
          clear hC hdep hag hdl
          go_simp
          exact hK _ _ (HC.out.same 2 (by omega) hlsz) (fun _ _ _ _ h => h) (by subst hE; rfl)
        · intro listed z1 v1 hC hlsz hun hdl hag hdep
          refine .inl ⟨rfl, fun K hK => ?_⟩
          have d5 : z1.tmps.getD 5 undef = .pointer (some ⟨w.heap.size, 0, none⟩) := hag.2.2 5 (by kernel_rfl)
          have e5 := d5
          rw [Array.getD_eq_getD_getElem?] at e5
          have hcell : v1.cell? ⟨w.heap.size, 0, none⟩ = some (.int .i64 i) := by
            have h := hC.bi.cell
            subst hE
            exact h
          have HC := Lib.hid hC
          clear hC hdep hag hdl
          go_simp
          exact hK _ _ (HC.out.same 3 (by omega) hlsz) (fun _ _ _ _ h => h) (by subst hE; rfl)
        · intro listed z1 v1 hC hlsz hun hdl hag hdep
          refine .inl ⟨rfl, fun K hK => ?_⟩
          have d28 : z1.tmps.getD 28 undef = .slice ra rl rc := by
            have h := hdep { on := 1, ground := .data } (by simp) rfl _ _ rfl rfl
            subst hE
            exact h
          have e28 := d28
          rw [Array.getD_eq_getD_getElem?] at e28
          have d29 : z1.tmps.getD 29 undef = .int .i64 (J : Int) := by
            have h := hdep { on := 2, ground := .data } (by simp) rfl _ _ rfl rfl
            subst hE
            exact h
          have e29 := d29
          rw [Array.getD_eq_getD_getElem?] at e29
          have d30 : z1.tmps.getD 30 undef = .int .i64 i := by
            have h := hdep { on := 3, ground := .data } (by simp) rfl _ _ rfl rfl
            subst hE
            exact h
          have e30 := d30
          rw [Array.getD_eq_getD_getElem?] at e30
          have hii := HII.out
          rw [hii] at e30
          have hjk : (J : Int) + (k : Int) ≤ (rc : Int) := by have := HRc.out; omega
          have hjk2 : J + k ≤ rc := by have := HRc.out; omega
          have hj0 : (J : Int) ≤ (J : Int) + (k : Int) := by omega
          have hkk : ((J : Int) + (k : Int)).toNat - J = k := by omega
          clear hii d30
          have HC := Lib.hid hC
          clear hC hdep hag hdl
          go_simp
          exact hK _ _ (HC.out.same 4 (by omega) hlsz) (fun _ _ _ _ h => h) (by subst hE; show Value.slice _ _ _ = Value.slice _ k _; first | rw [hkk] | rfl)
        · intro listed z1 v1 hC hlsz hun hdl hag hdep
          refine .inl ⟨rfl, fun K hK => ?_⟩
          have d31 : z1.tmps.getD 31 undef = .slice (if rc = J then ra else Option.map (fun x => x.add J) ra) k (rc - J) := by
            have h := hdep { on := 4, ground := .data } (by simp) rfl _ _ rfl rfl
            subst hE
            exact h
          have e31 := d31
          rw [Array.getD_eq_getD_getElem?] at e31
          have hcs : Calls Tryd.prog 32 #[.slice (if rc = J then ra else Option.map (fun x => x.add J) ra) k (rc - J)] v1 fun en v2 => en = .returned (.int .i64 (E.x : Int)) ∧ Below v1.heap.size v1 v2 := by
            have h1 : Rn ra rl (runesF l) v1 := by have h := hC.hrn; subst hE; exact h
            have h5 : sumS (((runesF l).drop J).take k) = E.x := by have h := HG5.out.hx; subst hE; exact h
            have h6 := rn_take (rn_from h1 HRc.out J (by omega) HRs.out) k (by omega)
            have h7 := sum_any _ k (rc - J) _ v1 h6
            rw [h5] at h7
            exact h7
          have HCS := Lib.hid hcs
          have HC := Lib.hid hC
          have HLkW : Hid (∀ b ∈ E.lk, b < v1.heap.size) := Lib.hid (fun b hb => Nat.lt_of_lt_of_le (HLkV.out b hb) hC.kl.1)
          clear hC hdep hag hdl hcs
          go_simp
          refine ⟨trivial, fun _ => by omega, (CallsIn.inRound l1 (callsIn_wide.2 HCS.out)).mono ?_⟩
          rintro e V2 ⟨rfl, hb2⟩
          exact hK _ _ (HC.out.grew hlsz hb2 HLkW.out) (fun j u _ _ h => by unfold AtEnv.Ok at h ⊢; split at h <;> exact h) rfl
        · intro listed z1 v1 hC hlsz hun hdl hag hdep
          refine .inl ⟨rfl, fun K hK => ?_⟩
          have d6 : z1.tmps.getD 6 undef = .pointer (some ⟨w.heap.size + 1, 0, none⟩) := hag.2.2 6 (by kernel_rfl)
          have e6 := d6
          rw [Array.getD_eq_getD_getElem?] at e6
          have d27 : z1.tmps.getD 27 undef = .int .i64 (y : Int) := by
            have h := hdep { on := 0, ground := .data } (by simp) rfl _ _ rfl rfl
            subst hE
            exact h
          have e27 := d27
          rw [Array.getD_eq_getD_getElem?] at e27
          have hbx := hC.b0
          have hR : E.R = w.heap.size := by subst hE; rfl
          have hY : E.y = y := by subst hE; rfl
          rw [hR] at hbx
          have hcell := hbx.cell
          have hfr := hbx.frozen
          have hput := hC.put0 HG5.out hlsz
          rw [hR, hY] at hput
          have HPut := Lib.hid hput
          clear hC hdep hag hdl hput hbx
          go_simp
          exact hK undef _ HPut.out (fun j u _ _ h => by unfold AtEnv.Ok at h ⊢; split at h <;> exact h) trivial
        · intro listed z1 v1 hC hlsz hun hdl hag hdep
          refine .inl ⟨rfl, fun K hK => ?_⟩
          have d7 : z1.tmps.getD 7 undef = .pointer (some ⟨w.heap.size + 2, 0, none⟩) := hag.2.2 7 (by kernel_rfl)
          have e7 := d7
          rw [Array.getD_eq_getD_getElem?] at e7
          have d32 : z1.tmps.getD 32 undef = .int .i64 (E.x : Int) := hdep { on := 5, ground := .data } (by simp) rfl _ _ rfl rfl
          have hXx : E.x = X := by subst hE; rfl
          rw [hXx] at d32
          have e32 := d32
          rw [Array.getD_eq_getD_getElem?] at e32
          have hbx := hC.b1
          have hR : E.R = w.heap.size := by subst hE; rfl
          rw [hR] at hbx
          have hcell := hbx.cell
          have hfr := hbx.frozen
          have hput := hC.put1 HG5.out hlsz
          rw [hR, hXx] at hput
          clear hXx
          have HPut := Lib.hid hput
          clear hC hdep hag hdl hput hbx
          go_simp
          exact hK undef _ HPut.out (fun j u _ _ h => by unfold AtEnv.Ok at h ⊢; split at h <;> exact h) trivial
    · have hno : Hid (∀ c ∈ pre ++ [x], ¬ ((c.1.1 : Int) ≤ i ∧ i < (c.1.2 : Int))) := Lib.hid (fun c hc => by
        rcases List.mem_append.1 hc with h | h
        · exact hI.no c h
        · rw [List.mem_singleton.1 h, hJ, hJ2]; exact hin)
      have hb2 : Hid (∀ u, u = Value.int .i64 ((y : Int) + 1) → ownPostK (KeepL (lookF w3.heap.size ra (runesF l))) (fun pre V => AtI w.heap.size w2.heap.size w w4 i ra rl rc (lookF w3.heap.size ra (runesF l)) pre V) (fun c pre V => AtX w.heap.size w i (runesF l) c pre V) (pre ++ [x]) V .normal { tmps := #[], defers := [] } (V.setCell ⟨w2.heap.size + 1, 0, none⟩ u)) := Lib.hid (by
        rintro u rfl
        have hs1 := HS1.out
        have hs2 := HS2.out
        refine ⟨KeepsOthers.setCell _ _ _, KeepL.setCell _ hnY _ _, hI.bi.other (by omega) _, hI.b0.other (by omega) _, hI.b1.other (by omega) _, hI.bl.other (by omega) _, ?_, hI.hb.setCell (p := ⟨w2.heap.size + 1, 0, none⟩) (by show w.heap.size ≤ w2.heap.size + 1; omega) _, keepL_t hI.kl (KeepL.setCell _ hnY _ _), hno.out⟩
        have h := hbY.set (.int .i64 ((y : Int) + 1))
        rw [List.length_append, List.length_singleton, hy]
        exact h)
      have hway : decide ((J : Int) ≤ i) = false ∨ (decide ((J : Int) ≤ i) = true ∧ decide (i < (J2 : Int)) = false) := by
        by_cases h : (J : Int) ≤ i
        · exact .inr ⟨decide_eq_true h, decide_eq_false (fun h2 => hin ⟨h, h2⟩)⟩
        · exact .inl (decide_eq_false h)
      clear hI hbY hx hltp hin
      rcases hway with d1 | ⟨d1, d2⟩
      all_goals
        gi_wp2_with fail
        have h := hb2.out _ rfl
        exact ⟨h.1, h.2.1, h.2.2⟩
  case done =>
    rintro D ys V hD hS hI hK
    subst hS
    have hnone : atF (clampW W) l i = (0, 0) := at_none (clampW_le W).1 (fun p hp => by
      rw [← HCs.out] at hp
      obtain ⟨c, hc, rfl⟩ := List.mem_map.1 hp
      exact hI.no c hc)
    have c0 := hI.b0.cell
    have f0 := hI.b0.frozen
    have c1 := hI.b1.cell
    have f1 := hI.b1.frozen
    have HB0 := Lib.hid hI.b0
    have HB1 := Lib.hid hI.b1
    have HB := Lib.hid hI.hb
    have HK := Lib.hid hK
    have HD := Lib.hid hD
    have HNo := Lib.hid hnone
    have hs1 := HS1.out
    clear hI hK hD hnone
    gi_wp2
    have hD3 : w4.heap.size ≤ D := HD.out
    have hD4 := HI0.out.b1.lt
    obtain ⟨V', hV'⟩ : ∃ V', (V.setCell ⟨w.heap.size + 1, 0, none⟩ (.int .i64 0)).setCell ⟨w.heap.size + 2, 0, none⟩ (.int .i64 0) = V' := ⟨_, rfl⟩
    show bodyPostM _ _ _ _ P .ret _ ((V.setCell ⟨w.heap.size + 1, 0, none⟩ (.int .i64 0)).setCell ⟨w.heap.size + 2, 0, none⟩ (.int .i64 0))
    rw [hV']
    have hk' : V'.heap[D]? = some (.deferred (some [])) := by
      rw [← hV']
      refine (Below.heap_setCell _ _ _ D (fun e => ?_)).trans ((Below.heap_setCell _ _ _ D (fun e => ?_)).trans HK.out)
      · have e2 : D = w.heap.size + 2 := e; omega
      · have e2 : D = w.heap.size + 1 := e; omega
    have B0' : Boxed V' (w.heap.size + 1) 3 (.int .i64 0) := by rw [← hV']; exact (HB0.out.set _).other (by omega) _
    have B1' : Boxed V' (w.heap.size + 2) 3 (.int .i64 0) := by rw [← hV']; exact (HB1.out.other (by omega) _).set _
    have hb' : Below w.heap.size w V' := by rw [← hV']; exact (HB.out.setCell (p := ⟨w.heap.size + 1, 0, none⟩) (by simp) _).setCell (p := ⟨w.heap.size + 2, 0, none⟩) (by simp) _
    refine ⟨by simp, .inl ⟨_, _, rfl, run_takeDeferred hk', ?_⟩⟩
    have hg := grownBy_putObj' V' D (.deferred none)
    have hr : ∀ r, some D = some r → ∃ o : Obj, V'.heap[r]? = some o ∧ o.isCells = false := fun r e => by cases e; exact ⟨_, hk', rfl⟩
    have c0' := (boxed_grown B0' hg hr).cell
    have c1' := (boxed_grown B1' hg hr).cell
    refine ⟨.tuple #[.int .i64 0, .int .i64 0], ?_, ?_⟩
    · rw [results_cell_cell rfl]
      clear hV' hk' B0' B1' hb' hg hr
      go_simp
    · rw [← HP.out]
      exact ⟨by rw [HNo.out]; rfl, hb'.trans (belowK_b (w := w) (Nat.le_refl _) V' D _ _ (by omega) hk' rfl rfl)⟩
  case stop =>
    rintro D c pre V hD ⟨j, hj, hpre⟩ ⟨rfl, p, x, hp, hin, hb0, hb1, hb⟩ hK
    have hfound : atF (clampW W) l i = (p.length, sumS (((runesF l).drop x.1.1).take (i.toNat - x.1.1))) := by
      have hjl : j = p.length + 1 := by
        have h := congrArg List.length hpre
        rw [hp, List.length_append, List.length_singleton, List.length_take] at h
        omega
      have hcx : cs[p.length]? = some x := by
        have h : (cs.take j)[p.length]? = some x := by rw [← hpre, hp]; simp
        rw [List.getElem?_take] at h
        split at h
        · exact h
        · cases h
      have hcc : (cutsF (clampW W) (runesF l))[p.length]? = some x.1 := by rw [← HCs.out, List.getElem?_map, hcx]; rfl
      obtain ⟨k, hk⟩ : ∃ k : Nat, i = (k : Int) := ⟨i.toNat, by omega⟩
      subst hk
      rw [Int.toNat_natCast]
      exact at_found (clampW_le W).1 hcc (by omega) (by omega)
    have HFd := Lib.hid hfound
    have HB0 := Lib.hid hb0
    have HB1 := Lib.hid hb1
    have HB := Lib.hid hb
    have HK := Lib.hid hK
    have HD := Lib.hid hD
    obtain ⟨Y, hY⟩ : ∃ Y, p.length = Y := ⟨_, rfl⟩
    obtain ⟨X, hX⟩ : ∃ X, sumS (((runesF l).drop x.1.1).take (i.toNat - x.1.1)) = X := ⟨_, rfl⟩
    rw [hY] at HB0 HFd
    rw [hX] at HB1 HFd
    clear hfound hb0 hb1 hb hK hD hin hp hpre hY hX
    gi_wp2
    have hD3 : w4.heap.size ≤ D := HD.out
    have hk' := HK.out
    refine ⟨by simp, .inl ⟨_, _, rfl, run_takeDeferred hk', ?_⟩⟩
    have hg := grownBy_putObj' V D (.deferred none)
    have hr : ∀ r, some D = some r → ∃ o : Obj, V.heap[r]? = some o ∧ o.isCells = false := fun r e => by cases e; exact ⟨_, hk', rfl⟩
    have c0' := (boxed_grown HB0.out hg hr).cell
    have c1' := (boxed_grown HB1.out hg hr).cell
    refine ⟨.tuple #[.int .i64 (Y : Int), .int .i64 (X : Int)], ?_, ?_⟩
    · rw [results_cell_cell rfl]
      clear hk' hg hr
      go_simp
    · rw [← HP.out]
      exact ⟨by rw [HFd.out], HB.out.trans (belowK_b (w := w) (Nat.le_refl _) V D _ _ (by omega) hk' rfl rfl)⟩
theorem at_any (a : Option Addr) (len cap : Nat) (l : List (Int × Int)) (W i : Int) (w : World) (h : PairsIn .i32 a len cap l w) (hT : Tab w) (hl : (len : Int) ≤ 100000) :
    Calls Tryd.prog 12 #[.slice a len cap, .int .i64 W, .int .i64 i] w (AtPost (atF (clampW W) l i) w) :=
  (callsIn_wide (n := 9)).1 (at_in 9 (Nat.le_refl _) a len cap l W i w h hT hl)
end Go.Proofs.YtjlhinofglokoaaDoor.F
