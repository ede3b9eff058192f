/- The iterator left: what is left of some spans without others, one behind the other. -/
import Derived.Test.YtkdkhphpknnceaaDoorHRange
namespace Go.Proofs.YtkdkhphpknnceaaDoor.H
open Go.RowKit Go.Shelf

attribute [local go_sem] Oper.semAt_some

/-- these blocks are kept -/
def KeepL (l : List Nat) (A B : World) : Prop := A.heap.size ≤ B.heap.size ∧ ∀ b ∈ l, b < A.heap.size → B.heap[b]? = A.heap[b]?
theorem KeepL.of_below {l : List Nat} {A B : World} {n : Nat} (h : Below n A B) (hl : ∀ b ∈ l, b < n) : KeepL l A B := ⟨h.size, fun b hb _ => h.block b (hl b hb)⟩
/-- blocks of one span alone are kept -/
def Small (A B : World) : Prop := ∀ (k : Nat) (u v : Value), A.heap[k]? = some (.cells #[u, v] 38 (0, 0)) → B.heap[k]? = some (.cells #[u, v] 38 (0, 0))
/-- the row of a box is there -/
def RowV (b0 : Nat) (A : World) : Prop := ∀ k, rowOf b0 A = some k → k < A.heap.size
/-- what becomes of a box's row -/
def RowR (b0 : Nat) (A B : World) : Prop := (RowV b0 A → RowV b0 B) ∧ ∀ k, rowOf b0 B = some k → rowOf b0 A = some k ∨ A.heap.size ≤ k
/-- what a round keeps -/
def KpL (b0 : Nat) (l : List Nat) (A B : World) : Prop := KeepL l A B ∧ Small A B ∧ RowR b0 A B
theorem kpL_t {b0 : Nat} {l : List Nat} {A B C : World} (h : KpL b0 l A B) (k : KpL b0 l B C) : KpL b0 l A C :=
  ⟨⟨Nat.le_trans h.1.1 k.1.1, fun b hb hlt => (k.1.2 b hb (Nat.lt_of_lt_of_le hlt h.1.1)).trans (h.1.2 b hb hlt)⟩, fun i u v hi => k.2.1 i u v (h.2.1 i u v hi), fun hv => k.2.2.1 (h.2.2.1 hv), fun i hi => by
    rcases k.2.2.2 i hi with e | e
    · exact h.2.2.2 i e
    · exact .inr (Nat.le_trans h.1.1 e)⟩
theorem rowOf_same {b0 : Nat} {A B : World} (h : B.heap[b0]? = A.heap[b0]?) : rowOf b0 B = rowOf b0 A := by
  unfold rowOf
  rw [World.cell?_of_block (a := ⟨b0, 0, none⟩) h]
theorem kpL_b {b0 : Nat} {l : List Nat} {w : World} (hb0 : b0 < w.heap.size) (hl : ∀ b ∈ l, b < w.heap.size) (W : World) (i : Nat) (o o' : Obj) (hi : w.heap.size ≤ i) (ho : W.heap[i]? = some o) (hc : o.isCells = false) (_ : o.isWalk = false) : KpL b0 l W (W.putObj i o') := by
  have hr : rowOf b0 (W.putObj i o') = rowOf b0 W := rowOf_same (World.putObj_heap_other (by omega))
  refine ⟨⟨by simp, fun b hb _ => World.putObj_heap_other (by have := hl b hb; omega)⟩, fun k u v hk => (World.putObj_heap_other (by rintro rfl; rw [hk] at ho; cases ho; cases hc)).trans hk, fun hv k hk => ?_, fun k hk => .inl (by rw [← hr]; exact hk)⟩
  rw [hr] at hk
  have := hv k hk
  simpa using this
theorem grownBy_of_below {w w' : World} (h : Below w.heap.size w w') : w.grownBy w' none := ⟨h.os, h.tape, h.output, h.size, fun k hk _ => h.block k hk⟩
def blkA (a : Option Addr) : List Nat := match a with
  | some a => [a.block]
  | none => []
def lookL (B1 B2 : Nat) (a1 a2 : Option Addr) : List Nat := B1 :: B2 :: (blkA a1 ++ blkA a2)
theorem PairsIn.blocks {rk : IntKind} {a : Option Addr} {n c : Nat} {gs : List (Int × Int)} {w w' : World} (h : PairsIn rk a n c gs w) (hs : w.heap.size ≤ w'.heap.size) (hk : ∀ b off, a = some ⟨b, off, none⟩ → b < w.heap.size → w'.heap[b]? = w.heap[b]?) : PairsIn rk a n c gs w' := by
  refine ⟨h.len, h.fit, h.top, h.at_.imp id ?_⟩
  rintro ⟨b, off, ha, hl, hi⟩
  have hk' := hk b off ha hl
  exact ⟨b, off, ha, Nat.lt_of_lt_of_le hl hs, fun i u hu => ⟨(World.cell?_of_block (a := ⟨b, off + i * 2, none⟩) hk').trans (hi i u hu).1, (World.cell?_of_block (a := ⟨b, off + i * 2 + 1, none⟩) hk').trans (hi i u hu).2⟩⟩
structure LLook (B1 B2 : Nat) (a1 : Option Addr) (n1 c1 : Nat) (xs : List Sp) (a2 : Option Addr) (n2 c2 : Nat) (ys : List Sp) (w : World) : Prop where
  b1 : Boxed w B1 32 (.slice a1 n1 c1)
  b2 : Boxed w B2 32 (.slice a2 n2 c2)
  p1 : PairsIn .i64 a1 n1 c1 xs w
  p2 : PairsIn .i64 a2 n2 c2 ys w
  lt : ∀ b ∈ lookL B1 B2 a1 a2, b < w.heap.size
theorem LLook.keep {B1 B2 : Nat} {a1 : Option Addr} {n1 c1 : Nat} {xs : List Sp} {a2 : Option Addr} {n2 c2 : Nat} {ys : List Sp} {w w' : World} (h : LLook B1 B2 a1 n1 c1 xs a2 n2 c2 ys w) (hk : KeepL (lookL B1 B2 a1 a2) w w') : LLook B1 B2 a1 n1 c1 xs a2 n2 c2 ys w' :=
  ⟨(hk.2 B1 (by simp [lookL]) h.b1.lt).trans h.b1, (hk.2 B2 (by simp [lookL]) h.b2.lt).trans h.b2, h.p1.blocks hk.1 (fun b off e hl => hk.2 b (by simp [lookL, blkA, e]) hl), h.p2.blocks hk.1 (fun b off e hl => hk.2 b (by simp [lookL, blkA, e]) hl), fun b hb => Nat.lt_of_lt_of_le (h.lt b hb) hk.1⟩
theorem LLook.below {B1 B2 : Nat} {a1 : Option Addr} {n1 c1 : Nat} {xs : List Sp} {a2 : Option Addr} {n2 c2 : Nat} {ys : List Sp} {w w' : World} (h : LLook B1 B2 a1 n1 c1 xs a2 n2 c2 ys w) (hb : Below w.heap.size w w') : LLook B1 B2 a1 n1 c1 xs a2 n2 c2 ys w' := h.keep (KeepL.of_below hb h.lt)

/-- what stands within a span's round -/
def InRnd (B1 B2 : Nat) (a1 : Option Addr) (n1 c1 : Nat) (xs : List Sp) (a2 : Option Addr) (n2 c2 : Nat) (ys : List Sp) (J : List Sp → World → Prop) (b0 base Bx : Nat) (T : List Sp) (k : Nat) (x : Sp) (w : World) : Prop :=
  LLook B1 B2 a1 n1 c1 xs a2 n2 c2 ys w ∧ w.heap[Bx]? = some (.cells #[.int .i64 x.1, .int .i64 x.2] 38 (0, 0)) ∧ RowV b0 w ∧ rowOf b0 w ≠ some Bx ∧ base ≤ Bx ∧ ∃ pre, pre ++ goLeft x (ys.drop k) = T ∧ J pre w
theorem RowV.below {b0 : Nat} {A B : World} (h : RowV b0 A) (hb0 : b0 < A.heap.size) (hb : Below A.heap.size A B) : RowV b0 B := fun k hk => by
  rw [rowOf_same (hb.block b0 hb0)] at hk
  exact Nat.lt_of_lt_of_le (h k hk) hb.size
set_option maxRecDepth 100000 in
set_option maxHeartbeats 4000000 in
theorem left1_in (n : Nat) (hn : 2 ≤ n) (l B1 B2 b0 base : Nat) (a1 : Option Addr) (n1 c1 : Nat) (xs : List Sp) (a2 : Option Addr) (n2 c2 : Nat) (ys : List Sp) (hl1 : (xs.length : Int) ≤ 1000000) (hl2 : (ys.length : Int) ≤ 1000000) (J : List Sp → World → Prop) (W : World) (hszb : base ≤ W.heap.size) (hJ : Abid base b0 J)
    (hY : ∀ pre x W, J pre W → pre.length < (leftL xs ys).length → YieldAt Fence.wide (n - 1) Tryd.prog l #[.agg #[.int .i64 x.1, .int .i64 x.2]] W fun e W' => e = .returned (.bool true) ∧ J (pre ++ [x]) W' ∧ KpL b0 (lookL B1 B2 a1 a2) W W')
    (hL : LLook B1 B2 a1 n1 c1 xs a2 n2 c2 ys W) (hLb : ∀ b ∈ lookL B1 B2 a1 a2, b < base) (hb0 : b0 < base) (hrv : RowV b0 W) (h0 : J [] W) :
    CallsIn Fence.wide n Tryd.prog 42 #[.func (.yield l) #[] #[], .pointer (some ⟨B1, 0, none⟩), .pointer (some ⟨B2, 0, none⟩)] W fun e W' => (∃ v, e = .returned v) ∧ J (leftL xs ys) W' := by
  obtain ⟨hx1, hx2⟩ : n1 = xs.length ∧ n2 = ys.length := ⟨hL.p1.len, hL.p2.len⟩
  rw [← hx1] at hl1
  rw [← hx2] at hl2
  have HN1 := Lib.hid hx1
  have HN2 := Lib.hid hx2
  have HY := Lib.hid hY
  have HJ := Lib.hid hJ
  have HL := Lib.hid hL
  have hs1 := hL.b1.cell
  have HRV := Lib.hid hrv
  have HLb := Lib.hid hLb
  clear hLb
  clear hY hJ hL hx1 hx2 hrv
  refine callsIn_of_wp Tryd.func42 rfl trivial ?_ rfl
  simp only [Tryd.ntmps42, List.size_toArray, List.length_cons, List.length_nil, Nat.reduceAdd, Nat.reduceSub, Array.replicate_succ, Array.replicate_zero, List.push_toArray, List.append_toArray, List.nil_append, List.cons_append]
  gi_wp2
  gi_loopw [11] (fun i wr => ∃ j : Nat, i = .int .i64 (j : Int) ∧ j ≤ n1 ∧ base ≤ wr.heap.size ∧ Hid (LLook B1 B2 a1 n1 c1 xs a2 n2 c2 ys wr ∧ RowV b0 wr ∧ J (leftL (xs.take j) ys) wr)) (fun i _ => n1 - (intOf i).toNat)
  case atStart => exact ⟨0, rfl, by omega, hszb, Lib.hid ⟨HL.out, HRV.out, h0⟩⟩
  case round =>
    rename_i wr
    obtain ⟨j, rfl, hj, hbw, HF⟩ := hrel
    clear hs1
    by_cases hlt : j < n1
    · obtain ⟨x, hx⟩ : ∃ x, xs[j]? = some x := ⟨_, List.getElem?_eq_getElem (by rw [← HN1.out]; exact hlt)⟩
      have hp1 := HF.out.1.p1
      obtain ⟨g, off, rfl, hgl, hat⟩ := hp1.at_.resolve_left (by intro e; rw [e] at hx; cases hx)
      have hxc1 := (hat j x hx).1
      have hxc2 := (hat j x hx).2
      obtain ⟨T, hT⟩ : ∃ T, leftL (xs.take (j + 1)) ys = T := ⟨_, rfl⟩
      have HT : Hid (leftL (xs.take j) ys ++ goLeft x ys = T) := Lib.hid (by
        have hjl := List.getElem?_eq_some_iff.1 hx
        rw [← hT, List.take_succ_eq_append_getElem hjl.1, leftL_append, hjl.2]
        simp [leftL])
      have HTle : Hid (T.length ≤ (leftL xs ys).length) := Lib.hid (by
        have : leftL xs ys = T ++ leftL (xs.drop (j + 1)) ys := by rw [← hT, ← leftL_append, List.take_append_drop]
        rw [this, List.length_append]; omega)
      have HTT := Lib.hid hT
      obtain ⟨X1, hX1⟩ : ∃ X1, x.1 = X1 := ⟨_, rfl⟩
      obtain ⟨X2, hX2⟩ : ∃ X2, x.2 = X2 := ⟨_, rfl⟩
      have hxe : x = (X1, X2) := Prod.ext hX1 hX2
      rw [hX1] at hxc1
      rw [hX2] at hxc2
      rw [hxe] at HT
      have hs2 : (wr.alloc (.cells #[.int .i64 X1, .int .i64 X2] 38)).cell? ⟨B2, 0, none⟩ = some (.slice a2 n2 c2) := by
        have := HF.out.1.b2.alloc (.cells #[.int .i64 X1, .int .i64 X2] 38)
        exact this.cell
      have hB2 := HF.out.1.b2.lt
      have HBb : Hid (Below wr.heap.size wr (wr.alloc (.cells #[.int .i64 X1, .int .i64 X2] 38))) := Lib.hid ((Below.refl _ _).alloc (Nat.le_refl _) _)
      clear hT hx hat hp1 hxe hX1 hX2
      gi_wp2
      obtain ⟨w1, hw1⟩ : ∃ w1, w1 = wr.alloc (.cells #[.int .i64 X1, .int .i64 X2] 38) := ⟨_, rfl⟩
      obtain ⟨Bx, hBx⟩ : ∃ Bx, Bx = wr.heap.size := ⟨_, rfl⟩
      have HS1 : Hid (InRnd B1 B2 (some ⟨g, off, none⟩) n1 c1 xs a2 n2 c2 ys J b0 base Bx T 0 (X1, X2) w1) := Lib.hid ⟨by rw [hw1]; exact HF.out.1.below HBb.out, by rw [hw1, hBx]; exact heap_alloc_new _ _, by rw [hw1]; exact HF.out.2.1.below (Nat.lt_of_lt_of_le hb0 hbw) HBb.out, (by
        intro e
        rw [hw1, rowOf_same (HBb.out.block b0 (Nat.lt_of_lt_of_le hb0 hbw))] at e
        have := HF.out.2.1 _ e
        omega), by omega, leftL (xs.take j) ys, HT.out, by rw [hw1]; exact HJ.out.below _ _ _ HF.out.2.2 HBb.out⟩
      have hb1 : base ≤ w1.heap.size := by rw [hw1]; simp; omega
      rw [← hw1, ← hBx]
      clear hs2 hxc1 hxc2 HBb HF HT hw1 hB2 hBx
      gi_loopw [17] (fun ii w2 => ∃ k : Nat, ii = .int .i64 (k : Int) ∧ k ≤ n2 ∧ base ≤ w2.heap.size ∧ Hid (∃ x', InRnd B1 B2 (some ⟨g, off, none⟩) n1 c1 xs a2 n2 c2 ys J b0 base Bx T k x' w2)) (fun ii _ => n2 - (intOf ii).toNat)
      case atStart => exact ⟨0, rfl, by omega, hb1, Lib.hid ⟨_, HS1.out⟩⟩
      case round =>
        obtain ⟨w2, hw2⟩ : ∃ w2, w2 = wr := ⟨_, rfl⟩
        subst hw2
        obtain ⟨k, rfl, hk, hb2, HR⟩ := hrel
        clear HS1
        obtain ⟨x', HR2⟩ := HR.out
        obtain ⟨hLk, hxb, hRVk, hrn, hbBx, pre, hpre, hJp⟩ := HR2
        have HRn := Lib.hid hrn
        have HRVk := Lib.hid hRVk
        have hz1 : w2.cell? ⟨Bx, 0, none⟩ = some (.int .i64 x'.1) := by rw [cell_block hxb]; rfl
        have hz2 : w2.cell? ⟨Bx, 1, none⟩ = some (.int .i64 x'.2) := by rw [cell_block hxb]; rfl
        have hzf0 : w2.frozen? ⟨Bx, 0, none⟩ = false := frozen_block hxb 0
        have hBxl : Bx < w2.heap.size := (Array.getElem?_eq_some_iff.1 hxb).1
        obtain ⟨P1, P2⟩ := x'
        simp only at hz1 hz2
        have HLk := Lib.hid hLk
        have HXb := Lib.hid hxb
        have HPre := Lib.hid hpre
        have HJp := Lib.hid hJp
        clear hLk hxb hpre hJp HR hrn hRVk
        by_cases hlt2 : k < n2
        · obtain ⟨y, hy⟩ : ∃ y, ys[k]? = some y := ⟨_, List.getElem?_eq_getElem (by rw [← HN2.out]; exact hlt2)⟩
          obtain ⟨g2, off2, rfl, hgl2, hat2⟩ := HLk.out.p2.at_.resolve_left (by intro e; rw [e] at hy; cases hy)
          have hyc1 := (hat2 k y hy).1
          have hyc2 := (hat2 k y hy).2
          obtain ⟨Y1, hY1⟩ : ∃ Y1, y.1 = Y1 := ⟨_, rfl⟩
          obtain ⟨Y2, hY2⟩ : ∃ Y2, y.2 = Y2 := ⟨_, rfl⟩
          have hye : y = (Y1, Y2) := Prod.ext hY1 hY2
          have hstep : goLeft (P1, P2) (ys.drop k) = (if P1 < min P2 Y1 then [(P1, min P2 Y1)] else []) ++ goLeft (max P1 Y2, P2) (ys.drop (k + 1)) := by
            have hkl := List.getElem?_eq_some_iff.1 hy
            rw [List.drop_eq_getElem_cons hkl.1, hkl.2, hye, goLeft]
          have HSt := Lib.hid hstep
          rw [hY1] at hyc1
          rw [hY2] at hyc2
          obtain ⟨A, hA⟩ : ∃ A, min P2 Y1 = A := ⟨_, rfl⟩
          obtain ⟨r, hr⟩ : ∃ r, NoneV (P1, A) = r := ⟨_, rfl⟩
          have HA := Lib.hid hA
          clear hat2 hy hstep hye hY1 hY2
          cases r
          · -- there is one ahead
            have HNo := Lib.hid (none_any (P1, A) ((w2.alloc (.cells #[.int .i64 Y1, .int .i64 Y2] 38)).alloc (.cells #[.int .i64 P1, .int .i64 A] 38)))
            rw [hr] at HNo
            have HBa : Hid (Below w2.heap.size w2 ((w2.alloc (.cells #[.int .i64 Y1, .int .i64 Y2] 38)).alloc (.cells #[.int .i64 P1, .int .i64 A] 38))) := Lib.hid (((Below.refl _ _).alloc (Nat.le_refl _) _).alloc (by simp) _)
            have HYb : Hid (((w2.alloc (.cells #[.int .i64 Y1, .int .i64 Y2] 38)).alloc (.cells #[.int .i64 P1, .int .i64 A] 38)).heap[w2.heap.size]? = some (.cells #[.int .i64 Y1, .int .i64 Y2] 38 (0, 0))) := Lib.hid ((Below.heap_alloc _ _ _ (by simp)).trans (heap_alloc_new _ _))
            have hr2 : P1 < min P2 Y1 := by rw [HA.out]; unfold NoneV at hr; simp at hr; exact hr
            have HR2 := Lib.hid hr2
            clear hr hr2
            gi_wp2_with fail
            refine ⟨by first | trivial | omega, fun _ => by omega, ?_⟩
            refine (callsIn_wide.2 HNo.out).mono ?_
            rintro e w4 ⟨rfl, hb4⟩
            have hBb : Below w2.heap.size w2 w4 := HBa.out.trans (hb4.mono HBa.out.size)
            have hY4 := (hb4.block _ (by simp; omega)).trans HYb.out
            have hX4 := (hBb.block Bx hBxl).trans HXb.out
            have hL4 := HLk.out.below hBb
            have hRV4 := HRVk.out.below (by omega) hBb
            have hrn4 : rowOf b0 w4 ≠ some Bx := by rw [rowOf_same (hBb.block b0 (by omega))]; exact HRn.out
            have hJ4 := HJ.out.below _ _ _ HJp.out hBb
            have hne := HR2.out
            rw [if_pos hne, HA.out] at HSt
            have hpre := HPre.out
            rw [HSt.out] at hpre
            have hlen : pre.length < (leftL xs ys).length := by
              have := congrArg List.length hpre
              have := HTle.out
              simp at *
              omega
            obtain ⟨fn, tmps, assign, body, hy, hR⟩ := HY.out pre (P1, A) w4 hJ4 hlen
            have hb4s := hBb.size
            have hz4 : w4.cell? ⟨w2.heap.size + 1, 0, none⟩ = some (.int .i64 P1) := by rw [hb4.cell (by simp)]; simp
            have hz5 : w4.cell? ⟨w2.heap.size + 1, 1, none⟩ = some (.int .i64 A) := by rw [hb4.cell (by simp)]; simp
            have HR := Lib.hid hR
            have HAll := Lib.hid (And.intro hY4 (And.intro hX4 (And.intro hL4 (And.intro hRV4 (And.intro hrn4 hpre)))))
            clear hBb hY4 hX4 hL4 hRV4 hrn4 hJ4 hne hpre hlen hR hb4 HXb HLk HRVk HRn HJp HPre hz1 hz2 hzf0 hyc1 hyc2
            gi_wp2
            refine ⟨fun _ => by omega, HR.out.mono ?_⟩
            rintro e W' ⟨rfl, hJ', hk'⟩
            obtain ⟨hY4, hX4, hL4, hRV4, hrn4, hpre⟩ := HAll.out
            have hX5 := hk'.2.1 Bx _ _ hX4
            have hY5 := hk'.2.1 _ _ _ hY4
            have hRV5 := hk'.2.2.1 hRV4
            have hrn5 : rowOf b0 W' ≠ some Bx := fun e => by
              rcases hk'.2.2.2 Bx e with e | e
              · exact hrn4 e
              · omega
            have hL5 := hL4.keep hk'.1
            have hs5 := hk'.1.1
            have HN5 := Lib.hid (And.intro hX5 (And.intro hL5 (And.intro hRV5 (And.intro hrn5 (And.intro hpre hJ')))))
            have hq1 : W'.cell? ⟨Bx, 0, none⟩ = some (.int .i64 P1) := by rw [cell_block hX5]; rfl
            have hq3 : W'.cell? ⟨w2.heap.size, 1, none⟩ = some (.int .i64 Y2) := by rw [cell_block hY5]; rfl
            have hqf : W'.frozen? ⟨Bx, 0, none⟩ = false := frozen_block hX5 0
            have hmx : max P1 Y2 = max P1 Y2 := rfl
            clear hY4 hX4 hL4 hRV4 hrn4 hpre hX5 hY5 hRV5 hrn5 hL5 hk' hJ' hmx HAll HR hy
            gi_wp2
            go_roundw
            case rel =>
              obtain ⟨hX5, hL5, hRV5, hrn5, hpre, hJ'⟩ := HN5.out
              have hkb : KeepB [Bx] W' (W'.setCell ⟨Bx, 0, none⟩ (.int .i64 (max P1 Y2))) := KeepB.setCell _
              have hnot : ∀ b ∈ lookL B1 B2 (some ⟨g, off, none⟩) (some ⟨g2, off2, none⟩), b ≠ Bx := fun b hb e => by have := HLb.out b hb; omega
              refine ⟨k + 1, by go_num, by omega, by have := hkb.size; omega, Lib.hid ⟨(max P1 Y2, P2), hL5.keep ⟨hkb.size, fun b hb hl => hkb.block b hl (by simpa using hnot b hb)⟩, ?_, ?_, ?_, hbBx, pre ++ [(P1, A)], by simpa using hpre, HJ.out.write _ _ _ _ _ _ hJ' hbBx hX5 hrn5⟩⟩
              · simp [World.setCell, Array.getElem?_modify, hX5]
              · intro q hq
                rw [rowOf_same (hkb.block b0 (by omega) (by simp; omega))] at hq
                exact Nat.lt_of_lt_of_le (hRV5 q hq) hkb.size
              · rw [rowOf_same (hkb.block b0 (by omega) (by simp; omega))]
                exact hrn5
            case measure => simp [intOf]; omega
          · -- there is none ahead of it
            have HNo := Lib.hid (none_any (P1, A) ((w2.alloc (.cells #[.int .i64 Y1, .int .i64 Y2] 38)).alloc (.cells #[.int .i64 P1, .int .i64 A] 38)))
            rw [hr] at HNo
            have HBa : Hid (Below w2.heap.size w2 ((w2.alloc (.cells #[.int .i64 Y1, .int .i64 Y2] 38)).alloc (.cells #[.int .i64 P1, .int .i64 A] 38))) := Lib.hid (((Below.refl _ _).alloc (Nat.le_refl _) _).alloc (by simp) _)
            have HYb : Hid (((w2.alloc (.cells #[.int .i64 Y1, .int .i64 Y2] 38)).alloc (.cells #[.int .i64 P1, .int .i64 A] 38)).heap[w2.heap.size]? = some (.cells #[.int .i64 Y1, .int .i64 Y2] 38 (0, 0))) := Lib.hid ((Below.heap_alloc _ _ _ (by simp)).trans (heap_alloc_new _ _))
            have hr2 : ¬ P1 < min P2 Y1 := by rw [HA.out]; unfold NoneV at hr; simp at hr; omega
            have HR2 := Lib.hid hr2
            clear hr hr2
            gi_wp2_with fail
            refine ⟨by first | trivial | omega, fun _ => by omega, ?_⟩
            refine (callsIn_wide.2 HNo.out).mono ?_
            rintro e w4 ⟨rfl, hb4⟩
            have hBb : Below w2.heap.size w2 w4 := HBa.out.trans (hb4.mono HBa.out.size)
            have hY5 := (hb4.block _ (by simp; omega)).trans HYb.out
            have hX5 := (hBb.block Bx hBxl).trans HXb.out
            have hL5 := HLk.out.below hBb
            have hRV5 := HRVk.out.below (by omega) hBb
            have hrn5 : rowOf b0 w4 ≠ some Bx := by rw [rowOf_same (hBb.block b0 (by omega))]; exact HRn.out
            have hJ5 := HJ.out.below _ _ _ HJp.out hBb
            have hne := HR2.out
            rw [if_neg (show ¬ P1 < min P2 Y1 by omega), List.nil_append] at HSt
            have hpre := HPre.out
            rw [HSt.out] at hpre
            have hb4s := hBb.size
            have HN5 := Lib.hid (And.intro hX5 (And.intro hL5 (And.intro hRV5 (And.intro hrn5 (And.intro hpre hJ5)))))
            have hq1 : w4.cell? ⟨Bx, 0, none⟩ = some (.int .i64 P1) := by rw [cell_block hX5]; rfl
            have hq3 : w4.cell? ⟨w2.heap.size, 1, none⟩ = some (.int .i64 Y2) := by rw [cell_block hY5]; rfl
            have hqf : w4.frozen? ⟨Bx, 0, none⟩ = false := frozen_block hX5 0
            clear hBb hY5 hX5 hL5 hRV5 hrn5 hJ5 hne hpre hb4 HXb HLk HRVk HRn HJp HPre hz1 hz2 hzf0 hyc1 hyc2
            gi_wp2
            refine ⟨fun f hf => (by cases hf), ?_⟩
            gi_wp2
            go_roundw
            case rel =>
              obtain ⟨hX5, hL5, hRV5, hrn5, hpre, hJ'⟩ := HN5.out
              have hkb : KeepB [Bx] w4 (w4.setCell ⟨Bx, 0, none⟩ (.int .i64 (max P1 Y2))) := KeepB.setCell _
              have hnot : ∀ b ∈ lookL B1 B2 (some ⟨g, off, none⟩) (some ⟨g2, off2, none⟩), b ≠ Bx := fun b hb e => by have := HLb.out b hb; omega
              refine ⟨k + 1, by go_num, by omega, by have := hkb.size; omega, Lib.hid ⟨(max P1 Y2, P2), hL5.keep ⟨hkb.size, fun b hb hl => hkb.block b hl (by simpa using hnot b hb)⟩, ?_, ?_, ?_, hbBx, pre, hpre, HJ.out.write _ _ _ _ _ _ hJ' hbBx hX5 hrn5⟩⟩
              · simp [World.setCell, Array.getElem?_modify, hX5]
              · intro q hq
                rw [rowOf_same (hkb.block b0 (by omega) (by simp; omega))] at hq
                exact Nat.lt_of_lt_of_le (hRV5 q hq) hkb.size
              · rw [rowOf_same (hkb.block b0 (by omega) (by simp; omega))]
                exact hrn5
            case measure => simp [intOf]; omega
        · -- behind all others
          obtain rfl : k = n2 := by omega
          have HEnd : Hid (pre ++ (if P1 < P2 then [(P1, P2)] else []) = T) := Lib.hid (by
            have h := HPre.out
            rw [HN2.out, List.drop_length] at h
            exact h)
          have HNo := fun W => none_any (P1, P2) W
          obtain ⟨r, hr⟩ : ∃ r, NoneV (P1, P2) = r := ⟨_, rfl⟩
          rw [hr] at HNo
          have HNo := Lib.hid HNo
          cases r
          · have hr2 : P1 < P2 := by unfold NoneV at hr; simp at hr; exact hr
            have hE := HEnd.out
            rw [if_pos hr2] at hE
            have HE := Lib.hid hE
            clear hr hr2 hE HEnd
            gi_wp2_with fail
            refine ⟨by first | trivial | omega, fun _ => by omega, ?_⟩
            refine (callsIn_wide.2 (HNo.out _)).mono ?_
            rintro e w4 ⟨rfl, hBb⟩
            have hX4 := (hBb.block Bx hBxl).trans HXb.out
            have hL4 := HLk.out.below hBb
            have hRV4 := HRVk.out.below (by omega) hBb
            have hJ4 := HJ.out.below _ _ _ HJp.out hBb
            have hlen : pre.length < (leftL xs ys).length := by
              have := congrArg List.length HE.out
              have := HTle.out
              simp at *
              omega
            obtain ⟨fn, tmps, assign, body, hy, hR⟩ := HY.out pre (P1, P2) w4 hJ4 hlen
            have hb4s := hBb.size
            have hz4 : w4.cell? ⟨Bx, 0, none⟩ = some (.int .i64 P1) := by rw [cell_block hX4]; rfl
            have hz5 : w4.cell? ⟨Bx, 1, none⟩ = some (.int .i64 P2) := by rw [cell_block hX4]; rfl
            have HR := Lib.hid hR
            have HAll := Lib.hid (And.intro hL4 hRV4)
            clear hX4 hL4 hRV4 hJ4 hlen hR hBb HXb HLk HRVk HRn HJp HPre hz1 hz2 hzf0 HNo
            gi_wp2
            refine ⟨fun _ => by omega, HR.out.mono ?_⟩
            rintro e W' ⟨rfl, hJ', hk'⟩
            have HF5 : Hid (LLook B1 B2 (some ⟨g, off, none⟩) n1 c1 xs a2 k c2 ys W' ∧ RowV b0 W' ∧ J (leftL (xs.take (j + 1)) ys) W') := Lib.hid ⟨HAll.out.1.keep hk'.1, hk'.2.2.1 HAll.out.2, by rw [HTT.out, ← HE.out]; exact hJ'⟩
            have hs5 := hk'.1.1
            clear hk' hJ' HR hy
            gi_wp2
            go_roundw
            case rel => exact ⟨j + 1, by go_num, by omega, by omega, HF5⟩
            case measure => simp [intOf]; omega
          · have hr2 : ¬ P1 < P2 := by unfold NoneV at hr; simp at hr; omega
            have hE := HEnd.out
            rw [if_neg hr2, List.append_nil] at hE
            have HE := Lib.hid hE
            clear hr hr2 hE HEnd
            gi_wp2_with fail
            refine ⟨by first | trivial | omega, fun _ => by omega, ?_⟩
            refine (callsIn_wide.2 (HNo.out _)).mono ?_
            rintro e w4 ⟨rfl, hBb⟩
            have HF5 : Hid (LLook B1 B2 (some ⟨g, off, none⟩) n1 c1 xs a2 k c2 ys w4 ∧ RowV b0 w4 ∧ J (leftL (xs.take (j + 1)) ys) w4) := Lib.hid ⟨HLk.out.below hBb, HRVk.out.below (by omega) hBb, by rw [HTT.out, ← HE.out]; exact HJ.out.below _ _ _ HJp.out hBb⟩
            have hb4s := hBb.size
            clear hBb HXb HLk HRVk HRn HJp HPre hz1 hz2 hzf0 HNo
            gi_wp2
            refine ⟨fun f hf => (by cases hf), ?_⟩
            gi_wp2
            go_roundw
            case rel => exact ⟨j + 1, by go_num, by omega, by omega, HF5⟩
            case measure => simp [intOf]; omega
    · obtain rfl : j = n1 := by omega
      have HFin : Hid (xs.take j = xs) := Lib.hid (by rw [HN1.out]; exact List.take_length)
      gi_wp2
      go_end0
      exact ⟨⟨_, rfl⟩, by have h := HF.out.2.2; rwa [HFin.out] at h⟩
end Go.Proofs.YtkdkhphpknnceaaDoor.H
