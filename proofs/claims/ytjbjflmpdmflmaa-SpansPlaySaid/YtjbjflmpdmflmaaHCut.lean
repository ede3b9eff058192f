/- Cut of a set, of one span. -/
import Derived.Test.YtjbjflmpdmflmaaHAdd
namespace Go.Proofs.Ytjbjflmpdmflmaa.H
open Go.RowKit Go.Shelf

attribute [local go_sem] Oper.semAt_some

theorem goLeft_out {x y : Sp} (hy : y.1 < y.2) (hx : x.1 < x.2) (h : y.2 ≤ x.1 ∨ x.2 ≤ y.1) : goLeft y [x] = [y] := by
  obtain ⟨y1, y2⟩ := y
  obtain ⟨x1, x2⟩ := x
  simp only at hy hx h
  simp only [goLeft]
  rcases h with h | h
  · rw [if_pos (by omega), if_neg (by omega), show min y2 x1 = y2 by omega]; rfl
  · rw [if_neg (by omega), if_pos (by omega), show max y1 x2 = y1 by omega]; rfl
theorem leftL_out {x : Sp} (hx : x.1 < x.2) : ∀ (l : List Sp), (∀ y ∈ l, y.1 < y.2 ∧ (y.2 ≤ x.1 ∨ x.2 ≤ y.1)) → leftL l [x] = l
  | [], _ => rfl
  | y :: l, h => by
    have h1 := h y List.mem_cons_self
    rw [leftL_cons, goLeft_out h1.1 hx h1.2, leftL_out hx l (fun z hz => h z (List.mem_cons_of_mem _ hz))]
    rfl
theorem cut_parts {x : Sp} {l : List Sp} {c : Int} (hn : Norm c l) (hx : x.1 < x.2) : l.take (ovA x l) ++ leftL ((l.drop (ovA x l)).take (ovB x l - ovA x l)) [x] ++ l.drop (ovB x l) = leftL l [x] := by
  have hle := ovB_le x l
  have e : l = l.take (ovA x l) ++ (l.drop (ovA x l)).take (ovB x l - ovA x l) ++ l.drop (ovB x l) := by
    have h1 : (l.drop (ovA x l)).drop (ovB x l - ovA x l) = l.drop (ovB x l) := by rw [List.drop_drop]; congr 1; omega
    rw [List.append_assoc, ← h1, List.take_append_drop, List.take_append_drop]
  have hfull : ∀ y ∈ l, y.1 < y.2 := fun y hy => by
    obtain ⟨i, hi⟩ := List.mem_iff_getElem?.1 hy
    exact hn.full i y hi
  have h1 : leftL (l.take (ovA x l)) [x] = l.take (ovA x l) := leftL_out hx _ (fun y hy => by
    obtain ⟨i, hi⟩ := List.mem_iff_getElem?.1 hy
    rw [List.getElem?_take] at hi
    split at hi
    · rename_i hlt
      have := (behN_spec x.1 l c hn i y hi).2 hlt
      exact ⟨hn.full i y hi, .inl this⟩
    · cases hi)
  have h2 : leftL (l.drop (ovB x l)) [x] = l.drop (ovB x l) := leftL_out hx _ (fun y hy => by
    obtain ⟨i, hi⟩ := List.mem_iff_getElem?.1 hy
    rw [List.getElem?_drop] at hi
    refine ⟨hn.full _ y hi, .inr ?_⟩
    have hbl : ovB x l < l.length := by have := (List.getElem?_eq_some_iff.1 hi).1; omega
    obtain ⟨z, hz⟩ : ∃ z, l[ovB x l]? = some z := ⟨_, List.getElem?_eq_getElem hbl⟩
    have h3 := (ovB_spec x l _ z hz hle.1).2 rfl
    rcases Nat.eq_or_lt_of_le (Nat.zero_le i) with e0 | h0
    · rw [← e0, Nat.add_zero, hz] at hi
      cases hi
      omega
    · have := hn.apart _ _ _ _ hz hi (by omega)
      have := hn.full _ _ hz
      omega)
  conv => rhs; rw [e]
  rw [leftL_append, leftL_append, h1, h2]
theorem mid_blk {a : Option Addr} {c J1 s : Nat} (hA : ∀ b off, a = some ⟨b, off, none⟩ → b < s ∧ off = 0) (hsp : ∀ x, a = some x → x = ⟨x.block, x.off, none⟩) : ∀ q ∈ blkA (if c = J1 then a else Option.map (fun x => x.add (J1 * 2)) a), q < s := fun q hq => by
  cases a with
  | none => split at hq <;> cases hq
  | some ad =>
    obtain ⟨g, off, sp⟩ := ad
    have hx := hsp _ rfl
    obtain rfl : sp = none := by injection hx
    obtain ⟨hg, rfl⟩ := hA g off rfl
    have hadd : (⟨g, 0, none⟩ : Addr).add (J1 * 2) = ⟨g, 0 + J1 * 2, none⟩ := by unfold Addr.add; split <;> simp_all
    have : q = g := by
      split at hq
      · simpa [blkA] using hq
      · rw [Option.map_some, hadd] at hq; simpa [blkA] using hq
    omega
theorem leftL_len (ys : List Sp) : ∀ (l : List Sp), (leftL l ys).length ≤ l.length * (ys.length + 1)
  | [] => by simp [leftL]
  | x :: l => by
    have := leftL_len ys l
    have := goLeft_len ys x
    rw [leftL_cons, List.length_append, List.length_cons, Nat.succ_mul]
    omega
/-- the states of a drawn region with two loud operations -/
def DuoS (C0 : World → Prop) (C2 : Value → World → Prop) (C3 : World → Prop) (s2 : Nat) : Nat → (Nat → Value) → World → Prop
  | 0, _, u => C0 u
  | 1, f, u => C2 (f s2) u
  | _, _, u => C3 u
theorem DuoS.cong {C0 : World → Prop} {C2 : Value → World → Prop} {C3 : World → Prop} {s2 k : Nat} {f f2 : Nat → Value} {u : World} (e2 : k = 1 → f s2 = f2 s2) (h : DuoS C0 C2 C3 s2 k f u) : DuoS C0 C2 C3 s2 k f2 u := by
  match k, h, e2 with
  | 0, h, _ => exact h
  | 1, h, e2 => show C2 (f2 s2) u; rw [← e2 rfl]; exact h
  | _ + 2, h, _ => exact h
theorem DuoS.base {w6 : World} {C2 : Value → World → Prop} {C3 : World → Prop} {s2 k : Nat} {f : Nat → Value} {u : World} (hk : k = 0) (h : DuoS (fun u => Below w6.heap.size w6 u) C2 C3 s2 k f u) : Below w6.heap.size w6 u := by
  subst hk
  exact h
/-- what stands when a span is cut -/
def CutE (b : Nat) (M : List Nat) (out : List Sp) (w : World) (D : Nat) (u : World) : Prop := (∃ M', St b M' out u ∧ KeepB M w u ∧ (∀ p ∈ M', p ∈ M ∨ w.heap.size ≤ p) ∧ ∀ p ∈ M', p ≠ D) ∧ u.heap[D]? = some (.deferred (some []))
/-- what stands between two rounds -/
def CutI (b : Nat) (M : List Nat) (l : List Sp) (x : Sp) (w : World) (k : Nat) (ds : List Deferred) (W : World) : Prop :=
  (k = 0 ∧ ds = [] ∧ W = w) ∨ (k = 1 ∧ ds = [] ∧ ∃ M', St b M' (cutS l x) W ∧ KeepB M w W ∧ ∀ p ∈ M', p ∈ M ∨ w.heap.size ≤ p) ∨ (k = 1 ∧ ∃ D, ds = [{ target := .collected D, args := #[] }] ∧ w.heap.size ≤ D ∧ CutE b M (cutS l x) w D W)
theorem CutE.post {b : Nat} {M : List Nat} {out : List Sp} {w W : World} {D : Nat} (h : CutE b M out w D W) (hD : w.heap.size ≤ D) : ChPost b M out w (.returned (.tuple #[])) (W.putObj D (.deferred none)) := by
  obtain ⟨⟨M', ⟨vl, h1⟩, h2, h3, hne⟩, h4⟩ := h
  refine ⟨rfl, M', ⟨vl, h1.moved (by simp) (fun p hp => World.putObj_heap_other (hne p hp))⟩, ?_, h3⟩
  exact h2.two (L := [D]) ⟨rfl, rfl, rfl, by simp, fun i hi hn => World.putObj_heap_other (fun e => hn (by simp [e]))⟩ (fun p hp => .inr (by rw [show p = D by simpa using hp]; exact hD))
def C7Ok (b xb K1 K2 N cp s0 : Nat) (a : Option Addr) (X1 X2 : Int) (ys : List Sp) : Nat → Value → World → Prop
  | 0, u, _ => u = .pointer (some ⟨b, 0, none⟩)
  | 1, u, _ => u = .pointer (some ⟨b, 0, none⟩)
  | 2, u, _ => u = .pointer (some ⟨b, 0, none⟩)
  | 3, u, _ => u = .slice a N cp
  | 4, u, _ => u = .int .i64 (K1 : Int)
  | 5, u, _ => u = .int .i64 (K2 : Int)
  | 6, u, w => ∃ a2 n2 c2, u = .slice a2 n2 c2 ∧ PairsIn .i64 a2 n2 c2 ys w ∧ ∀ q ∈ blkA a2, q < s0
  | 7, u, _ => u = .agg #[.int .i64 X1, .int .i64 X2]
  | 8, u, w => ∃ g, u = .slice (some ⟨g, 0, none⟩) 1 1 ∧ w.heap[g]? = some (.cells #[.int .i64 X1, .int .i64 X2] 38 (0, 0))
  | _, _, _ => True
def C10Ok (b b0 K1 K2 N cp m2 c2 : Nat) (a a2 : Option Addr) : Nat → Value → World → Prop
  | 0, u, _ => u = .pointer (some ⟨b, 0, none⟩)
  | 1, u, _ => u = .pointer (some ⟨b, 0, none⟩)
  | 2, u, _ => u = .pointer (some ⟨b, 0, none⟩)
  | 3, u, _ => u = .pointer (some ⟨b, 0, none⟩)
  | 4, u, _ => u = .slice a N cp
  | 5, u, _ => u = .int .i64 (K1 : Int)
  | 6, u, _ => u = .int .i64 (K2 : Int)
  | 7, u, _ => u = .slice a2 m2 c2
  | 8, _, _ => True
  | 9, u, _ => u = .pointer (some ⟨b, 0, none⟩)
  | 10, u, _ => u = .pointer (some ⟨b, 0, none⟩)
  | 11, _, _ => True
  | _, _, _ => True
set_option maxRecDepth 100000 in
set_option maxHeartbeats 16000000 in
theorem cut_any {b : Nat} {M : List Nat} {l : List Sp} (a0 : Option Addr) (c0 : Nat) (x : Sp) (w : World) (h : St b M l w) (hn : Nm l) (hl : (l.length : Int) ≤ 100000) (hX : PairsIn .i64 a0 1 c0 [x] w) :
    Calls Try.prog 19 #[.pointer (some ⟨b, 0, none⟩), .slice a0 1 c0] w (ChPost b M (cutS l x) w) := by
  have HSt := Lib.hid h
  have HNm := Lib.hid hn
  have HX := Lib.hid hX
  have HLn : Hid (l.length ≤ 100000) := Lib.hid (by omega)
  clear h hn hl hX
  refine (callsIn_wide (n := 6)).1 (callsIn_of_wp_marks Try.func19 rfl trivial ?_ rfl)
  simp only [Try.ntmps19, List.size_toArray, List.length_cons, List.length_nil, Nat.reduceAdd, Nat.reduceSub, Array.replicate_succ, Array.replicate_zero, List.push_toArray, List.append_toArray, List.nil_append, List.cons_append]
  rw [wpIn_wide]
  go_wp2_with fail
  refine wp_loop (fun a' W => ∃ (k : Nat) (u : Nat → Value) (ds : List Deferred), k ≤ 1 ∧ Hid (CutI b M l x w k ds W) ∧ a' = { tmps := #[.pointer (some ⟨b, 0, none⟩), .slice a0 1 c0, undef, undef, undef, u 5, u 6, u 7, u 8, u 9, .slice a0 1 c0, .int .i64 1, .int .i64 (k : Int), u 13, u 14, u 15, u 16, u 17, u 18, u 19, u 20, u 21, u 22, u 23, u 24, u 25, u 26, u 27, u 28, u 29, u 30, u 31, u 32, u 33, u 34, u 35, u 36, u 37, u 38, u 39, u 40, u 41, u 42, u 43, u 44, u 45, u 46, u 47, u 48, u 49, u 50, u 51, u 52], defers := ds }) (fun a' _ => 1 - (intOf (a'.tmps.getD 12 undef)).toNat) ⟨0, fun _ => undef, [], by omega, Lib.hid (.inl ⟨rfl, rfl, rfl⟩), rfl⟩ ?_
  rintro a' W ⟨k, u, ds, hk, HI, rfl⟩
  by_cases hlt : k < 1
  · obtain rfl : k = 0 := by omega
    obtain ⟨hds, hW⟩ : ds = [] ∧ w = W := by
      rcases HI.out with ⟨-, h1, h2⟩ | ⟨h1, -⟩ | ⟨h1, -⟩
      · exact ⟨h1, h2.symm⟩
      · omega
      · omega
    subst hds
    subst hW
    clear HI
    obtain ⟨g, off, rfl, hgl, hat⟩ := HX.out.at_.resolve_left (by simp)
    have hx1 : w.cell? ⟨g, off, none⟩ = some (.int .i64 x.1) := by have := (hat 0 x rfl).1; simpa using this
    have hx2 : w.cell? ⟨g, off + 1, none⟩ = some (.int .i64 x.2) := by have := (hat 0 x rfl).2; simpa using this
    have hx1' : w.cell? ⟨g, off + 0 * 2, none⟩ = some (.int .i64 x.1) := by simpa using hx1
    obtain ⟨x1, x2⟩ := x
    obtain ⟨X1, hX1⟩ : ∃ X1, near x1 = X1 := ⟨_, rfl⟩
    obtain ⟨X2, hX2⟩ : ∃ X2, near x2 = X2 := ⟨_, rfl⟩
    have HX12 := Lib.hid (And.intro hX1 hX2)
    obtain ⟨wa, hwa⟩ : ∃ wa, wa = w.alloc (.cells #[.int .i64 x1, .int .i64 x2] 38) := ⟨_, rfl⟩
    obtain ⟨xb, hxb⟩ : ∃ xb, xb = w.heap.size := ⟨_, rfl⟩
    have HCn := Lib.hid (counted_any (x1, x2) wa)
    have HXa : Hid (wa.heap[xb]? = some (.cells #[.int .i64 x1, .int .i64 x2] 38 (0, 0))) := Lib.hid (by rw [hwa, hxb]; exact heap_alloc_new _ _)
    have HBa : Hid (Below w.heap.size w wa) := Lib.hid (by rw [hwa]; exact (Below.refl _ _).alloc (Nat.le_refl _) _)
    have HWA := Lib.hid hwa
    have HSX := Lib.hid hxb
    have HXl0 : Hid (xb < wa.heap.size) := Lib.hid (Array.getElem?_eq_some_iff.1 HXa.out).1
    clear hat hX1 hX2 hwa hxb HX
    go_wp2_with fail
    rw [← HWA.out, ← HSX.out]
    refine HCn.out.mono ?_
    rintro e w1 ⟨rfl, hb1⟩
    rw [HX12.out.1, HX12.out.2]
    have hx1b : w1.heap[xb]? = some (.cells #[.int .i64 x1, .int .i64 x2] 38 (0, 0)) := (hb1.block xb HXl0.out).trans HXa.out
    have hf0 : w1.frozen? ⟨xb, 0, none⟩ = false := frozen_block hx1b 0
    have hf1 : w1.frozen? ⟨xb, 1, none⟩ = false := frozen_block hx1b 1
    have hc0 : w1.cell? ⟨xb, 0, none⟩ = some (.int .i64 x1) := by rw [cell_block hx1b]; rfl
    have hc1 : w1.cell? ⟨xb, 1, none⟩ = some (.int .i64 x2) := by rw [cell_block hx1b]; rfl
    have HX1 := Lib.hid hx1b
    have HB1 : Hid (Below w.heap.size w w1) := Lib.hid (HBa.out.trans (hb1.mono HBa.out.size))
    clear hx1b hb1 HCn HXa HBa HWA HXl0 hx1 hx2 hx1'
    go_upto_region 4 with fail
    obtain ⟨w2, hw2⟩ : ∃ w2, w2 = (w1.setCell ⟨xb, 0, none⟩ (.int .i64 X1)).setCell ⟨xb, 1, none⟩ (.int .i64 X2) := ⟨_, rfl⟩
    rw [← hw2]
    have hx2b : w2.heap[xb]? = some (.cells #[.int .i64 X1, .int .i64 X2] 38 (0, 0)) := by rw [hw2]; simp [World.setCell, Array.getElem?_modify, HX1.out]
    have hb2 : Below w.heap.size w w2 := by rw [hw2]; exact (HB1.out.setCell (p := ⟨xb, 0, none⟩) (by rw [HSX.out]; exact Nat.le_refl _) _).setCell (p := ⟨xb, 1, none⟩) (by rw [HSX.out]; exact Nat.le_refl _) _
    have hc0 : w2.cell? ⟨xb, 0, none⟩ = some (.int .i64 X1) := by rw [cell_block hx2b]; rfl
    have hc1 : w2.cell? ⟨xb, 1, none⟩ = some (.int .i64 X2) := by rw [cell_block hx2b]; rfl
    have HX2 := Lib.hid hx2b
    have HB2 := Lib.hid hb2
    have HNo := Lib.hid (none_any (X1, X2) w2)
    clear hw2 hx2b hb2 HX1 HB1
    obtain ⟨r, hr⟩ : ∃ r, NoneV (X1, X2) = r := ⟨_, rfl⟩
    rw [hr] at HNo
    cases r
    · have hlt12 : X1 < X2 := by unfold NoneV at hr; simp at hr; exact hr
      have HLt := Lib.hid hlt12
      clear hr hlt12
      go_wp2_with fail
      refine HNo.out.mono ?_
      rintro e w3 ⟨rfl, hb3⟩
      have hx3 := (hb3.block xb (Array.getElem?_eq_some_iff.1 HX2.out).1).trans HX2.out
      have hB3 : Below w.heap.size w w3 := HB2.out.trans (hb3.mono HB2.out.size)
      obtain ⟨vl, hS0⟩ := HSt.out
      have hS3 := hS0.below hB3
      have HOv := Lib.hid (over_any hS3 HNm.out.1 (by have := HLn.out; omega) (X1, X2))
      obtain ⟨K1, hK⟩ : ∃ K, ovA (X1, X2) l = K := ⟨_, rfl⟩
      obtain ⟨K2, hK2⟩ : ∃ K2, ovB (X1, X2) l = K2 := ⟨_, rfl⟩
      have HK := Lib.hid (And.intro hK hK2)
      have hc0 : w3.cell? ⟨xb, 0, none⟩ = some (.int .i64 X1) := by rw [cell_block hx3]; rfl
      have hc1 : w3.cell? ⟨xb, 1, none⟩ = some (.int .i64 X2) := by rw [cell_block hx3]; rfl
      have HS0 := Lib.hid hS0
      have HX3 := Lib.hid hx3
      have HB3 := Lib.hid hB3
      clear hb3 hx3 hB3 hS0 hS3 hK hK2 HX2 HB2 HNo
      go_wp2_with fail
      refine HOv.out.mono ?_
      rintro e w4 ⟨rfl, hb4⟩
      rw [HK.out.1, HK.out.2]
      have HX4 : Hid (w4.heap[xb]? = some (.cells #[.int .i64 X1, .int .i64 X2] 38 (0, 0))) := Lib.hid ((hb4.block xb (Array.getElem?_eq_some_iff.1 HX3.out).1).trans HX3.out)
      have HB4 : Hid (Below w.heap.size w w4) := Lib.hid (HB3.out.trans (hb4.mono HB3.out.size))
      clear hb4 hc0 hc1 HX3 HB3 HOv
      go_upto_region 7 with fail
      obtain ⟨w5, hw5⟩ : ∃ w5, w5 = w4.alloc (.cells #[.slice none 0 0] 26) := ⟨_, rfl⟩
      obtain ⟨b0, hb0⟩ : ∃ b0, b0 = w4.heap.size := ⟨_, rfl⟩
      rw [← hw5, ← hb0]
      have hb5 : Below w4.heap.size w4 w5 := by rw [hw5]; exact (Below.refl _ _).alloc (Nat.le_refl _) _
      have hbx5 : Boxed w5 b0 26 (.slice none 0 0) := by rw [hw5, hb0]; exact Boxed.new _ _ _
      have HB5 : Hid (Below w.heap.size w w5) := Lib.hid (HB4.out.trans (hb5.mono HB4.out.size))
      have HX5 : Hid (w5.heap[xb]? = some (.cells #[.int .i64 X1, .int .i64 X2] 38 (0, 0))) := Lib.hid ((hb5.block xb (Array.getElem?_eq_some_iff.1 HX4.out).1).trans HX4.out)
      have HBx5 := Lib.hid hbx5
      have HB45 := Lib.hid hb5
      have HB0 := Lib.hid hb0
      have hs5 := HS0.out.below HB5.out
      obtain ⟨a, cp, hv, hI, hA, -⟩ := hs5.own.shape
      subst hv
      obtain ⟨N, hN⟩ : ∃ N, l.length = N := ⟨_, rfl⟩
      have HSp : Hid (∀ x, a = some x → x = ⟨x.block, x.off, none⟩) := Lib.hid (own_plain hs5.own)
      rw [hN] at hI
      have hle := ovB_le (X1, X2) l
      rw [HK.out.1, HK.out.2, hN] at hle
      have hk1 := hle.1
      have hk2 := hle.2
      have hcf := hI.fit
      have hct := hI.top
      obtain ⟨ys, hys⟩ : ∃ ys, (l.drop K1).take (K2 - K1) = ys := ⟨_, rfl⟩
      have hyl : ys.length = K2 - K1 := by rw [← hys, List.length_take, List.length_drop, hN]; omega
      have hNl : N ≤ 100000 := by have := HLn.out; omega
      have HYl : Hid (ys.length = K2 - K1) := Lib.hid hyl
      have HX0 : Hid (w5.cell? ⟨xb, 0, none⟩ = some (.int .i64 X1)) := Lib.hid (by rw [cell_block HX5.out]; rfl)
      have HX1 : Hid (w5.cell? ⟨xb, 1, none⟩ = some (.int .i64 X2)) := Lib.hid (by rw [cell_block HX5.out]; rfl)
      have HXl : Hid (xb < w5.heap.size) := Lib.hid (Array.getElem?_eq_some_iff.1 HX5.out).1
      have HBl : Hid (b < w5.heap.size) := Lib.hid hs5.b_lt
      have HC0 : Hid (w5.cell? ⟨b, 0, none⟩ = some (.slice a N cp)) := Lib.hid (by rw [hs5.c0, hN])
      have HI := Lib.hid hI
      have HA : Hid (∀ b off, a = some ⟨b, off, none⟩ → b < w.heap.size ∧ off = 0) := Lib.hid (fun b off e => ⟨(HS0.out.own.ownBlock b (by rw [e]; rfl)).2, (hA b off e).2.2⟩)
      have HYs := Lib.hid hys
      have HN := Lib.hid hN
      have hk3 : K2 ≤ cp := by omega
      have hk1i : (K1 : Int) ≤ (K2 : Int) := by omega
      clear hw5 hb0 hb5 hbx5 hs5 hI hA hN hle hys hyl HX4
      refine Go.Proofs.Ytjbjflmpdmflmaa.R.wp_region_tailT 9 (by kernel_rfl) (fun u => Below w5.heap.size w5 u) (fun u v => Below u.heap.size u v) (C7Ok b xb K1 K2 N cp w.heap.size a X1 X2 ys) (by rfl) (by kernel_rfl) (by decide) (by kernel_rfl) (by kernel_rfl) (by kernel_rfl) ?hC ?hOk ?hop ?hdone ((Below.refl _ _).drew)
      case hC => exact fun u v h1 h2 => h1.trans (h2.mono h1.size)
      case hOk =>
        intro i u w1 w2 h hr
        unfold C7Ok at h ⊢
        split <;> first | exact True.intro | exact h | (obtain ⟨g, e, h1⟩ := h; exact ⟨g, e, (hr.block _ (Array.getElem?_eq_some_iff.1 h1).1).trans h1⟩) | (obtain ⟨a2, n2, c2, e, h1, h2⟩ := h; exact ⟨a2, n2, c2, e, h1.belowAll hr, h2⟩)
      case hop =>
        refine ⟨?_, ?_, ?_, ?_, ?_, ?_, ?_, ?_, ?_, trivial⟩
        · intro z v hz hag hdep
          refine .inl ⟨rfl, fun K hK => ?_⟩
          have d0 : z.tmps.getD 0 undef = .pointer (some ⟨b, 0, none⟩) := hag.2.2 0 (by kernel_rfl)
          have e0 := d0
          rw [Array.getD_eq_getD_getElem?] at e0
          clear hdep hag 
          go_simp
          exact hK _ _ (Below.refl _ _) rfl
        · intro z v hz hag hdep
          refine .inl ⟨rfl, fun K hK => ?_⟩
          have d26 : z.tmps.getD 26 undef = .pointer (some ⟨b, 0, none⟩) := hdep { on := 0, ground := .data } (by simp) rfl _ _ rfl rfl
          have e26 := d26
          rw [Array.getD_eq_getD_getElem?] at e26
          clear hdep hag 
          go_simp
          exact hK _ _ (Below.refl _ _) rfl
        · intro z v hz hag hdep
          refine .inl ⟨rfl, fun K hK => ?_⟩
          have d27 : z.tmps.getD 27 undef = .pointer (some ⟨b, 0, none⟩) := hdep { on := 1, ground := .data } (by simp) rfl _ _ rfl rfl
          have e27 := d27
          rw [Array.getD_eq_getD_getElem?] at e27
          clear hdep hag 
          go_simp
          exact hK _ _ (Below.refl _ _) rfl
        · intro z v hz hag hdep
          refine .inl ⟨rfl, fun K hK => ?_⟩
          have d28 : z.tmps.getD 28 undef = .pointer (some ⟨b, 0, none⟩) := hdep { on := 2, ground := .data } (by simp) rfl _ _ rfl rfl
          have e28 := d28
          rw [Array.getD_eq_getD_getElem?] at e28
          have l0 := (hz.cell (p := ⟨b, 0, none⟩) HBl.out).trans HC0.out
          clear hz
          clear hdep hag 
          go_simp
          exact hK _ _ (Below.refl _ _) rfl
        · intro z v hz hag hdep
          refine .inl ⟨rfl, fun K hK => ?_⟩
          have d6 : z.tmps.getD 6 undef = .int .i64 (K1 : Int) := hag.2.2 6 (by kernel_rfl)
          have e6 := d6
          rw [Array.getD_eq_getD_getElem?] at e6
          clear hdep hag 
          go_simp
          exact hK _ _ (Below.refl _ _) rfl
        · intro z v hz hag hdep
          refine .inl ⟨rfl, fun K hK => ?_⟩
          have d7 : z.tmps.getD 7 undef = .int .i64 (K2 : Int) := hag.2.2 7 (by kernel_rfl)
          have e7 := d7
          rw [Array.getD_eq_getD_getElem?] at e7
          clear hdep hag 
          go_simp
          exact hK _ _ (Below.refl _ _) rfl
        · intro z v hz hag hdep
          refine .inl ⟨rfl, fun K hK => ?_⟩
          have d29 : z.tmps.getD 29 undef = .slice a N cp := hdep { on := 3, ground := .data } (by simp) rfl _ _ rfl rfl
          have e29 := d29
          rw [Array.getD_eq_getD_getElem?] at e29
          have d30 : z.tmps.getD 30 undef = .int .i64 (K1 : Int) := hdep { on := 4, ground := .data } (by simp) rfl _ _ rfl rfl
          have e30 := d30
          rw [Array.getD_eq_getD_getElem?] at e30
          have d31 : z.tmps.getD 31 undef = .int .i64 (K2 : Int) := hdep { on := 5, ground := .data } (by simp) rfl _ _ rfl rfl
          have e31 := d31
          rw [Array.getD_eq_getD_getElem?] at e31
          have HM := Lib.hid (mid_any (HI.out.belowAll hz) K1 K2 hk1 hk2 HA.out (Nat.le_trans HB5.out.size hz.size) HSp.out)
          have HM2 := Lib.hid (mid_blk (c := cp) (J1 := K1) HA.out HSp.out)
          rw [HYs.out] at HM
          clear hdep hag hz
          go_simp
          exact hK _ _ (Below.refl _ _) ⟨_, _, _, rfl, HM.out.1, HM2.out⟩
        · intro z v hz hag hdep
          refine .inl ⟨rfl, fun K hK => ?_⟩
          have d5 : z.tmps.getD 5 undef = .pointer (some ⟨xb, 0, none⟩) := hag.2.2 5 (by kernel_rfl)
          have e5 := d5
          rw [Array.getD_eq_getD_getElem?] at e5
          have l0 := (hz.cell (p := ⟨xb, 0, none⟩) HXl.out).trans HX0.out
          have l1 := (hz.cell (p := ⟨xb, 1, none⟩) HXl.out).trans HX1.out
          clear hz
          clear hdep hag 
          go_simp
          exact hK _ _ (Below.refl _ _) rfl
        · intro z v hz hag hdep
          refine .inl ⟨rfl, fun K hK => ?_⟩
          have d33 : z.tmps.getD 33 undef = .agg #[.int .i64 X1, .int .i64 X2] := hdep { on := 7, ground := .data } (by simp) rfl _ _ rfl rfl
          have e33 := d33
          rw [Array.getD_eq_getD_getElem?] at e33
          have hbz : Below v.heap.size v (v.alloc (.cells #[.int .i64 X1, .int .i64 X2] 38)) := (Below.refl _ _).alloc (Nat.le_refl _) _
          clear hdep hag hz
          go_simp
          exact hK _ _ hbz ⟨_, rfl, heap_alloc_new _ _⟩

      case' hdone =>
        intro z v hz hag hok _
        have d32' : C7Ok b xb K1 K2 N cp w.heap.size a X1 X2 ys 6 (z.tmps.getD 32 undef) v := hok 6 _ 32 (by decide) rfl rfl
        simp only [C7Ok] at d32'
        obtain ⟨a2, n2, c2, d32, hm, hmb⟩ := d32'
        have d34' : C7Ok b xb K1 K2 N cp w.heap.size a X1 X2 ys 8 (z.tmps.getD 34 undef) v := hok 8 _ 34 (by decide) rfl rfl
        simp only [C7Ok] at d34'
        obtain ⟨g9, d34, hg9⟩ := d34'
        have HLf := Lib.hid (left_any a2 n2 c2 (some ⟨g9, 0, none⟩) 1 1 v)
        have HLk := Lib.hid (left_look hm (pair_one hg9) (fun q hq => Nat.lt_of_lt_of_le (hmb q hq) (Nat.le_trans HB5.out.size hz.size)) (fun q hq => by rw [show q = g9 by simpa [blkA] using hq]; exact (Array.getElem?_eq_some_iff.1 hg9).1))
        have HMb := Lib.hid hmb
        have HG9 := Lib.hid hg9
        clear hm hmb hg9
        obtain ⟨uu, hu, hzz⟩ := Go.Proofs.Ytjbjflmpdmflmaa.R.agree_frame [26, 27, 28, 29, 30, 31, 32, 33, 34, 35] rfl hag
        have e32 := (hu 32).trans d32
        have e34 := (hu 34).trans d34
        subst hzz
        have HZ := Lib.hid hz
        clear hz
        simp only [List.foldl_cons, List.foldl_nil]
        rw [e32, e34]
        clear e32 d32 e34 d34 hu hag hok
        try dsimp only [Exit.then]
        try dsimp only [List.drop]
        simp only [List.setIfInBounds_toArray, List.set_cons_succ, List.set_cons_zero]
        generalize uu 26 = u26', uu 27 = u27', uu 28 = u28', uu 29 = u29', uu 30 = u30', uu 31 = u31', uu 33 = u33', uu 35 = u35'
        clear uu
      go_wp2_with fail
      refine HLf.out.mono ?_
      rintro e v2 ⟨rfl, hv2⟩
      have hbv2 : Below v.heap.size v v2 := by rw [hv2]; exact ((Below.refl _ _).alloc (Nat.le_refl _) _).alloc (by simp) _
      have hLk := HLk.out
      rw [← hv2] at hLk
      obtain ⟨B1, hB1⟩ : ∃ B1, B1 = v.heap.size := ⟨_, rfl⟩
      rw [← hB1] at hLk ⊢
      have hbw : Below w5.heap.size w5 v2 := HZ.out.trans (hbv2.mono HZ.out.size)
      obtain ⟨T, hT⟩ : ∃ T, leftL ys [(X1, X2)] = T := ⟨_, rfl⟩
      have hTl : T.length ≤ 200000 := by
        have h1 := leftL_len [(X1, X2)] ys
        have h2 := HYl.out
        rw [hT] at h1
        simp at h1
        omega
      have hG0 : Gath w4 b0 v2.heap.size [] v2 := ⟨.slice none 0 0, (hbw.block b0 HBx5.out.lt).trans HBx5.out, OwnP.nil _ _ _ _, .inl rfl, HB45.out.trans (hbw.mono HB45.out.size), Nat.le_refl _⟩
      have hb0v : b0 < v2.heap.size := Nat.lt_of_lt_of_le HBx5.out.lt hbw.size
      have hHd := left_hands (b0 := b0) (base := v2.heap.size) 5 (by omega) (by have := HYl.out; omega) (by simp) hLk rfl hb0v hG0.rowV
      rw [hT] at hHd
      have HLb : Hid (∀ q ∈ lookL B1 (B1 + 1) a2 (some ⟨g9, 0, none⟩), q < v2.heap.size) := Lib.hid hLk.lt
      have HLw : Hid (∀ q ∈ lookL B1 (B1 + 1) a2 (some ⟨g9, 0, none⟩), q < v2.heap.size) := HLb
      have HHd := Lib.hid hHd
      have HG0 := Lib.hid hG0
      have HT := Lib.hid hT
      have HTl := Lib.hid hTl
      have HBw : Hid (Below w.heap.size w v2) := Lib.hid (HB5.out.trans (hbw.mono HB5.out.size))
      have HB4s : Hid (w4.heap.size ≤ v2.heap.size ∧ w4.heap.size = b0 ∧ w.heap.size ≤ v2.heap.size) := Lib.hid ⟨Nat.le_trans HB45.out.size hbw.size, HB0.out.symm, HBw.out.size⟩
      have HLq : Hid (∀ q ∈ lookL B1 (B1 + 1) a2 (some ⟨g9, 0, none⟩), q < v2.heap.size ∧ q ≠ b0) := Lib.hid (fun q hq => ⟨hLk.lt q hq, fun e => by
        have h1 := HBx5.out.lt
        have h2 := HZ.out.size
        have h3 := HB4.out.size
        have h4 := HB0.out
        unfold lookL at hq
        simp only [List.mem_cons, List.mem_append] at hq
        rcases hq with h | h | h | h
        · omega
        · omega
        · have := HMb.out q h; omega
        · have h5 : q = g9 := by simpa [blkA] using h
          have h6 : v.heap[b0]? = _ := (HZ.out.block b0 h1).trans HBx5.out
          rw [← e, h5, HG9.out] at h6
          have := (Obj.cells.inj (Option.some.inj h6)).2.1
          exact absurd this (by decide)⟩)
      clear hv2 hbv2 hLk hbw hT hTl hG0 hHd HLf HLk hB1
      go_wp2_with fail
      rw [← wpIn_wide (n := 6)]
      refine wpIn_rangeFunc_R rfl (by decide) (gf := 67) (lb := #[.pointer (some ⟨B1, 0, none⟩), .pointer (some ⟨B1 + 1, 0, none⟩)]) rfl trivial (enters_of Try.func67 (by kernel_rfl) rfl)
        HHd.out (fun h k => kpL_t h k) (kpL_b hb0v HLb.out) rfl
        (Gath w4 b0 v2.heap.size) (gath_abid hb0v HB4s.out.1) (gath_put HB4s.out.1) HG0.out
        (fun x W a1' W1 => W1 = W.alloc (.cells #[.int .i64 x.1, .int .i64 x.2] 38) ∧ a1' = { tmps := #[.pointer (some ⟨b, 0, none⟩), .slice (some ⟨g, off, none⟩) 1 c0, undef, undef, undef, .pointer (some ⟨xb, 0, none⟩), .int .i64 (K1 : Int), .int .i64 (K2 : Int), .pointer (some ⟨b0, 0, none⟩), .pointer (some ⟨W.heap.size, 0, none⟩), .slice (some ⟨g, off, none⟩) 1 c0, .int .i64 1, .int .i64 0, .bool true, .pointer (some ⟨g, off, none⟩), .agg #[.int .i64 x1, .int .i64 x2], .agg #[.int .i64 x1, .int .i64 x2], .agg #[.int .i64 X1, .int .i64 X2], .agg #[.int .i64 X1, .int .i64 X2], .bool false, .tuple #[.int .i64 (K1 : Int), .int .i64 (K2 : Int)], .pointer (some ⟨b, 0, none⟩), .agg #[.int .i64 X1, .int .i64 X2], .tuple #[.int .i64 (K1 : Int), .int .i64 (K2 : Int)], .int .i64 (K1 : Int), .int .i64 (K2 : Int), u26', u27', u28', u29', u30', u31', .slice a2 n2 c2, u33', .slice (some ⟨g9, 0, none⟩) 1 1, .func (.func 67) #[] #[.pointer (some ⟨B1, 0, none⟩), .pointer (some ⟨B1 + 1, 0, none⟩)], .agg #[.int .i64 x.1, .int .i64 x.2], u 37, u 38, u 39, u 40, u 41, u 42, u 43, u 44, u 45, u 46, u 47, u 48, u 49, u 50, u 51, u 52], defers := [] })
        (by rintro x W a1' W1 ⟨rfl, -⟩; exact (Below.refl _ _).alloc (Nat.le_refl _) _)
        (fun pre W W1 h hb => kpL_below h (fun q hq => HLb.out q hq) hb) ?assign ?body ?done
      case assign =>
        intro l x W K hK
        have HK := Lib.hid (hK _ _ ⟨rfl, rfl⟩)
        clear hK
        gi_wp2
        exact HK.out
      case body =>
        rintro l pre x W a1' W1 o o' ⟨rfl, rfl⟩ ho hoc hG hlt
        obtain ⟨v, hbx, hown, hnn, hB, hsU⟩ := hG
        have hlW : W.heap.size ≠ l := by
          intro e
          rw [← e, heap_alloc_new] at ho
          cases ho
          cases hoc
        obtain ⟨U, hU⟩ : ∃ U, U = (W.alloc (.cells #[.int .i64 x.1, .int .i64 x.2] 38)).putObj l o' := ⟨_, rfl⟩
        have hxb : U.heap[W.heap.size]? = some (.cells #[.int .i64 x.1, .int .i64 x.2] 38 (0, 0)) := by rw [hU]; exact (World.putObj_heap_other hlW).trans (heap_alloc_new _ _)
        rw [← hU] at hbx hown hB hsU ⊢
        obtain ⟨Z1, Z2⟩ := x
        have hx0 : U.cell? ⟨W.heap.size, 0, none⟩ = some (.int .i64 Z1) := by rw [cell_block hxb]; rfl
        have hx1 : U.cell? ⟨W.heap.size, 1, none⟩ = some (.int .i64 Z2) := by rw [cell_block hxb]; rfl
        have hc := hbx.cell
        have hf := hbx.frozen
        have HBx := Lib.hid hbx
        have HOwn := Lib.hid hown
        have HB := Lib.hid hB
        have HNn := Lib.hid hnn
        have HLt := Lib.hid hlt
        have HsU := Lib.hid hsU
        have hWl : W.heap.size < U.heap.size := (Array.getElem?_eq_some_iff.1 hxb).1
        clear hbx hown hB hnn hU ho hoc hlW hlt hxb hsU
        gi_wp2_with (gi_at_builtin; refine wpListIn_add_span rfl _ _ rfl rfl v2.heap.size v pre (Z1, Z2) U.heap.size rfl rfl (OwnP.alloc HOwn.out _) HNn.out (by simp) (by simp) (by have := HLt.out; have := HTl.out; omega) (by have := HsU.out; simp; omega) ?_)
        intro v' W' hadd
        obtain ⟨gg, cc, rfl⟩ := hadd.some_
        have hE := gath_step (L := lookL B1 (B1 + 1) a2 (some ⟨g9, 0, none⟩)) HBx.out HOwn.out HB.out HsU.out HB4s.out.1 (by have := HB4s.out.2.1; omega) hb0v HLq.out hadd
        have HE := Lib.hid hE
        have hbx1 : Boxed W' b0 26 v := (HBx.out.alloc _).kept hadd.grown (HBx.out.not_row (by decide) HOwn.out)
        have hc1 := hbx1.cell
        have hf1 := hbx1.frozen
        clear hE hadd hbx1 hc hf hx0 hx1
        gi_wp2
        exact HE.out
      case done =>
        rintro D w6 hD hG hDm
        have HSN : Hid (SetAt b M l (.slice a N cp) w) := Lib.hid (by have h := HS0.out; rw [HN.out] at h; exact h)
        obtain ⟨vt, hbx6, hown6, hnn6, hB6, -⟩ := hG
        have hB6w : Below w.heap.size w w6 := HB4.out.trans (hB6.mono HB4.out.size)
        obtain ⟨ta, ct, hvt, hIt, -, hnt⟩ := hown6.shape
        obtain ⟨mt, hmt⟩ : ∃ mt, T.length = mt := ⟨_, rfl⟩
        have HIt : Hid (PairsIn .i64 ta mt ct T w6 ∧ (ta = none → ct = 0) ∧ mt ≤ 200000 ∧ T.length = mt) := Lib.hid ⟨by rw [← hmt]; exact hIt, hnt, by rw [← hmt]; exact HTl.out, hmt⟩
        have hbx7 := hbx6
        rw [hvt, hmt] at hbx7
        have HT0 : Hid (w6.cell? ⟨b0, 0, none⟩ = some (.slice ta mt ct)) := Lib.hid hbx7.cell
        have HB0l : Hid (b0 < w6.heap.size) := Lib.hid hbx7.lt
        have HS6 := Lib.hid (HSN.out.below hB6w)
        have HBl6 : Hid (b < w6.heap.size) := Lib.hid HS6.out.b_lt
        have HC6 : Hid (w6.cell? ⟨b, 0, none⟩ = some (.slice a N cp)) := Lib.hid HS6.out.c0
        have HOut : Hid (l.take K1 ++ T ++ l.drop K2 = cutS l (x1, x2)) := Lib.hid (by
          have h1 := cut_parts (x := (X1, X2)) HNm.out.1 HLt.out
          rw [HK.out.1, HK.out.2, HYs.out, HT.out] at h1
          unfold cutS
          rw [show cnt (x1, x2) = (X1, X2) from Prod.ext HX12.out.1 HX12.out.2, if_pos HLt.out]
          exact h1)
        have HRep : Hid (∀ v, Below w6.heap.size w6 v → Calls Try.prog 51 #[.slice a N cp, .int .i64 (K1 : Int), .int .i64 (K2 : Int), .slice ta mt ct] v (RepPost (.slice a N cp) (l.take K1 ++ T ++ l.drop K2) v)) := Lib.hid (fun v hz => by
          have hSv := HS6.out.below hz
          have hap : mt = 0 ∧ ta = none ∨ ∃ g D, ta = some ⟨g, 0, none⟩ ∧ RowC g D v ∧ D ≠ [] ∧ ∀ q, (Value.slice a N cp).ownBlock = some q → g ≠ q := by
            rcases hnn6 with h0 | h0
            · rw [hvt] at h0
              injection h0 with h1 h2 h3
              exact .inl ⟨by rw [← hmt]; exact h2, h1⟩
            · right
              have h9 := (hown6.belowAll hz)
              rcases h9.2 with ⟨e, h1⟩ | ⟨gq, cq, cur, e, hbq, hgq, hcq, hmq, hsq, htq⟩
              · exact absurd (List.length_eq_zero_iff.1 h1) h0
              · rw [hvt] at e
                injection e with e1 e2 e3
                refine ⟨gq, cur.toList, e1, by simpa [RowC] using hgq, ?_, fun q hq e4 => ?_⟩
                · intro e5
                  have h2 : 0 < T.length := List.length_pos_iff.2 h0
                  have h3 : cur.toList.length = 0 := by rw [e5]; rfl
                  simp at h3
                  rw [h3] at hsq
                  simp at hsq
                  omega
                · have h2 := (HSN.out.own.ownBlock q hq).2
                  have := HB4s.out.2.2
                  omega
          have hend : mt = 0 ∨ K1 < N := by
            rcases Nat.eq_zero_or_pos mt with h | h
            · exact .inl h
            · right
              have h2 : ys ≠ [] := by
                intro e
                have h3 := HT.out
                rw [e] at h3
                rw [← h3] at hmt
                simp [leftL] at hmt
                omega
              have h4 := HYl.out
              have h5 : 0 < ys.length := List.length_pos_iff.2 h2
              omega
          exact replace_any a N cp K1 K2 mt ct ta l T v hSv.own hk1 hk2 (by have := HIt.out.2.2.1; omega) (HIt.out.1.belowAll hz) HIt.out.2.1 hap hend)
        have HEnd : Hid (∀ u0 (v' : Value) (w' : World), Below w6.heap.size w6 u0 → OwnP .i64 38 0 v' (cutS l (x1, x2)) w' → KeepB (Value.slice a N cp).ownBlock.toList u0 w' → St b (M ++ v'.ownBlock.toList) (cutS l (x1, x2)) (w'.setCell ⟨b, 0, none⟩ v') → KeepB M u0 (w'.setCell ⟨b, 0, none⟩ v') → (∀ p ∈ M ++ v'.ownBlock.toList, p ∈ M ∨ u0.heap.size ≤ p) → CutE b M (cutS l (x1, x2)) w D (w'.setCell ⟨b, 0, none⟩ v')) := Lib.hid (fun u0 v' w' hu0 ho hk h1 h2 h3 => by
          have hMw : ∀ p ∈ M, p < w.heap.size := HSN.out.lt
          have hDw : w.heap.size ≤ D := by have := HB4s.out.2.2; omega
          have hD6 := (Array.getElem?_eq_some_iff.1 hDm).1
          have hDu : u0.heap[D]? = some (.deferred (some [])) := (hu0.block D hD6).trans hDm
          have hDn : D ∉ M := fun hm => by have := hMw D hm; omega
          have hDw' : (w'.setCell ⟨b, 0, none⟩ v').heap[D]? = some (.deferred (some [])) := (h2.block D (Array.getElem?_eq_some_iff.1 hDu).1 hDn).trans hDu
          refine ⟨⟨M ++ v'.ownBlock.toList, h1, (KeepB.of_below (hB6w.trans (hu0.mono hB6w.size))).trans h2, fun p hp => (h3 p hp).imp id (fun h => Nat.le_trans hB6w.size (Nat.le_trans hu0.size h)), fun p hp e => ?_⟩, hDw'⟩
          rcases List.mem_append.1 hp with hp | hp
          · exact hDn (by rw [← e]; exact hp)
          · have hpq : v'.ownBlock = some p := by simpa using hp
            obtain ⟨cs, h4, -⟩ := U.own_type ho hpq
            have hDb : D ≠ b := fun e => by have := hMw b HSN.out.bm; omega
            rw [Below.heap_setCell _ _ _ _ hDb] at hDw'
            rw [e, hDw'] at h4
            cases h4)
        have HDw : Hid (w.heap.size ≤ D) := Lib.hid (by have := HB4s.out.2.2; omega)
        clear hbx6 hown6 hnn6 hB6 hB6w hvt hIt hnt hmt hbx7 hDm HBl HC0
        have HBl := HBl6
        have HC0 := HC6
        go_upto_region 10 with fail
        refine Go.Proofs.Ytjbjflmpdmflmaa.R.wp_region_due [8, 11] [1, 0, 0, 0, 0, 0, 0, 0, 1, 1, 1, 2] (by kernel_rfl) (DuoS (fun u => Below w6.heap.size w6 u) (AddS2 w6 (.slice a N cp) (cutS l (x1, x2))) (CutE b M (cutS l (x1, x2)) w D) 49) (fun _ _ => True) (C10Ok b b0 K1 K2 N cp mt ct a ta) (by rfl) (by kernel_rfl) (by kernel_rfl) (by kernel_rfl) (by kernel_rfl) ?hcongB ?hOkB ?hopB ?hdoneB ?h0B
        case hcongB => exact fun k f f2 u hs hst => DuoS.cong (fun hk => hs 49 (Go.Proofs.Ytjbjflmpdmflmaa.R.mem_slots (by subst hk; kernel_rfl))) hst
        case hOkB => intro i u w1 w2 h hr; unfold C10Ok at h ⊢; split <;> first | exact True.intro | exact h
        case h0B => exact (Below.refl _ _).drew
        case hopB =>
          refine ⟨?_, ?_, ?_, ?_, ?_, ?_, ?_, ?_, ?_, ?_, ?_, ?_, trivial⟩
          · intro k z v hk hst hag hdep
            refine .inl ⟨rfl, fun K hK => ?_⟩
            have d0 : z.tmps.getD 0 undef = .pointer (some ⟨b, 0, none⟩) := hag.2.2 0 (by kernel_rfl)
            have e0 := d0
            rw [Array.getD_eq_getD_getElem?] at e0
            have HSt := Lib.hid hst
            clear hdep hag hst
            go_simp
            exact hK _ _ trivial rfl HSt.out
          · intro k z v hk hst hag hdep
            refine .inl ⟨rfl, fun K hK => ?_⟩
            have d0 : z.tmps.getD 0 undef = .pointer (some ⟨b, 0, none⟩) := hag.2.2 0 (by kernel_rfl)
            have e0 := d0
            rw [Array.getD_eq_getD_getElem?] at e0
            have HSt := Lib.hid hst
            clear hdep hag hst
            go_simp
            exact hK _ _ trivial rfl HSt.out
          · intro k z v hk hst hag hdep
            refine .inl ⟨rfl, fun K hK => ?_⟩
            have d42 : z.tmps.getD 42 undef = .pointer (some ⟨b, 0, none⟩) := hdep { on := 1, ground := .data } (by simp) rfl _ _ rfl rfl
            have e42 := d42
            rw [Array.getD_eq_getD_getElem?] at e42
            have HSt := Lib.hid hst
            clear hdep hag hst
            go_simp
            exact hK _ _ trivial rfl HSt.out
          · intro k z v hk hst hag hdep
            refine .inl ⟨rfl, fun K hK => ?_⟩
            have d43 : z.tmps.getD 43 undef = .pointer (some ⟨b, 0, none⟩) := hdep { on := 2, ground := .data } (by simp) rfl _ _ rfl rfl
            have e43 := d43
            rw [Array.getD_eq_getD_getElem?] at e43
            have HSt := Lib.hid hst
            clear hdep hag hst
            go_simp
            exact hK _ _ trivial rfl HSt.out
          · intro k z v hk hst hag hdep
            refine .inl ⟨rfl, fun K hK => ?_⟩
            have d44 : z.tmps.getD 44 undef = .pointer (some ⟨b, 0, none⟩) := hdep { on := 3, ground := .data } (by simp) rfl _ _ rfl rfl
            have e44 := d44
            rw [Array.getD_eq_getD_getElem?] at e44
            have hz : Below w6.heap.size w6 v := DuoS.base (by have : k ≤ 0 := Nat.le_trans hk (by decide); omega) hst
            have l0 := (hz.cell (p := ⟨b, 0, none⟩) HBl.out).trans HC0.out
            clear hz
            have HSt := Lib.hid hst
            clear hdep hag hst
            go_simp
            exact hK _ _ trivial rfl HSt.out
          · intro k z v hk hst hag hdep
            refine .inl ⟨rfl, fun K hK => ?_⟩
            have d6 : z.tmps.getD 6 undef = .int .i64 (K1 : Int) := hag.2.2 6 (by kernel_rfl)
            have e6 := d6
            rw [Array.getD_eq_getD_getElem?] at e6
            have HSt := Lib.hid hst
            clear hdep hag hst
            go_simp
            exact hK _ _ trivial rfl HSt.out
          · intro k z v hk hst hag hdep
            refine .inl ⟨rfl, fun K hK => ?_⟩
            have d7 : z.tmps.getD 7 undef = .int .i64 (K2 : Int) := hag.2.2 7 (by kernel_rfl)
            have e7 := d7
            rw [Array.getD_eq_getD_getElem?] at e7
            have HSt := Lib.hid hst
            clear hdep hag hst
            go_simp
            exact hK _ _ trivial rfl HSt.out
          · intro k z v hk hst hag hdep
            refine .inl ⟨rfl, fun K hK => ?_⟩
            have d8 : z.tmps.getD 8 undef = .pointer (some ⟨b0, 0, none⟩) := hag.2.2 8 (by kernel_rfl)
            have e8 := d8
            rw [Array.getD_eq_getD_getElem?] at e8
            have hz : Below w6.heap.size w6 v := DuoS.base (by have : k ≤ 0 := Nat.le_trans hk (by decide); omega) hst
            have l0 := (hz.cell (p := ⟨b0, 0, none⟩) HB0l.out).trans HT0.out
            clear hz
            have HSt := Lib.hid hst
            clear hdep hag hst
            go_simp
            exact hK _ _ trivial rfl HSt.out
          · intro z v hst hag hdep
            refine ⟨rfl, fun K hK => ?_⟩
            have d45 : z.tmps.getD 45 undef = .slice a N cp := hdep { on := 4, ground := .data } (by simp) rfl _ _ rfl rfl
            have e45 := d45
            rw [Array.getD_eq_getD_getElem?] at e45
            have d46 : z.tmps.getD 46 undef = .int .i64 (K1 : Int) := hdep { on := 5, ground := .data } (by simp) rfl _ _ rfl rfl
            have e46 := d46
            rw [Array.getD_eq_getD_getElem?] at e46
            have d47 : z.tmps.getD 47 undef = .int .i64 (K2 : Int) := hdep { on := 6, ground := .data } (by simp) rfl _ _ rfl rfl
            have e47 := d47
            rw [Array.getD_eq_getD_getElem?] at e47
            have d48 : z.tmps.getD 48 undef = .slice ta mt ct := hdep { on := 7, ground := .data } (by simp) rfl _ _ rfl rfl
            have e48 := d48
            rw [Array.getD_eq_getD_getElem?] at e48
            have h0 : Below w6.heap.size w6 v := hst
            have hsz : 49 < z.tmps.size := by rw [hag.2.1]; show 49 < 53; decide
            have HCl := Lib.hid (HRep.out v h0)
            have HSt := Lib.hid h0
            clear hdep hag h0 hst
            go_simp
            refine HCl.out.mono ?_
            rintro e w' ⟨v2, rfl, ho7, hk7, hb7⟩
            exact hK _ _ trivial True.intro (by
            have e9 := Go.Proofs.Ytjbjflmpdmflmaa.R.slot_same (v := v2) hsz
            show AddS2 _ _ _ _ _
            rw [e9]
            exact ⟨by rw [HOut.out] at ho7; exact ho7, v, HSt.out, hk7, hb7⟩)
          · intro k z v hk hst hag hdep
            refine .inl ⟨rfl, fun K hK => ?_⟩
            have d41 : z.tmps.getD 41 undef = .pointer (some ⟨b, 0, none⟩) := hdep { on := 0, ground := .data } (by simp) rfl _ _ rfl rfl
            have e41 := d41
            rw [Array.getD_eq_getD_getElem?] at e41
            have HSt := Lib.hid hst
            clear hdep hag hst
            go_simp
            exact hK _ _ trivial rfl HSt.out
          · intro k z v hk hst hag hdep
            refine .inl ⟨rfl, fun K hK => ?_⟩
            have d50 : z.tmps.getD 50 undef = .pointer (some ⟨b, 0, none⟩) := hdep { on := 9, ground := .data } (by simp) rfl _ _ rfl rfl
            have e50 := d50
            rw [Array.getD_eq_getD_getElem?] at e50
            have HSt := Lib.hid hst
            clear hdep hag hst
            go_simp
            exact hK _ _ trivial rfl HSt.out
          · intro z v hst hag hdep
            refine ⟨rfl, fun K hK => ?_⟩
            have d51 : z.tmps.getD 51 undef = .pointer (some ⟨b, 0, none⟩) := hdep { on := 10, ground := .data } (by simp) rfl _ _ rfl rfl
            have e51 := d51
            rw [Array.getD_eq_getD_getElem?] at e51
            have h1 : AddS2 w6 (.slice a N cp) (cutS l (x1, x2)) (z.tmps.getD 49 undef) v := hst
            obtain ⟨ho7, u0, hu0, hk7, hb7⟩ := h1
            obtain ⟨a7, c7, hv7, -⟩ := ho7.shape
            have hSv := HS6.out.below hu0
            obtain ⟨hs1, hs2, hs3, hc7, hf7⟩ := hSv.store ho7 hk7 hb7
            have HI1 : Hid (CutE b M (cutS l (x1, x2)) w D (v.setCell ⟨b, 0, none⟩ (z.tmps.getD 49 undef))) := Lib.hid (HEnd.out u0 _ _ hu0 ho7 hk7 hs1 hs2 hs3)
            obtain ⟨n7, hn7⟩ : ∃ n7, (cutS l (x1, x2)).length = n7 := ⟨_, rfl⟩
            rw [hn7] at hv7
            have d49 := hv7
            have e49 := d49
            rw [Array.getD_eq_getD_getElem?] at e49
            rw [hv7] at HI1
            clear hdep hag ho7 hu0 hk7 hb7 hSv hn7 hv7 hst hs1 hs2 hs3
            go_simp
            exact hK undef _ trivial trivial HI1.out
        case' hdoneB =>
          intro z v hst hag hok
          have HI1 : Hid (CutE b M (cutS l (x1, x2)) w D v) := Lib.hid hst
          clear hst
          obtain ⟨uu, hu, hzz⟩ := Go.Proofs.Ytjbjflmpdmflmaa.R.agree_frame [41, 42, 43, 44, 45, 46, 47, 48, 49, 50, 51] rfl hag

          subst hzz
          simp only [List.foldl_cons, List.foldl_nil]
          rw []
          clear  hu hag hok
          try dsimp only [Exit.then]
          simp only [List.setIfInBounds_toArray, List.set_cons_succ, List.set_cons_zero]
          generalize uu 41 = u41', uu 42 = u42', uu 43 = u43', uu 44 = u44', uu 45 = u45', uu 46 = u46', uu 47 = u47', uu 48 = u48', uu 49 = u49', uu 50 = u50', uu 51 = u51'
          clear uu
          go_wp2_with fail
          refine ⟨⟨1, fun j => (#[.pointer (some ⟨b, 0, none⟩), .slice (some ⟨g, off, none⟩) 1 c0, undef, undef, undef, .pointer (some ⟨xb, 0, none⟩), .int .i64 (K1 : Int), .int .i64 (K2 : Int), .pointer (some ⟨b0, 0, none⟩), u 9, .slice (some ⟨g, off, none⟩) 1 c0, .int .i64 1, .int .i64 1, .bool true, .pointer (some ⟨g, off, none⟩), .agg #[.int .i64 x1, .int .i64 x2], .agg #[.int .i64 x1, .int .i64 x2], .agg #[.int .i64 X1, .int .i64 X2], .agg #[.int .i64 X1, .int .i64 X2], .bool false, .tuple #[.int .i64 (K1 : Int), .int .i64 (K2 : Int)], .pointer (some ⟨b, 0, none⟩), .agg #[.int .i64 X1, .int .i64 X2], .tuple #[.int .i64 (K1 : Int), .int .i64 (K2 : Int)], .int .i64 (K1 : Int), .int .i64 (K2 : Int), u26', u27', u28', u29', u30', u31', .slice a2 n2 c2, u33', .slice (some ⟨g9, 0, none⟩) 1 1, .func (.func 67) #[] #[.pointer (some ⟨B1, 0, none⟩), .pointer (some ⟨B1 + 1, 0, none⟩)], u 36, u 37, u 38, u 39, u 40, u41', u42', u43', u44', u45', u46', u47', u48', u49', u50', u51', .int .i64 1] : Array Value).getD j undef, [{ target := .collected D, args := #[] }], by omega, Lib.hid (.inr (.inr ⟨rfl, D, rfl, HDw.out, HI1.out⟩)), ?_⟩, ?_⟩
          · simp
          · simp [intOf]


    · have hge : ¬ X1 < X2 := by unfold NoneV at hr; simp at hr; omega
      have HI1 : Hid (∀ u', Below w2.heap.size w2 u' → ∃ M', St b M' (cutS l (x1, x2)) u' ∧ KeepB M w u' ∧ ∀ p ∈ M', p ∈ M ∨ w.heap.size ≤ p) := Lib.hid (fun u' hu => by
        obtain ⟨vl, hS0⟩ := HSt.out
        have hB : Below w.heap.size w u' := HB2.out.trans (hu.mono HB2.out.size)
        refine ⟨M, ⟨vl, ?_⟩, KeepB.of_below hB, fun p hp => .inl hp⟩
        unfold cutS
        rw [show cnt (x1, x2) = (X1, X2) from Prod.ext HX12.out.1 HX12.out.2, if_neg hge]
        exact hS0.below hB)
      clear hr hge
      go_wp2_with fail
      refine HNo.out.mono ?_
      rintro e w3 ⟨rfl, hb3⟩
      have HI2 := Lib.hid (HI1.out w3 hb3)
      clear hb3 HI1 HNo hc0 hc1
      go_wp2_with fail
      refine ⟨⟨1, fun j => (#[.pointer (some ⟨b, 0, none⟩), .slice (some ⟨g, off, none⟩) 1 c0, undef, undef, undef, .pointer (some ⟨xb, 0, none⟩), u 6, u 7, u 8, u 9, .slice (some ⟨g, off, none⟩) 1 c0, .int .i64 1, .int .i64 1, .bool true, .pointer (some ⟨g, off, none⟩), .agg #[.int .i64 x1, .int .i64 x2], .agg #[.int .i64 x1, .int .i64 x2], .agg #[.int .i64 X1, .int .i64 X2], .agg #[.int .i64 X1, .int .i64 X2], .bool true, u 20, u 21, u 22, u 23, u 24, u 25, u 26, u 27, u 28, u 29, u 30, u 31, u 32, u 33, u 34, u 35, u 36, u 37, u 38, u 39, u 40, u 41, u 42, u 43, u 44, u 45, u 46, u 47, u 48, u 49, u 50, u 51, .int .i64 1] : Array Value).getD j undef, [], by omega, Lib.hid (.inr (.inl ⟨rfl, rfl, HI2.out⟩)), ?_⟩, ?_⟩
      · simp
      · simp [intOf]
  · obtain rfl : k = 1 := by omega
    go_wp2_with fail
    rcases HI.out with ⟨h1, -⟩ | ⟨-, h1, h2⟩ | ⟨-, D, h1, h2, h3⟩
    · omega
    · subst h1
      obtain ⟨M', h3, h4, h5⟩ := h2
      exact ⟨_, results_none rfl _ _ _, rfl, M', h3, h4, h5⟩
    · subst h1
      exact ⟨by simp, .inl ⟨_, _, rfl, run_takeDeferred h3.2, _, results_none rfl _ _ _, h3.post h2⟩⟩
end Go.Proofs.Ytjbjflmpdmflmaa.H
