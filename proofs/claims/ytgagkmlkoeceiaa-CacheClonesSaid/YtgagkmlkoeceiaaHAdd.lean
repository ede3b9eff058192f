/- Add of a set. -/
import Derived.Test.YtgagkmlkoeceiaaHRep
import Derived.Test.YtgagkmlkoeceiaaRelD
import Derived.WalkMore
namespace Go.Proofs.Ytgagkmlkoeceiaa.H
open Go.RowKit Go.Shelf

theorem addR_eq : ∀ (l : List Sp) (x : Sp), addR l x = l.take (behN (x.1 - 1) l) ++ joinA x (l.drop (behN (x.1 - 1) l))
  | [], x => rfl
  | y :: ys, x => by
    rw [addR, behN_cons]
    by_cases h : y.2 < x.1
    · rw [if_pos h, if_pos (by omega), addR_eq ys x]
      rfl
    · rw [if_neg h, if_neg (by omega)]
      rfl
/-- what is added -/
def addsS (l xs : List Sp) : List Sp := xs.foldl addS l
theorem addsS_snoc (l xs : List Sp) (x : Sp) : addsS l (xs ++ [x]) = addS (addsS l xs) x := by simp [addsS, List.foldl_append]
theorem Nm.adds {l : List Sp} (h : Nm l) : ∀ (xs : List Sp), Nm (addsS l xs)
  | [] => h
  | x :: xs => Nm.adds (h.add x) xs
theorem joinA_len : ∀ (ys : List Sp) (x : Sp), (joinA x ys).length ≤ ys.length + 1
  | [], x => by simp [joinA]
  | y :: ys, x => by
    rw [joinA]
    split
    · simp
    · have := joinA_len ys (min x.1 y.1, max x.2 y.2)
      simp; omega
theorem addS_len (l : List Sp) (x : Sp) : (addS l x).length ≤ l.length + 1 := by
  unfold addS
  split
  · rw [addR_eq, List.length_append, List.length_take]
    have := joinA_len (l.drop (behN ((cnt x).1 - 1) l)) (cnt x)
    rw [List.length_drop] at this
    have := behN_le ((cnt x).1 - 1) l
    omega
  · omega
theorem addsS_len (l : List Sp) : ∀ (xs : List Sp), (addsS l xs).length ≤ l.length + xs.length
  | [] => by simp [addsS]
  | x :: xs => by
    have := addsS_len (addS l x) xs
    have := addS_len l x
    simp [addsS] at *
    omega
/-- what changes a set -/
def ChPost (b : Nat) (M : List Nat) (out : List Sp) (w : World) (e : Ending) (w' : World) : Prop := e = .returned (.tuple #[]) ∧ ∃ M', St b M' out w' ∧ KeepB M w w' ∧ ∀ p ∈ M', p ∈ M ∨ w.heap.size ≤ p
theorem KeepB.two {M L : List Nat} {w w1 w2 : World} (h : KeepB M w w1) (k : KeepB L w1 w2) (hL : ∀ p ∈ L, p ∈ M ∨ w.heap.size ≤ p) : KeepB M w w2 :=
  ⟨k.os.trans h.os, k.tape.trans h.tape, k.output.trans h.output, Nat.le_trans h.size k.size, fun i hi hn => (k.block i (Nat.lt_of_lt_of_le hi h.size) (fun hm => (hL i hm).elim hn (fun h => by omega))).trans (h.block i hi hn)⟩
/-- spans that came back are put in their place -/
theorem SetAt.store {b : Nat} {M : List Nat} {l out : List Sp} {vl v' : Value} {w w' : World} (h : SetAt b M l vl w) (hown : OwnP .i64 81 0 v' out w') (hk : KeepB vl.ownBlock.toList w w') (hb : ∀ q, v'.ownBlock = some q → vl.ownBlock = some q ∨ w.heap.size ≤ q) :
    St b (M ++ v'.ownBlock.toList) out (w'.setCell ⟨b, 0, none⟩ v') ∧ KeepB M w (w'.setCell ⟨b, 0, none⟩ v') ∧ (∀ p ∈ M ++ v'.ownBlock.toList, p ∈ M ∨ w.heap.size ≤ p) ∧ w'.cell? ⟨b, 0, none⟩ = some vl ∧ w'.frozen? ⟨b, 0, none⟩ = false := by
  have hbn : b ∉ vl.ownBlock.toList := fun hm => h.bq b (by simpa using hm) rfl
  have hb' : w'.heap[b]? = some (.cells #[vl] 84 (0, 0)) := (hk.block b h.b_lt hbn).trans h.bb
  have hvb : ∀ q, v'.ownBlock = some q → q ≠ b := fun q hq e => by
    obtain ⟨cs, h1, -⟩ := U.own_type hown hq
    rw [e, hb'] at h1
    have := (Obj.cells.inj (Option.some.inj h1)).2.1
    exact absurd this (by decide)
  have hkb : KeepB [b] w' (w'.setCell ⟨b, 0, none⟩ v') := KeepB.setCell _
  refine ⟨⟨v', ?_, hown.moved (fun q hq => hkb.block q (hown.ownBlock q hq).2 (by simpa using hvb q hq)), List.mem_append_left _ h.bm, fun q hq => by simp [hq], fun p hp => ?_⟩, ?_, fun p hp => ?_, by rw [cell_block hb']; rfl, frozen_block hb' 0⟩
  · simp [World.setCell, Array.getElem?_modify, hb']
  · rcases List.mem_append.1 hp with hp | hp
    · exact Nat.lt_of_lt_of_le (h.lt p hp) (Nat.le_trans hk.size hkb.size)
    · exact Nat.lt_of_lt_of_le (hown.ownBlock p (by simpa using hp)).2 hkb.size
  · refine (hk.mono (fun i hi => h.qm i (by simpa using hi))).trans (hkb.mono (fun i hi => by rw [show i = b by simpa using hi]; exact h.bm))
  · rcases List.mem_append.1 hp with hp | hp
    · exact .inl hp
    · exact (hb p (by simpa using hp)).imp (h.qm p) id
def A10Ok (b xb J1 t N cp : Nat) (a : Option Addr) (Z1 Z2 : Int) : Nat → Value → World → Prop
  | 0, u, _ => u = .pointer (some ⟨b, 0, none⟩)
  | 1, u, _ => u = .pointer (some ⟨b, 0, none⟩)
  | 2, u, _ => u = .pointer (some ⟨b, 0, none⟩)
  | 3, u, _ => u = .pointer (some ⟨b, 0, none⟩)
  | 4, u, _ => u = .slice a N cp
  | 5, u, _ => u = .int .i64 (J1 : Int)
  | 6, u, _ => u = .int .i64 (J1 : Int)
  | 7, u, _ => u = .int .i64 (t : Int)
  | 8, u, _ => u = .int .i64 ((J1 : Int) + (t : Int))
  | 9, u, _ => u = .agg #[.int .i64 Z1, .int .i64 Z2]
  | 10, _, _ => True
  | 11, _, _ => True
  | 12, u, _ => u = .pointer (some ⟨b, 0, none⟩)
  | 13, u, _ => u = .pointer (some ⟨b, 0, none⟩)
  | 14, _, _ => True
  | _, _, _ => True
def A13Ok (b xb J1 N cp : Nat) (a : Option Addr) (Z1 Z2 : Int) : Nat → Value → World → Prop
  | 0, u, _ => u = .pointer (some ⟨b, 0, none⟩)
  | 1, u, _ => u = .pointer (some ⟨b, 0, none⟩)
  | 2, u, _ => u = .pointer (some ⟨b, 0, none⟩)
  | 3, u, _ => u = .pointer (some ⟨b, 0, none⟩)
  | 4, u, _ => u = .slice a N cp
  | 5, u, _ => u = .int .i64 (J1 : Int)
  | 6, u, _ => u = .slice a J1 cp
  | 7, u, _ => u = .agg #[.int .i64 Z1, .int .i64 Z2]
  | 8, _, _ => True
  | 9, _, _ => True
  | 10, u, _ => u = .pointer (some ⟨b, 0, none⟩)
  | 11, u, _ => u = .pointer (some ⟨b, 0, none⟩)
  | 12, _, _ => True
  | _, _, _ => True
/-- what stands between two spans -/
def AddI (b : Nat) (M : List Nat) (l xs : List Sp) (w : World) (k : Nat) (wr : World) : Prop := ∃ M', St b M' (addsS l (xs.take k)) wr ∧ KeepB M w wr ∧ ∀ p ∈ M', p ∈ M ∨ w.heap.size ≤ p
theorem AddI.step {b : Nat} {M M' : List Nat} {l xs L : List Sp} {vl v' : Value} {w w0 u w' : World} {k : Nat} {x : Sp} (hK : KeepB M w w0) (hM : ∀ p ∈ M', p ∈ M ∨ w.heap.size ≤ p) (hB : Below w0.heap.size w0 u) (hS : SetAt b M' L vl u) (hLs : addsS l (xs.take (k + 1)) = addS L x)
    (hown : OwnP .i64 81 0 v' (addS L x) w') (hk : KeepB vl.ownBlock.toList u w') (hb : ∀ q, v'.ownBlock = some q → vl.ownBlock = some q ∨ u.heap.size ≤ q) : AddI b M l xs w (k + 1) (w'.setCell ⟨b, 0, none⟩ v') := by
  obtain ⟨h1, h2, h3, -, -⟩ := hS.store hown hk hb
  have hs0 := hK.size
  have hs1 := hB.size
  refine ⟨M' ++ v'.ownBlock.toList, by rw [hLs]; exact h1, (hK.trans (KeepB.of_below hB)).two h2 hM, fun p hp => ?_⟩
  rcases h3 p hp with h | h
  · exact hM p h
  · exact .inr (by omega)
theorem OwnP.at0 {rk : IntKind} {T : TypeId} {base q n c : Nat} {l : List Sp} {w : World} (h : OwnP rk T base (.slice (some ⟨q, 0, none⟩) n c) l w) : q < w.heap.size ∧ ∀ (i : Nat) (u : Sp), l[i]? = some u → w.cell? ⟨q, i * 2, none⟩ = some (.int rk u.1) ∧ w.cell? ⟨q, i * 2 + 1, none⟩ = some (.int .i64 u.2) := by
  obtain ⟨a, c', e, hI, -, -⟩ := h.shape
  obtain ⟨rfl, rfl, rfl⟩ : some ⟨q, 0, none⟩ = a ∧ n = l.length ∧ c = c' := by injection e with e1 e2 e3; exact ⟨e1, e2, e3⟩
  refine ⟨(h.ownBlock q rfl).2, fun i u hu => ?_⟩
  rcases hI.at_ with h0 | ⟨b, off, e, hlt, hi⟩
  · rw [h0] at hu; simp at hu
  · obtain ⟨rfl, rfl⟩ : q = b ∧ 0 = off := by injection e with e; injection e with e1 e2; exact ⟨e1, e2⟩
    have := hi i u hu
    simpa using this
theorem keepB_grown {w w' : World} {o : Option Nat} (hg : w.grownBy w' o) : KeepB o.toList w w' := ⟨hg.os, hg.tape, hg.output, hg.size, fun i hi hn => hg.block i hi (fun e => hn (by rw [← e]; simp))⟩
theorem OwnP.front' {base n cap i : Nat} {a : Option Addr} {l : List Sp} {w : World} (h : OwnP .i64 81 base (.slice a n cap) l w) (hi : i ≤ n) : OwnP .i64 81 base (.slice a i cap) (l.take i) w := by
  have h' := h
  rcases h'.2 with ⟨e, h0⟩ | ⟨g, c, cur, e, -⟩
  · injection e with e1 e2 e3
    subst e1 e2 e3
    obtain rfl : i = 0 := by omega
    have : l = [] := List.length_eq_zero_iff.1 h0
    subst this
    exact h
  · injection e with e1 e2 e3
    subst e1
    exact h.front hi
/-- the states of a drawn region with three loud operations -/
def TriS (C0 : World → Prop) (C1 C2 : Value → World → Prop) (C3 : World → Prop) (s1 s2 : Nat) : Nat → (Nat → Value) → World → Prop
  | 0, _, u => C0 u
  | 1, f, u => C1 (f s1) u
  | 2, f, u => C2 (f s2) u
  | _, _, u => C3 u
theorem TriS.cong {C0 : World → Prop} {C1 C2 : Value → World → Prop} {C3 : World → Prop} {s1 s2 k : Nat} {f f2 : Nat → Value} {u : World} (e1 : k = 1 → f s1 = f2 s1) (e2 : k = 2 → f s2 = f2 s2) (h : TriS C0 C1 C2 C3 s1 s2 k f u) : TriS C0 C1 C2 C3 s1 s2 k f2 u := by
  match k, h, e1, e2 with
  | 0, h, _, _ => exact h
  | 1, h, e1, _ => show C1 (f2 s1) u; rw [← e1 rfl]; exact h
  | 2, h, _, e2 => show C2 (f2 s2) u; rw [← e2 rfl]; exact h
  | _ + 3, h, _, _ => exact h
def AddS1 (w6 : World) (Z1 Z2 : Int) (v : Value) (u : World) : Prop := Below w6.heap.size w6 u ∧ ∃ g, v = .slice (some ⟨g, 0, none⟩) 1 1 ∧ w6.heap.size ≤ g ∧ u.heap[g]? = some (.cells #[.int .i64 Z1, .int .i64 Z2] 81 (0, 0))
def AddS2 (w6 : World) (vl : Value) (out : List Sp) (v : Value) (u : World) : Prop := OwnP .i64 81 0 v out u ∧ ∃ u0, Below w6.heap.size w6 u0 ∧ KeepB vl.ownBlock.toList u0 u ∧ ∀ q, v.ownBlock = some q → vl.ownBlock = some q ∨ u0.heap.size ≤ q
theorem TriS.base {w6 : World} {Z1 Z2 : Int} {C2 : Value → World → Prop} {C3 : World → Prop} {s1 s2 k : Nat} {f : Nat → Value} {u : World} (hk : k ≤ 1) (h : TriS (fun u => Below w6.heap.size w6 u) (AddS1 w6 Z1 Z2) C2 C3 s1 s2 k f u) : Below w6.heap.size w6 u := by
  match k, h, hk with
  | 0, h, _ => exact h
  | 1, h, _ => exact h.1
  | _ + 2, _, hk => exact absurd hk (by omega)
/-- what stands within a span's round -/
def InA (w0 : World) (xb J1 : Nat) (L : List Sp) (X : Sp) (i : Nat) (u : World) : Prop := Below w0.heap.size w0 u ∧ ∃ Z : Sp, u.heap[xb]? = some (.cells #[.int .i64 Z.1, .int .i64 Z.2] 81 (0, 0)) ∧ joinA Z (L.drop (J1 + i)) = joinA X (L.drop J1)
set_option maxRecDepth 100000 in
set_option maxHeartbeats 16000000 in
theorem add_any {b : Nat} {M : List Nat} {l : List Sp} (a0 : Option Addr) (n0 c0 : Nat) (xs : List Sp) (w : World) (h : St b M l w) (hn : Nm l) (hl : (l.length : Int) + xs.length ≤ 100000) (hX : PairsIn .i64 a0 n0 c0 xs w) (hA : ∀ g off, a0 = some ⟨g, off, none⟩ → g ∉ M) :
    Calls Try.prog 32 #[.pointer (some ⟨b, 0, none⟩), .slice a0 n0 c0] w (ChPost b M (addsS l xs) w) := by
  obtain ⟨P, hP⟩ : ∃ P, ChPost b M (addsS l xs) w = P := ⟨_, rfl⟩
  rw [hP]
  have HP := Lib.hid hP
  have hn0 := hX.len
  have HI0 : Hid (AddI b M l xs w 0 w) := Lib.hid ⟨M, h, KeepB.refl _ _, fun p hp => .inl hp⟩
  have HNm := Lib.hid hn
  have HX := Lib.hid hX
  have HA := Lib.hid hA
  have HN0 := Lib.hid hn0
  have HLn : Hid (l.length + xs.length ≤ 100000) := Lib.hid (by omega)
  have hnl : (n0 : Int) ≤ 100000 := by omega
  clear hP h hn hl hX hA hn0
  go_enter Try.func32, Try.ntmps32
  go_wp2_with fail
  go_step3
  go_wp2_with fail
  go_step3
  go_wp2_with fail
  go_loopw [11] (fun i wr => ∃ k : Nat, k ≤ n0 ∧ i = .int .i64 (k : Int) ∧ Hid (AddI b M l xs w k wr)) (fun i _ => n0 - (intOf i).toNat)
  case atStart => exact ⟨0, by omega, rfl, HI0⟩
  case round =>
    obtain ⟨k, hk, rfl, HI⟩ := hrel
    by_cases hlt : k < n0
    · obtain ⟨x, hx⟩ : ∃ x, xs[k]? = some x := ⟨_, List.getElem?_eq_getElem (by rw [← HN0.out]; exact hlt)⟩
      obtain ⟨M', hS, hK, hM'⟩ := HI.out
      have hXr : PairsIn .i64 a0 n0 c0 xs wr := HX.out.blocks hK.size (fun g off e hg => hK.block g hg (HA.out g off e))
      obtain ⟨g, off, rfl, hgl, hat⟩ := hXr.at_.resolve_left (by intro e; rw [e] at hx; cases hx)
      have hx1 := (hat k x hx).1
      have hx2 := (hat k x hx).2
      obtain ⟨L, hL⟩ : ∃ L, addsS l (xs.take k) = L := ⟨_, rfl⟩
      rw [hL] at hS
      have hLn : L.length ≤ 100000 := by
        have := addsS_len l (xs.take k)
        have := List.length_take_le' k xs
        have := HLn.out
        rw [← hL]; omega
      have hLm : Nm L := by rw [← hL]; exact HNm.out.adds _
      have hLs : addsS l (xs.take (k + 1)) = addS L x := by
        have hkl := List.getElem?_eq_some_iff.1 hx
        rw [List.take_succ_eq_append_getElem hkl.1, hkl.2, addsS_snoc, hL]
      have HLs := Lib.hid hLs
      have HLm := Lib.hid hLm
      have HLn2 := Lib.hid hLn
      have HS := Lib.hid hS
      have HK := Lib.hid hK
      have HM := Lib.hid hM'
      obtain ⟨x1, x2⟩ := x
      obtain ⟨X1, hX1⟩ : ∃ X1, near x1 = X1 := ⟨_, rfl⟩
      obtain ⟨X2, hX2⟩ : ∃ X2, near x2 = X2 := ⟨_, rfl⟩
      have hXb : -1152921504606846976 ≤ X1 ∧ X1 ≤ 1152921504606846976 := ⟨by rw [← hX1]; exact near_lo _, by rw [← hX1]; exact near_hi _⟩
      have hXb1 := hXb.1
      have hXb2 := hXb.2
      have HX12 := Lib.hid (And.intro hX1 hX2)
      obtain ⟨wa, hwa⟩ : ∃ wa, wa = wr.alloc (.cells #[.int .i64 x1, .int .i64 x2] 81) := ⟨_, rfl⟩
      obtain ⟨xb, hxb⟩ : ∃ xb, xb = wr.heap.size := ⟨_, rfl⟩
      have HCn := Lib.hid (counted_any (x1, x2) wa)
      have HXa : Hid (wa.heap[xb]? = some (.cells #[.int .i64 x1, .int .i64 x2] 81 (0, 0))) := Lib.hid (by rw [hwa, hxb]; exact heap_alloc_new _ _)
      have HBa : Hid (Below wr.heap.size wr wa) := Lib.hid (by rw [hwa]; exact (Below.refl _ _).alloc (Nat.le_refl _) _)
      have HWA := Lib.hid hwa
      have HSX := Lib.hid hxb
      have HXl0 : Hid (xb < wa.heap.size) := Lib.hid (Array.getElem?_eq_some_iff.1 HXa.out).1
      clear hx hS hK hM' hXr hat hL hLn hLm hLs hX1 hX2 hXb hwa hxb HI
      go_wp2_with fail
      rw [← HWA.out, ← HSX.out]
      refine HCn.out.mono ?_
      rintro e w1 ⟨rfl, hb1⟩
      rw [HX12.out.1, HX12.out.2]
      have hx1b : w1.heap[xb]? = some (.cells #[.int .i64 x1, .int .i64 x2] 81 (0, 0)) := (hb1.block xb HXl0.out).trans HXa.out
      have hf0 : w1.frozen? ⟨xb, 0, none⟩ = false := frozen_block hx1b 0
      have hf1 : w1.frozen? ⟨xb, 1, none⟩ = false := frozen_block hx1b 1
      have hc0 : w1.cell? ⟨xb, 0, none⟩ = some (.int .i64 x1) := by rw [cell_block hx1b]; rfl
      have hc1 : w1.cell? ⟨xb, 1, none⟩ = some (.int .i64 x2) := by rw [cell_block hx1b]; rfl
      have HX1 := Lib.hid hx1b
      have HB1 : Hid (Below wr.heap.size wr w1) := Lib.hid (HBa.out.trans (hb1.mono HBa.out.size))
      clear hx1b hb1 HCn HXa HBa HWA HXl0 hx1 hx2
      go_upto_region 4 with fail
      obtain ⟨w2, hw2⟩ : ∃ w2, w2 = (w1.setCell ⟨xb, 0, none⟩ (.int .i64 X1)).setCell ⟨xb, 1, none⟩ (.int .i64 X2) := ⟨_, rfl⟩
      rw [← hw2]
      have hx2b : w2.heap[xb]? = some (.cells #[.int .i64 X1, .int .i64 X2] 81 (0, 0)) := by rw [hw2]; simp [World.setCell, Array.getElem?_modify, HX1.out]
      have hb2 : Below wr.heap.size wr w2 := by rw [hw2]; exact (HB1.out.setCell (p := ⟨xb, 0, none⟩) (by rw [HSX.out]; exact Nat.le_refl _) _).setCell (p := ⟨xb, 1, none⟩) (by rw [HSX.out]; exact Nat.le_refl _) _
      have hc0 : w2.cell? ⟨xb, 0, none⟩ = some (.int .i64 X1) := by rw [cell_block hx2b]; rfl
      have hc1 : w2.cell? ⟨xb, 1, none⟩ = some (.int .i64 X2) := by rw [cell_block hx2b]; rfl
      have HX2 := Lib.hid hx2b
      have HB2 := Lib.hid hb2
      have HNo := Lib.hid (none_any (X1, X2) w2)
      clear hw2 hx2b hb2 HX1 HB1
      obtain ⟨r, hr⟩ : ∃ r, NoneV (X1, X2) = r := ⟨_, rfl⟩
      rw [hr] at HNo
      cases r
      · -- there are numbers in it
        have hlt12 : X1 < X2 := by unfold NoneV at hr; simp at hr; exact hr
        have HLt := Lib.hid hlt12
        clear hr hlt12
        go_wp2_with fail
        refine HNo.out.mono ?_
        rintro e w3 ⟨rfl, hb3⟩
        obtain ⟨w0, hw0⟩ : ∃ w0, w0 = wr := ⟨_, rfl⟩
        subst hw0
        have hx3 := (hb3.block xb (Array.getElem?_eq_some_iff.1 HX2.out).1).trans HX2.out
        have hB3 : Below w0.heap.size w0 w3 := HB2.out.trans (hb3.mono HB2.out.size)
        obtain ⟨vl, hS0⟩ := HS.out
        have hS3 := hS0.below hB3
        have hc0 : w3.cell? ⟨xb, 0, none⟩ = some (.int .i64 X1) := by rw [cell_block hx3]; rfl
        have hcb := hS3.c0
        obtain ⟨a, cp, hv, hI, hA3, hA0⟩ := hS3.own.shape
        have HA0 := Lib.hid hA0
        have HA3 : Hid (∀ b off, a = some ⟨b, off, none⟩ → off = 0) := Lib.hid (fun b off e => (hA3 b off e).2.2)
        clear hA0
        subst hv
        obtain ⟨N, hN⟩ : ∃ N, L.length = N := ⟨_, rfl⟩
        obtain ⟨J1, hJ1⟩ : ∃ J1, behN (X1 - 1) L = J1 := ⟨_, rfl⟩
        have HBe := Lib.hid (behind_any hS3 HLm.out.1 (by have := HLn2.out; omega) (X1 - 1))
        rw [hJ1] at HBe
        have hJN : J1 ≤ N := by rw [← hJ1, ← hN]; exact behN_le _ _
        have hNl : (N : Int) ≤ 100000 := by have := HLn2.out; omega
        have hNc : N ≤ cp := by rw [← hN]; exact hI.fit
        have hcm : (cp : Int) ≤ 9223372036854775807 := hI.top
        have HSp : Hid (∀ x, a = some x → x = ⟨x.block, x.off, none⟩) := Lib.hid (own_plain hS3.own)
        have HS0 := Lib.hid hS0
        have HX3 := Lib.hid hx3
        have HB3 := Lib.hid hB3
        have HN := Lib.hid hN
        have HJ1 := Lib.hid hJ1
        have hsub : IntKind.i64.wrap (X1 - 1) = X1 - 1 := by rw [IntKind.wrap_i64]; omega
        clear hb3 hx3 hB3 hS0 hS3 hI hA3 hJ1 hN HX2 HB2 HNo hcb
        go_wp2_with fail
        refine HBe.out.mono ?_
        rintro e w4 ⟨rfl, hb4⟩
        have hB4 : Below w0.heap.size w0 w4 := HB3.out.trans (hb4.mono HB3.out.size)
        have hS4 := HS0.out.below hB4
        have hcb := hS4.c0
        rw [HN.out] at hcb
        have hx4 := (hb4.block xb (Array.getElem?_eq_some_iff.1 HX3.out).1).trans HX3.out
        have HIn0 : Hid (InA w0 xb J1 L (X1, X2) 0 w4) := Lib.hid ⟨hB4, (X1, X2), hx4, rfl⟩
        clear hb4 hB4 hS4 hx4 HBe HX3 HB3 hc0
        by_cases hcj : cp = J1
        · obtain rfl : J1 = cp := hcj.symm
          have hR0 : N - J1 = 0 := by omega
          have HN1 : Hid (N = J1) := Lib.hid (by omega)
          have hJ1i : (J1 : Int) ≤ (N : Int) := by omega
          clear hcj
          rcases ha : a with _ | ad
          · subst ha
            go_wp2_with fail
            clear hcb
            go_loopw [31] (fun i u => ∃ t : Nat, t ≤ 0 ∧ i = .int .i64 (t : Int) ∧ Hid (InA w0 xb J1 L (X1, X2) t u)) (fun i _ => 0 - (intOf i).toNat)
            case atStart => exact ⟨0, by omega, rfl, HIn0⟩
            case round =>
              obtain ⟨w6, hw6⟩ : ∃ w6, w6 = wr := ⟨_, rfl⟩
              subst hw6
              obtain ⟨t, ht, rfl, HIn⟩ := hrel
              obtain rfl : t = 0 := by omega
              clear HIn0
              obtain ⟨hB5, ⟨Z1, Z2⟩, hx5, hj5⟩ := HIn.out
              have HB5 := Lib.hid hB5
              have HX5 := Lib.hid hx5
              have HJ5 := Lib.hid hj5
              clear hB5 hx5 hj5 HIn
              go_upto_region 13 with fail
              have HB6 : Hid (Below w0.heap.size w0 w6) := HB5
              have HX6 : Hid (w6.heap[xb]? = some (.cells #[.int .i64 Z1, .int .i64 Z2] 81 (0, 0))) := HX5
              have HXl : Hid (xb < w6.heap.size) := Lib.hid (Array.getElem?_eq_some_iff.1 HX6.out).1
              have HX0 : Hid (w6.cell? ⟨xb, 0, none⟩ = some (.int .i64 Z1)) := Lib.hid (by rw [cell_block HX6.out]; rfl)
              have HX1 : Hid (w6.cell? ⟨xb, 1, none⟩ = some (.int .i64 Z2)) := Lib.hid (by rw [cell_block HX6.out]; rfl)
              have HS6 := Lib.hid (HS0.out.below HB6.out)
              have HBl : Hid (b < w6.heap.size) := Lib.hid HS6.out.b_lt
              have HC0 : Hid (w6.cell? ⟨b, 0, none⟩ = some (.slice none N J1)) := Lib.hid (by rw [HS6.out.c0, HN.out])
              have HLa : Hid (((L.take J1).length : Int) ≤ 1000000) := Lib.hid (by rw [List.length_take]; have := HLn2.out; omega)
              have HFr : Hid (∀ v, Below w6.heap.size w6 v → OwnP .i64 81 0 (.slice none J1 J1) (L.take J1) v) := Lib.hid (fun v hz => by
                have h := (HS6.out.below hz).own
                rw [HN.out] at h
                exact h.front' hJN)
              have HOut : Hid (L.take J1 ++ [(Z1, Z2)] = addS L (x1, x2)) := Lib.hid (by
                unfold addS
                rw [show cnt (x1, x2) = (X1, X2) from Prod.ext HX12.out.1 HX12.out.2, if_pos HLt.out, addR_eq]
                show _ = L.take (behN (X1 - 1) L) ++ joinA (X1, X2) (L.drop (behN (X1 - 1) L))
                rw [HJ1.out, ← HJ5.out, List.drop_of_length_le (by rw [HN.out, HN1.out]; omega)]
                rfl)
              have hjc : J1 ≤ J1 := by omega

              refine Go.Proofs.Ytgagkmlkoeceiaa.R.wp_region_due [8, 9, 12] [2, 1, 1, 1, 1, 1, 1, 0, 1, 2, 2, 2, 3] (by kernel_rfl) (TriS (fun u => Below w6.heap.size w6 u) (AddS1 w6 Z1 Z2) (AddS2 w6 (.slice none N J1) (addS L (x1, x2))) (AddI b M l xs w (k + 1)) 75 76) (fun _ _ => True) (A13Ok b xb J1 N J1 none Z1 Z2) (by rfl) (by kernel_rfl) (by kernel_rfl) (by kernel_rfl) (by kernel_rfl) ?hcongC ?hOkC ?hopC ?hdoneC ?h0C
              case hcongC => exact fun k f f2 u hs hst => TriS.cong (fun hk => hs 75 (Go.Proofs.Ytgagkmlkoeceiaa.R.mem_slots (by subst hk; kernel_rfl))) (fun hk => hs 76 (Go.Proofs.Ytgagkmlkoeceiaa.R.mem_slots (by subst hk; kernel_rfl))) hst
              case hOkC => intro i u w1 w2 h hr; unfold A13Ok at h ⊢; split <;> first | exact True.intro | exact h
              case h0C => exact (Below.refl _ _).drew
              case hopC =>
                refine ⟨?_, ?_, ?_, ?_, ?_, ?_, ?_, ?_, ?_, ?_, ?_, ?_, ?_, trivial⟩
                · intro k z v hk hst hag hdep
                  refine .inl ⟨rfl, fun K hK => ?_⟩
                  have d0 : z.tmps.getD 0 undef = .pointer (some ⟨b, 0, none⟩) := hag.2.2 0 (by kernel_rfl)
                  have e0 := d0
                  rw [Array.getD_eq_getD_getElem?] at e0
                  have HSt := Lib.hid hst
                  clear hdep hag hst
                  go_simp
                  exact hK _ _ trivial rfl HSt.out
                · intro k z v hk hst hag hdep
                  refine .inl ⟨rfl, fun K hK => ?_⟩
                  have d0 : z.tmps.getD 0 undef = .pointer (some ⟨b, 0, none⟩) := hag.2.2 0 (by kernel_rfl)
                  have e0 := d0
                  rw [Array.getD_eq_getD_getElem?] at e0
                  have HSt := Lib.hid hst
                  clear hdep hag hst
                  go_simp
                  exact hK _ _ trivial rfl HSt.out
                · intro k z v hk hst hag hdep
                  refine .inl ⟨rfl, fun K hK => ?_⟩
                  have d68 : z.tmps.getD 68 undef = .pointer (some ⟨b, 0, none⟩) := hdep { on := 1, ground := .data } (by simp) rfl _ _ rfl rfl
                  have e68 := d68
                  rw [Array.getD_eq_getD_getElem?] at e68
                  have HSt := Lib.hid hst
                  clear hdep hag hst
                  go_simp
                  exact hK _ _ trivial rfl HSt.out
                · intro k z v hk hst hag hdep
                  refine .inl ⟨rfl, fun K hK => ?_⟩
                  have d69 : z.tmps.getD 69 undef = .pointer (some ⟨b, 0, none⟩) := hdep { on := 2, ground := .data } (by simp) rfl _ _ rfl rfl
                  have e69 := d69
                  rw [Array.getD_eq_getD_getElem?] at e69
                  have HSt := Lib.hid hst
                  clear hdep hag hst
                  go_simp
                  exact hK _ _ trivial rfl HSt.out
                · intro k z v hk hst hag hdep
                  refine .inl ⟨rfl, fun K hK => ?_⟩
                  have d70 : z.tmps.getD 70 undef = .pointer (some ⟨b, 0, none⟩) := hdep { on := 3, ground := .data } (by simp) rfl _ _ rfl rfl
                  have e70 := d70
                  rw [Array.getD_eq_getD_getElem?] at e70
                  have hz : Below w6.heap.size w6 v := TriS.base (by have : k ≤ 1 := Nat.le_trans hk (by decide); exact this) hst
                  have l0 := (hz.cell (p := ⟨b, 0, none⟩) HBl.out).trans HC0.out
                  clear hz
                  have HSt := Lib.hid hst
                  clear hdep hag hst
                  go_simp
                  exact hK _ _ trivial rfl HSt.out
                · intro k z v hk hst hag hdep
                  refine .inl ⟨rfl, fun K hK => ?_⟩
                  have d6 : z.tmps.getD 6 undef = .int .i64 (J1 : Int) := hag.2.2 6 (by kernel_rfl)
                  have e6 := d6
                  rw [Array.getD_eq_getD_getElem?] at e6
                  have HSt := Lib.hid hst
                  clear hdep hag hst
                  go_simp
                  exact hK _ _ trivial rfl HSt.out
                · intro k z v hk hst hag hdep
                  refine .inl ⟨rfl, fun K hK => ?_⟩
                  have d71 : z.tmps.getD 71 undef = .slice none N J1 := hdep { on := 4, ground := .data } (by simp) rfl _ _ rfl rfl
                  have e71 := d71
                  rw [Array.getD_eq_getD_getElem?] at e71
                  have d72 : z.tmps.getD 72 undef = .int .i64 (J1 : Int) := hdep { on := 5, ground := .data } (by simp) rfl _ _ rfl rfl
                  have e72 := d72
                  rw [Array.getD_eq_getD_getElem?] at e72
                  have HSt := Lib.hid hst
                  clear hdep hag hst
                  go_simp
                  exact hK _ _ trivial rfl HSt.out
                · intro k z v hk hst hag hdep
                  refine .inl ⟨rfl, fun K hK => ?_⟩
                  have d5 : z.tmps.getD 5 undef = .pointer (some ⟨xb, 0, none⟩) := hag.2.2 5 (by kernel_rfl)
                  have e5 := d5
                  rw [Array.getD_eq_getD_getElem?] at e5
                  have hz : Below w6.heap.size w6 v := TriS.base (by have : k ≤ 1 := Nat.le_trans hk (by decide); exact this) hst
                  have l0 := (hz.cell (p := ⟨xb, 0, none⟩) HXl.out).trans HX0.out
                  have l1 := (hz.cell (p := ⟨xb, 1, none⟩) HXl.out).trans HX1.out
                  clear hz
                  have HSt := Lib.hid hst
                  clear hdep hag hst
                  go_simp
                  exact hK _ _ trivial rfl HSt.out
                · intro z v hst hag hdep
                  refine ⟨rfl, fun K hK => ?_⟩
                  have d74 : z.tmps.getD 74 undef = .agg #[.int .i64 Z1, .int .i64 Z2] := hdep { on := 7, ground := .data } (by simp) rfl _ _ rfl rfl
                  have e74 := d74
                  rw [Array.getD_eq_getD_getElem?] at e74
                  have h0 : Below w6.heap.size w6 v := hst
                  have hsz : 75 < z.tmps.size := by rw [hag.2.1]; show 75 < 80; decide
                  have hbz : Below v.heap.size v (v.alloc (.cells #[.int .i64 Z1, .int .i64 Z2] 81)) := (Below.refl _ _).alloc (Nat.le_refl _) _
                  have HSt := Lib.hid h0
                  clear hdep hag h0 hst
                  go_simp
                  exact hK _ _ trivial True.intro ⟨HSt.out.trans (hbz.mono HSt.out.size), v.heap.size, Go.Proofs.Ytgagkmlkoeceiaa.R.slot_same hsz, HSt.out.size, heap_alloc_new _ _⟩
                · intro z v hst hag hdep
                  refine ⟨rfl, fun K hK => ?_⟩
                  have d73 : z.tmps.getD 73 undef = .slice none J1 J1 := hdep { on := 6, ground := .data } (by simp) rfl _ _ rfl rfl
                  have e73 := d73
                  rw [Array.getD_eq_getD_getElem?] at e73
                  obtain ⟨h0, g9, f51, hgB, hg9⟩ := hst
                  have d75 : z.tmps.getD 75 undef = .slice (some ⟨g9, 0, none⟩) 1 1 := f51
                  have hsz : 76 < z.tmps.size := by rw [hag.2.1]; show 76 < 80; decide
                  have hOf := HFr.out v h0
                  have HSt := Lib.hid h0
                  clear hdep hag f51 hgB h0
                  refine wp_append_p spanT _ _ rfl rfl 0 _ (L.take J1) (some ⟨g9, 0, none⟩) 1 1 [(Z1, Z2)] d73 d75 hOf (pair_one hg9) (by intro e; cases e) HLa.out (by simp) (Nat.zero_le _) ?_
                  intro v2 w9 hG9
                  exact hK _ _ trivial True.intro (by
                  have e9 := Go.Proofs.Ytgagkmlkoeceiaa.R.slot_same (v := v2) hsz
                  show AddS2 _ _ _ _ _
                  rw [e9]
                  exact ⟨by have h9 := hG9.own; rw [HOut.out] at h9; exact h9, v, HSt.out, keepB_grown hG9.grown, hG9.block⟩)
                · intro k z v hk hst hag hdep
                  refine .inl ⟨rfl, fun K hK => ?_⟩
                  have d67 : z.tmps.getD 67 undef = .pointer (some ⟨b, 0, none⟩) := hdep { on := 0, ground := .data } (by simp) rfl _ _ rfl rfl
                  have e67 := d67
                  rw [Array.getD_eq_getD_getElem?] at e67
                  have HSt := Lib.hid hst
                  clear hdep hag hst
                  go_simp
                  exact hK _ _ trivial rfl HSt.out
                · intro k z v hk hst hag hdep
                  refine .inl ⟨rfl, fun K hK => ?_⟩
                  have d77 : z.tmps.getD 77 undef = .pointer (some ⟨b, 0, none⟩) := hdep { on := 10, ground := .data } (by simp) rfl _ _ rfl rfl
                  have e77 := d77
                  rw [Array.getD_eq_getD_getElem?] at e77
                  have HSt := Lib.hid hst
                  clear hdep hag hst
                  go_simp
                  exact hK _ _ trivial rfl HSt.out
                · intro z v hst hag hdep
                  refine ⟨rfl, fun K hK => ?_⟩
                  have d78 : z.tmps.getD 78 undef = .pointer (some ⟨b, 0, none⟩) := hdep { on := 11, ground := .data } (by simp) rfl _ _ rfl rfl
                  have e78 := d78
                  rw [Array.getD_eq_getD_getElem?] at e78
                  have h1 : AddS2 w6 (.slice none N J1) (addS L (x1, x2)) (z.tmps.getD 76 undef) v := hst
                  obtain ⟨ho7, u0, hu0, hk7, hb7⟩ := h1
                  obtain ⟨a7, c7, hv7, -⟩ := ho7.shape
                  have hSv := HS6.out.below hu0
                  obtain ⟨-, -, -, hc7, hf7⟩ := hSv.store ho7 hk7 (by simpa [HN.out] using hb7)
                  have HI1 : Hid (AddI b M l xs w (k + 1) (v.setCell ⟨b, 0, none⟩ (z.tmps.getD 76 undef))) := Lib.hid (AddI.step HK.out HM.out (HB6.out.trans (hu0.mono HB6.out.size)) hSv HLs.out ho7 hk7 (by simpa [HN.out] using hb7))
                  obtain ⟨n7, hn7⟩ : ∃ n7, (addS L (x1, x2)).length = n7 := ⟨_, rfl⟩
                  rw [hn7] at hv7
                  have d76 := hv7
                  have e76 := d76
                  rw [Array.getD_eq_getD_getElem?] at e76
                  rw [hv7] at HI1
                  clear hdep hag ho7 hu0 hk7 hb7 hSv hn7 hv7 hst
                  go_simp
                  exact hK undef _ trivial trivial HI1.out
              case' hdoneC =>
                intro z v hst hag hok
                have HI1 : Hid (AddI b M l xs w (k + 1) v) := Lib.hid hst
                clear hst
                obtain ⟨uu, hu, hzz⟩ := Go.Proofs.Ytgagkmlkoeceiaa.R.agree_frame [67, 68, 69, 70, 71, 72, 73, 74, 75, 76, 77, 78] rfl hag

                subst hzz
                simp only [List.foldl_cons, List.foldl_nil]
                rw []
                clear  hu hag hok
                try dsimp only [Exit.then]
                simp only [List.setIfInBounds_toArray, List.set_cons_succ, List.set_cons_zero]
                generalize uu 67 = u67', uu 68 = u68', uu 69 = u69', uu 70 = u70', uu 71 = u71', uu 72 = u72', uu 73 = u73', uu 74 = u74', uu 75 = u75', uu 76 = u76', uu 77 = u77', uu 78 = u78'
                clear uu
              go_wp2_with fail
              go_roundw
              case rel => exact ⟨k + 1, by omega, by go_num, HI1⟩
              case measure => simp [intOf]; omega



          · obtain ⟨q, hq⟩ : ∃ q, ad = ⟨q, 0, none⟩ := by
              have h1 := HSp.out ad ha
              have h2 := HA3.out ad.block ad.off (by rw [ha, ← h1])
              exact ⟨ad.block, by rw [h1, h2]⟩
            subst ha
            subst hq
            go_wp2_with fail
            clear hcb
            go_loopw [31] (fun i u => ∃ t : Nat, t ≤ 0 ∧ i = .int .i64 (t : Int) ∧ Hid (InA w0 xb J1 L (X1, X2) t u)) (fun i _ => 0 - (intOf i).toNat)
            case atStart => exact ⟨0, by omega, rfl, HIn0⟩
            case round =>
              obtain ⟨w6, hw6⟩ : ∃ w6, w6 = wr := ⟨_, rfl⟩
              subst hw6
              obtain ⟨t, ht, rfl, HIn⟩ := hrel
              obtain rfl : t = 0 := by omega
              clear HIn0
              obtain ⟨hB5, ⟨Z1, Z2⟩, hx5, hj5⟩ := HIn.out
              have HB5 := Lib.hid hB5
              have HX5 := Lib.hid hx5
              have HJ5 := Lib.hid hj5
              clear hB5 hx5 hj5 HIn
              go_upto_region 13 with fail
              have HB6 : Hid (Below w0.heap.size w0 w6) := HB5
              have HX6 : Hid (w6.heap[xb]? = some (.cells #[.int .i64 Z1, .int .i64 Z2] 81 (0, 0))) := HX5
              have HXl : Hid (xb < w6.heap.size) := Lib.hid (Array.getElem?_eq_some_iff.1 HX6.out).1
              have HX0 : Hid (w6.cell? ⟨xb, 0, none⟩ = some (.int .i64 Z1)) := Lib.hid (by rw [cell_block HX6.out]; rfl)
              have HX1 : Hid (w6.cell? ⟨xb, 1, none⟩ = some (.int .i64 Z2)) := Lib.hid (by rw [cell_block HX6.out]; rfl)
              have HS6 := Lib.hid (HS0.out.below HB6.out)
              have HBl : Hid (b < w6.heap.size) := Lib.hid HS6.out.b_lt
              have HC0 : Hid (w6.cell? ⟨b, 0, none⟩ = some (.slice (some ⟨q, 0, none⟩) N J1)) := Lib.hid (by rw [HS6.out.c0, HN.out])
              have HLa : Hid (((L.take J1).length : Int) ≤ 1000000) := Lib.hid (by rw [List.length_take]; have := HLn2.out; omega)
              have HFr : Hid (∀ v, Below w6.heap.size w6 v → OwnP .i64 81 0 (.slice (some ⟨q, 0, none⟩) J1 J1) (L.take J1) v) := Lib.hid (fun v hz => by
                have h := (HS6.out.below hz).own
                rw [HN.out] at h
                exact h.front' hJN)
              have HOut : Hid (L.take J1 ++ [(Z1, Z2)] = addS L (x1, x2)) := Lib.hid (by
                unfold addS
                rw [show cnt (x1, x2) = (X1, X2) from Prod.ext HX12.out.1 HX12.out.2, if_pos HLt.out, addR_eq]
                show _ = L.take (behN (X1 - 1) L) ++ joinA (X1, X2) (L.drop (behN (X1 - 1) L))
                rw [HJ1.out, ← HJ5.out, List.drop_of_length_le (by rw [HN.out, HN1.out]; omega)]
                rfl)
              have hjc : J1 ≤ J1 := by omega

              refine Go.Proofs.Ytgagkmlkoeceiaa.R.wp_region_due [8, 9, 12] [2, 1, 1, 1, 1, 1, 1, 0, 1, 2, 2, 2, 3] (by kernel_rfl) (TriS (fun u => Below w6.heap.size w6 u) (AddS1 w6 Z1 Z2) (AddS2 w6 (.slice (some ⟨q, 0, none⟩) N J1) (addS L (x1, x2))) (AddI b M l xs w (k + 1)) 75 76) (fun _ _ => True) (A13Ok b xb J1 N J1 (some ⟨q, 0, none⟩) Z1 Z2) (by rfl) (by kernel_rfl) (by kernel_rfl) (by kernel_rfl) (by kernel_rfl) ?hcongD ?hOkD ?hopD ?hdoneD ?h0D
              case hcongD => exact fun k f f2 u hs hst => TriS.cong (fun hk => hs 75 (Go.Proofs.Ytgagkmlkoeceiaa.R.mem_slots (by subst hk; kernel_rfl))) (fun hk => hs 76 (Go.Proofs.Ytgagkmlkoeceiaa.R.mem_slots (by subst hk; kernel_rfl))) hst
              case hOkD => intro i u w1 w2 h hr; unfold A13Ok at h ⊢; split <;> first | exact True.intro | exact h
              case h0D => exact (Below.refl _ _).drew
              case hopD =>
                refine ⟨?_, ?_, ?_, ?_, ?_, ?_, ?_, ?_, ?_, ?_, ?_, ?_, ?_, trivial⟩
                · intro k z v hk hst hag hdep
                  refine .inl ⟨rfl, fun K hK => ?_⟩
                  have d0 : z.tmps.getD 0 undef = .pointer (some ⟨b, 0, none⟩) := hag.2.2 0 (by kernel_rfl)
                  have e0 := d0
                  rw [Array.getD_eq_getD_getElem?] at e0
                  have HSt := Lib.hid hst
                  clear hdep hag hst
                  go_simp
                  exact hK _ _ trivial rfl HSt.out
                · intro k z v hk hst hag hdep
                  refine .inl ⟨rfl, fun K hK => ?_⟩
                  have d0 : z.tmps.getD 0 undef = .pointer (some ⟨b, 0, none⟩) := hag.2.2 0 (by kernel_rfl)
                  have e0 := d0
                  rw [Array.getD_eq_getD_getElem?] at e0
                  have HSt := Lib.hid hst
                  clear hdep hag hst
                  go_simp
                  exact hK _ _ trivial rfl HSt.out
                · intro k z v hk hst hag hdep
                  refine .inl ⟨rfl, fun K hK => ?_⟩
                  have d68 : z.tmps.getD 68 undef = .pointer (some ⟨b, 0, none⟩) := hdep { on := 1, ground := .data } (by simp) rfl _ _ rfl rfl
                  have e68 := d68
                  rw [Array.getD_eq_getD_getElem?] at e68
                  have HSt := Lib.hid hst
                  clear hdep hag hst
                  go_simp
                  exact hK _ _ trivial rfl HSt.out
                · intro k z v hk hst hag hdep
                  refine .inl ⟨rfl, fun K hK => ?_⟩
                  have d69 : z.tmps.getD 69 undef = .pointer (some ⟨b, 0, none⟩) := hdep { on := 2, ground := .data } (by simp) rfl _ _ rfl rfl
                  have e69 := d69
                  rw [Array.getD_eq_getD_getElem?] at e69
                  have HSt := Lib.hid hst
                  clear hdep hag hst
                  go_simp
                  exact hK _ _ trivial rfl HSt.out
                · intro k z v hk hst hag hdep
                  refine .inl ⟨rfl, fun K hK => ?_⟩
                  have d70 : z.tmps.getD 70 undef = .pointer (some ⟨b, 0, none⟩) := hdep { on := 3, ground := .data } (by simp) rfl _ _ rfl rfl
                  have e70 := d70
                  rw [Array.getD_eq_getD_getElem?] at e70
                  have hz : Below w6.heap.size w6 v := TriS.base (by have : k ≤ 1 := Nat.le_trans hk (by decide); exact this) hst
                  have l0 := (hz.cell (p := ⟨b, 0, none⟩) HBl.out).trans HC0.out
                  clear hz
                  have HSt := Lib.hid hst
                  clear hdep hag hst
                  go_simp
                  exact hK _ _ trivial rfl HSt.out
                · intro k z v hk hst hag hdep
                  refine .inl ⟨rfl, fun K hK => ?_⟩
                  have d6 : z.tmps.getD 6 undef = .int .i64 (J1 : Int) := hag.2.2 6 (by kernel_rfl)
                  have e6 := d6
                  rw [Array.getD_eq_getD_getElem?] at e6
                  have HSt := Lib.hid hst
                  clear hdep hag hst
                  go_simp
                  exact hK _ _ trivial rfl HSt.out
                · intro k z v hk hst hag hdep
                  refine .inl ⟨rfl, fun K hK => ?_⟩
                  have d71 : z.tmps.getD 71 undef = .slice (some ⟨q, 0, none⟩) N J1 := hdep { on := 4, ground := .data } (by simp) rfl _ _ rfl rfl
                  have e71 := d71
                  rw [Array.getD_eq_getD_getElem?] at e71
                  have d72 : z.tmps.getD 72 undef = .int .i64 (J1 : Int) := hdep { on := 5, ground := .data } (by simp) rfl _ _ rfl rfl
                  have e72 := d72
                  rw [Array.getD_eq_getD_getElem?] at e72
                  have HSt := Lib.hid hst
                  clear hdep hag hst
                  go_simp
                  exact hK _ _ trivial rfl HSt.out
                · intro k z v hk hst hag hdep
                  refine .inl ⟨rfl, fun K hK => ?_⟩
                  have d5 : z.tmps.getD 5 undef = .pointer (some ⟨xb, 0, none⟩) := hag.2.2 5 (by kernel_rfl)
                  have e5 := d5
                  rw [Array.getD_eq_getD_getElem?] at e5
                  have hz : Below w6.heap.size w6 v := TriS.base (by have : k ≤ 1 := Nat.le_trans hk (by decide); exact this) hst
                  have l0 := (hz.cell (p := ⟨xb, 0, none⟩) HXl.out).trans HX0.out
                  have l1 := (hz.cell (p := ⟨xb, 1, none⟩) HXl.out).trans HX1.out
                  clear hz
                  have HSt := Lib.hid hst
                  clear hdep hag hst
                  go_simp
                  exact hK _ _ trivial rfl HSt.out
                · intro z v hst hag hdep
                  refine ⟨rfl, fun K hK => ?_⟩
                  have d74 : z.tmps.getD 74 undef = .agg #[.int .i64 Z1, .int .i64 Z2] := hdep { on := 7, ground := .data } (by simp) rfl _ _ rfl rfl
                  have e74 := d74
                  rw [Array.getD_eq_getD_getElem?] at e74
                  have h0 : Below w6.heap.size w6 v := hst
                  have hsz : 75 < z.tmps.size := by rw [hag.2.1]; show 75 < 80; decide
                  have hbz : Below v.heap.size v (v.alloc (.cells #[.int .i64 Z1, .int .i64 Z2] 81)) := (Below.refl _ _).alloc (Nat.le_refl _) _
                  have HSt := Lib.hid h0
                  clear hdep hag h0 hst
                  go_simp
                  exact hK _ _ trivial True.intro ⟨HSt.out.trans (hbz.mono HSt.out.size), v.heap.size, Go.Proofs.Ytgagkmlkoeceiaa.R.slot_same hsz, HSt.out.size, heap_alloc_new _ _⟩
                · intro z v hst hag hdep
                  refine ⟨rfl, fun K hK => ?_⟩
                  have d73 : z.tmps.getD 73 undef = .slice (some ⟨q, 0, none⟩) J1 J1 := hdep { on := 6, ground := .data } (by simp) rfl _ _ rfl rfl
                  have e73 := d73
                  rw [Array.getD_eq_getD_getElem?] at e73
                  obtain ⟨h0, g9, f51, hgB, hg9⟩ := hst
                  have d75 : z.tmps.getD 75 undef = .slice (some ⟨g9, 0, none⟩) 1 1 := f51
                  have hsz : 76 < z.tmps.size := by rw [hag.2.1]; show 76 < 80; decide
                  have hOf := HFr.out v h0
                  have HSt := Lib.hid h0
                  clear hdep hag f51 hgB h0
                  refine wp_append_p spanT _ _ rfl rfl 0 _ (L.take J1) (some ⟨g9, 0, none⟩) 1 1 [(Z1, Z2)] d73 d75 hOf (pair_one hg9) (by intro e; cases e) HLa.out (by simp) (Nat.zero_le _) ?_
                  intro v2 w9 hG9
                  exact hK _ _ trivial True.intro (by
                  have e9 := Go.Proofs.Ytgagkmlkoeceiaa.R.slot_same (v := v2) hsz
                  show AddS2 _ _ _ _ _
                  rw [e9]
                  exact ⟨by have h9 := hG9.own; rw [HOut.out] at h9; exact h9, v, HSt.out, keepB_grown hG9.grown, hG9.block⟩)
                · intro k z v hk hst hag hdep
                  refine .inl ⟨rfl, fun K hK => ?_⟩
                  have d67 : z.tmps.getD 67 undef = .pointer (some ⟨b, 0, none⟩) := hdep { on := 0, ground := .data } (by simp) rfl _ _ rfl rfl
                  have e67 := d67
                  rw [Array.getD_eq_getD_getElem?] at e67
                  have HSt := Lib.hid hst
                  clear hdep hag hst
                  go_simp
                  exact hK _ _ trivial rfl HSt.out
                · intro k z v hk hst hag hdep
                  refine .inl ⟨rfl, fun K hK => ?_⟩
                  have d77 : z.tmps.getD 77 undef = .pointer (some ⟨b, 0, none⟩) := hdep { on := 10, ground := .data } (by simp) rfl _ _ rfl rfl
                  have e77 := d77
                  rw [Array.getD_eq_getD_getElem?] at e77
                  have HSt := Lib.hid hst
                  clear hdep hag hst
                  go_simp
                  exact hK _ _ trivial rfl HSt.out
                · intro z v hst hag hdep
                  refine ⟨rfl, fun K hK => ?_⟩
                  have d78 : z.tmps.getD 78 undef = .pointer (some ⟨b, 0, none⟩) := hdep { on := 11, ground := .data } (by simp) rfl _ _ rfl rfl
                  have e78 := d78
                  rw [Array.getD_eq_getD_getElem?] at e78
                  have h1 : AddS2 w6 (.slice (some ⟨q, 0, none⟩) N J1) (addS L (x1, x2)) (z.tmps.getD 76 undef) v := hst
                  obtain ⟨ho7, u0, hu0, hk7, hb7⟩ := h1
                  obtain ⟨a7, c7, hv7, -⟩ := ho7.shape
                  have hSv := HS6.out.below hu0
                  obtain ⟨-, -, -, hc7, hf7⟩ := hSv.store ho7 hk7 (by simpa [HN.out] using hb7)
                  have HI1 : Hid (AddI b M l xs w (k + 1) (v.setCell ⟨b, 0, none⟩ (z.tmps.getD 76 undef))) := Lib.hid (AddI.step HK.out HM.out (HB6.out.trans (hu0.mono HB6.out.size)) hSv HLs.out ho7 hk7 (by simpa [HN.out] using hb7))
                  obtain ⟨n7, hn7⟩ : ∃ n7, (addS L (x1, x2)).length = n7 := ⟨_, rfl⟩
                  rw [hn7] at hv7
                  have d76 := hv7
                  have e76 := d76
                  rw [Array.getD_eq_getD_getElem?] at e76
                  rw [hv7] at HI1
                  clear hdep hag ho7 hu0 hk7 hb7 hSv hn7 hv7 hst
                  go_simp
                  exact hK undef _ trivial trivial HI1.out
              case' hdoneD =>
                intro z v hst hag hok
                have HI1 : Hid (AddI b M l xs w (k + 1) v) := Lib.hid hst
                clear hst
                obtain ⟨uu, hu, hzz⟩ := Go.Proofs.Ytgagkmlkoeceiaa.R.agree_frame [67, 68, 69, 70, 71, 72, 73, 74, 75, 76, 77, 78] rfl hag

                subst hzz
                simp only [List.foldl_cons, List.foldl_nil]
                rw []
                clear  hu hag hok
                try dsimp only [Exit.then]
                simp only [List.setIfInBounds_toArray, List.set_cons_succ, List.set_cons_zero]
                generalize uu 67 = u67', uu 68 = u68', uu 69 = u69', uu 70 = u70', uu 71 = u71', uu 72 = u72', uu 73 = u73', uu 74 = u74', uu 75 = u75', uu 76 = u76', uu 77 = u77', uu 78 = u78'
                clear uu
              go_wp2_with fail
              go_roundw
              case rel => exact ⟨k + 1, by omega, by go_num, HI1⟩
              case measure => simp [intOf]; omega



        · obtain ⟨q, ha⟩ : ∃ q, a = some ⟨q, 0, none⟩ := by
            cases a with
            | none => exact absurd (by have := HA0.out rfl; omega) hcj
            | some ad =>
              have h1 := HSp.out ad rfl
              have h2 := HA3.out ad.block ad.off (by rw [← h1])
              exact ⟨ad.block, by rw [h1, h2]⟩
          subst ha
          obtain ⟨R, hR⟩ : ∃ R, N - J1 = R := ⟨_, rfl⟩
          have hRl : (R : Int) ≤ 100000 := by omega
          have hR2 : J1 + R = N := by omega
          have hJ1i : (J1 : Int) ≤ (N : Int) := by omega
          go_wp2_with fail
          have HR := Lib.hid hR
          clear hR hcb
          go_loopw [31] (fun i u => ∃ t : Nat, t ≤ R ∧ i = .int .i64 (t : Int) ∧ Hid (InA w0 xb J1 L (X1, X2) t u)) (fun i _ => R - (intOf i).toNat)
          case atStart => exact ⟨0, by omega, rfl, HIn0⟩
          case round =>
            obtain ⟨w5, hw5⟩ : ∃ w5, w5 = wr := ⟨_, rfl⟩
            subst hw5
            obtain ⟨t, ht, rfl, HIn⟩ := hrel
            clear HIn0
            obtain ⟨hB5, ⟨Z1, Z2⟩, hx5, hj5⟩ := HIn.out
            have hS5 := HS0.out.below hB5
            have hz1 : w5.cell? ⟨xb, 0, none⟩ = some (.int .i64 Z1) := by rw [cell_block hx5]; rfl
            have hz2 : w5.cell? ⟨xb, 1, none⟩ = some (.int .i64 Z2) := by rw [cell_block hx5]; rfl
            have hxl : xb < w5.heap.size := (Array.getElem?_eq_some_iff.1 hx5).1
            have hcb := hS5.c0
            rw [HN.out] at hcb
            have HB5 := Lib.hid hB5
            have HX5 := Lib.hid hx5
            have HJ5 := Lib.hid hj5
            have HS5 := Lib.hid hS5
            by_cases hlt2 : t < R
            · obtain ⟨y, hy⟩ : ∃ y, L[J1 + t]? = some y := ⟨_, List.getElem?_eq_getElem (by rw [HN.out]; omega)⟩
              have hqat := (hS5.own.at0).2 _ y hy
              have hql := (hS5.own.at0).1
              obtain ⟨Y1, Y2⟩ := y
              have hy1 : w5.cell? ⟨q, J1 * 2 + t * 2, none⟩ = some (.int .i64 Y1) := by rw [← Nat.add_mul]; exact hqat.1
              have hy2 : w5.cell? ⟨q, J1 * 2 + t * 2 + 1, none⟩ = some (.int .i64 Y2) := by rw [← Nat.add_mul]; exact hqat.2
              have hdr : L.drop (J1 + t) = (Y1, Y2) :: L.drop (J1 + t + 1) := by
                have hkl := List.getElem?_eq_some_iff.1 hy
                rw [List.drop_eq_getElem_cons hkl.1, hkl.2]
              have HDr := Lib.hid hdr
              have hti : (t : Int) < (R : Int) := by omega
              have hxf : w5.frozen? ⟨xb, 0, none⟩ = false := frozen_block hx5 0
              have hxf1 : w5.frozen? ⟨xb, 1, none⟩ = false := frozen_block hx5 1
              clear hB5 hx5 hj5 hS5 hy hqat hdr hcb HIn
              by_cases hgt : Z2 < Y1
              · -- it begins behind
                have hd : decide (Z2 < Y1) = true := by simpa using hgt
                have HGt := Lib.hid hgt
                clear hgt
                go_upto_region 10 with fail
                obtain ⟨w6, hw6⟩ : ∃ w6, w6 = w5.alloc (.cells #[.int .i64 Y1, .int .i64 Y2] 81) := ⟨_, rfl⟩
                rw [← hw6]
                have hb6 : Below w5.heap.size w5 w6 := by rw [hw6]; exact (Below.refl _ _).alloc (Nat.le_refl _) _
                have HB6 : Hid (Below w0.heap.size w0 w6) := Lib.hid (HB5.out.trans (hb6.mono HB5.out.size))
                have HX6 : Hid (w6.heap[xb]? = some (.cells #[.int .i64 Z1, .int .i64 Z2] 81 (0, 0))) := Lib.hid ((hb6.block xb hxl).trans HX5.out)
                have HXl : Hid (xb < w6.heap.size) := Lib.hid (Array.getElem?_eq_some_iff.1 HX6.out).1
                have HX0 : Hid (w6.cell? ⟨xb, 0, none⟩ = some (.int .i64 Z1)) := Lib.hid (by rw [cell_block HX6.out]; rfl)
                have HX1 : Hid (w6.cell? ⟨xb, 1, none⟩ = some (.int .i64 Z2)) := Lib.hid (by rw [cell_block HX6.out]; rfl)
                have HS6 := Lib.hid (HS0.out.below HB6.out)
                have HBl : Hid (b < w6.heap.size) := Lib.hid HS6.out.b_lt
                have HC0 : Hid (w6.cell? ⟨b, 0, none⟩ = some (.slice (some ⟨q, 0, none⟩) N cp)) := Lib.hid (by rw [HS6.out.c0, HN.out])
                have hwJ : IntKind.i64.wrap ((J1 : Int) + (t : Int)) = (J1 : Int) + (t : Int) := by rw [IntKind.wrap_i64]; omega
                clear hw6 hb6 hz1 hz2 hxf hxf1 hy1 hy2 hxl
                have HOut : Hid (L.take J1 ++ [(Z1, Z2)] ++ L.drop (J1 + t) = addS L (x1, x2)) := Lib.hid (by
                  unfold addS
                  rw [show cnt (x1, x2) = (X1, X2) from Prod.ext HX12.out.1 HX12.out.2, if_pos HLt.out, addR_eq]
                  show _ = L.take (behN (X1 - 1) L) ++ joinA (X1, X2) (L.drop (behN (X1 - 1) L))
                  rw [HJ1.out, ← HJ5.out, HDr.out, joinA, if_pos HGt.out, List.append_assoc]
                  rfl)
                have HRep : Hid (∀ (v : World) (g9 : Nat), Below w6.heap.size w6 v → w6.heap.size ≤ g9 → v.heap[g9]? = some (.cells #[.int .i64 Z1, .int .i64 Z2] 81 (0, 0)) → Calls Try.prog 40 #[.slice (some ⟨q, 0, none⟩) N cp, .int .i64 (J1 : Int), .int .i64 ((J1 : Int) + (t : Int)), .slice (some ⟨g9, 0, none⟩) 1 1] v (RepPost (.slice (some ⟨q, 0, none⟩) N cp) (L.take J1 ++ [(Z1, Z2)] ++ L.drop (J1 + t)) v)) := Lib.hid (fun v g9 hz hgB hg9 => by
                  have hSv := HS6.out.below hz
                  have hrep := replace_any (some ⟨q, 0, none⟩) N cp J1 (J1 + t) 1 1 (some ⟨g9, 0, none⟩) L [(Z1, Z2)] v (by have h := hSv.own; rw [HN.out] at h; exact h) (by omega) (by omega) (by have := HLn2.out; have := HN.out; omega) (pair_one hg9) (by intro e; cases e) (.inr ⟨g9, _, rfl, by unfold RowC; exact hg9, by simp, fun p hp e => by
                    have h2 := (HS6.out.own.ownBlock p hp).2
                    omega⟩) (.inr (by omega))
                  rw [Int.natCast_add] at hrep
                  exact hrep)
                refine Go.Proofs.Ytgagkmlkoeceiaa.R.wp_region_due [10, 11, 14] [2, 1, 1, 1, 1, 1, 1, 1, 1, 0, 1, 2, 2, 2, 3] (by kernel_rfl) (TriS (fun u => Below w6.heap.size w6 u) (AddS1 w6 Z1 Z2) (AddS2 w6 (.slice (some ⟨q, 0, none⟩) N cp) (addS L (x1, x2))) (AddI b M l xs w (k + 1)) 51 52) (fun _ _ => True) (A10Ok b xb J1 t N cp (some ⟨q, 0, none⟩) Z1 Z2) (by rfl) (by kernel_rfl) (by kernel_rfl) (by kernel_rfl) (by kernel_rfl) ?hcong ?hOk ?hop ?hdone ?h0
                case hcong => exact fun k f f2 u hs hst => TriS.cong (fun hk => hs 51 (Go.Proofs.Ytgagkmlkoeceiaa.R.mem_slots (by subst hk; kernel_rfl))) (fun hk => hs 52 (Go.Proofs.Ytgagkmlkoeceiaa.R.mem_slots (by subst hk; kernel_rfl))) hst
                case hOk => intro i u w1 w2 h hr; unfold A10Ok at h ⊢; split <;> first | exact True.intro | exact h
                case h0 => exact (Below.refl _ _).drew
                case hop =>
                  refine ⟨?_, ?_, ?_, ?_, ?_, ?_, ?_, ?_, ?_, ?_, ?_, ?_, ?_, ?_, ?_, trivial⟩
                  · intro k z v hk hst hag hdep
                    refine .inl ⟨rfl, fun K hK => ?_⟩
                    have d0 : z.tmps.getD 0 undef = .pointer (some ⟨b, 0, none⟩) := hag.2.2 0 (by kernel_rfl)
                    have e0 := d0
                    rw [Array.getD_eq_getD_getElem?] at e0
                    have HSt := Lib.hid hst
                    clear hdep hag hst
                    go_simp
                    exact hK _ _ trivial rfl HSt.out
                  · intro k z v hk hst hag hdep
                    refine .inl ⟨rfl, fun K hK => ?_⟩
                    have d0 : z.tmps.getD 0 undef = .pointer (some ⟨b, 0, none⟩) := hag.2.2 0 (by kernel_rfl)
                    have e0 := d0
                    rw [Array.getD_eq_getD_getElem?] at e0
                    have HSt := Lib.hid hst
                    clear hdep hag hst
                    go_simp
                    exact hK _ _ trivial rfl HSt.out
                  · intro k z v hk hst hag hdep
                    refine .inl ⟨rfl, fun K hK => ?_⟩
                    have d42 : z.tmps.getD 42 undef = .pointer (some ⟨b, 0, none⟩) := hdep { on := 1, ground := .data } (by simp) rfl _ _ rfl rfl
                    have e42 := d42
                    rw [Array.getD_eq_getD_getElem?] at e42
                    have HSt := Lib.hid hst
                    clear hdep hag hst
                    go_simp
                    exact hK _ _ trivial rfl HSt.out
                  · intro k z v hk hst hag hdep
                    refine .inl ⟨rfl, fun K hK => ?_⟩
                    have d43 : z.tmps.getD 43 undef = .pointer (some ⟨b, 0, none⟩) := hdep { on := 2, ground := .data } (by simp) rfl _ _ rfl rfl
                    have e43 := d43
                    rw [Array.getD_eq_getD_getElem?] at e43
                    have HSt := Lib.hid hst
                    clear hdep hag hst
                    go_simp
                    exact hK _ _ trivial rfl HSt.out
                  · intro k z v hk hst hag hdep
                    refine .inl ⟨rfl, fun K hK => ?_⟩
                    have d44 : z.tmps.getD 44 undef = .pointer (some ⟨b, 0, none⟩) := hdep { on := 3, ground := .data } (by simp) rfl _ _ rfl rfl
                    have e44 := d44
                    rw [Array.getD_eq_getD_getElem?] at e44
                    have hz : Below w6.heap.size w6 v := TriS.base (by have : k ≤ 1 := Nat.le_trans hk (by decide); exact this) hst
                    have l0 := (hz.cell (p := ⟨b, 0, none⟩) HBl.out).trans HC0.out
                    clear hz
                    have HSt := Lib.hid hst
                    clear hdep hag hst
                    go_simp
                    exact hK _ _ trivial rfl HSt.out
                  · intro k z v hk hst hag hdep
                    refine .inl ⟨rfl, fun K hK => ?_⟩
                    have d6 : z.tmps.getD 6 undef = .int .i64 (J1 : Int) := hag.2.2 6 (by kernel_rfl)
                    have e6 := d6
                    rw [Array.getD_eq_getD_getElem?] at e6
                    have HSt := Lib.hid hst
                    clear hdep hag hst
                    go_simp
                    exact hK _ _ trivial rfl HSt.out
                  · intro k z v hk hst hag hdep
                    refine .inl ⟨rfl, fun K hK => ?_⟩
                    have d6 : z.tmps.getD 6 undef = .int .i64 (J1 : Int) := hag.2.2 6 (by kernel_rfl)
                    have e6 := d6
                    rw [Array.getD_eq_getD_getElem?] at e6
                    have HSt := Lib.hid hst
                    clear hdep hag hst
                    go_simp
                    exact hK _ _ trivial rfl HSt.out
                  · intro k z v hk hst hag hdep
                    refine .inl ⟨rfl, fun K hK => ?_⟩
                    have d7 : z.tmps.getD 7 undef = .int .i64 (t : Int) := hag.2.2 7 (by kernel_rfl)
                    have e7 := d7
                    rw [Array.getD_eq_getD_getElem?] at e7
                    have HSt := Lib.hid hst
                    clear hdep hag hst
                    go_simp
                    exact hK _ _ trivial rfl HSt.out
                  · intro k z v hk hst hag hdep
                    refine .inl ⟨rfl, fun K hK => ?_⟩
                    have d47 : z.tmps.getD 47 undef = .int .i64 (J1 : Int) := hdep { on := 6, ground := .data } (by simp) rfl _ _ rfl rfl
                    have e47 := d47
                    rw [Array.getD_eq_getD_getElem?] at e47
                    have d48 : z.tmps.getD 48 undef = .int .i64 (t : Int) := hdep { on := 7, ground := .data } (by simp) rfl _ _ rfl rfl
                    have e48 := d48
                    rw [Array.getD_eq_getD_getElem?] at e48
                    have HSt := Lib.hid hst
                    clear hdep hag hst
                    go_simp
                    exact hK _ _ trivial rfl HSt.out
                  · intro k z v hk hst hag hdep
                    refine .inl ⟨rfl, fun K hK => ?_⟩
                    have d5 : z.tmps.getD 5 undef = .pointer (some ⟨xb, 0, none⟩) := hag.2.2 5 (by kernel_rfl)
                    have e5 := d5
                    rw [Array.getD_eq_getD_getElem?] at e5
                    have hz : Below w6.heap.size w6 v := TriS.base (by have : k ≤ 1 := Nat.le_trans hk (by decide); exact this) hst
                    have l0 := (hz.cell (p := ⟨xb, 0, none⟩) HXl.out).trans HX0.out
                    have l1 := (hz.cell (p := ⟨xb, 1, none⟩) HXl.out).trans HX1.out
                    clear hz
                    have HSt := Lib.hid hst
                    clear hdep hag hst
                    go_simp
                    exact hK _ _ trivial rfl HSt.out
                  · intro z v hst hag hdep
                    refine ⟨rfl, fun K hK => ?_⟩
                    have d50 : z.tmps.getD 50 undef = .agg #[.int .i64 Z1, .int .i64 Z2] := hdep { on := 9, ground := .data } (by simp) rfl _ _ rfl rfl
                    have e50 := d50
                    rw [Array.getD_eq_getD_getElem?] at e50
                    have h0 : Below w6.heap.size w6 v := hst
                    have hsz : 51 < z.tmps.size := by rw [hag.2.1]; show 51 < 80; decide
                    have hbz : Below v.heap.size v (v.alloc (.cells #[.int .i64 Z1, .int .i64 Z2] 81)) := (Below.refl _ _).alloc (Nat.le_refl _) _
                    have HSt := Lib.hid h0
                    clear hdep hag h0 hst
                    go_simp
                    exact hK _ _ trivial True.intro ⟨HSt.out.trans (hbz.mono HSt.out.size), v.heap.size, Go.Proofs.Ytgagkmlkoeceiaa.R.slot_same hsz, HSt.out.size, heap_alloc_new _ _⟩
                  · intro z v hst hag hdep
                    refine ⟨rfl, fun K hK => ?_⟩
                    have d45 : z.tmps.getD 45 undef = .slice (some ⟨q, 0, none⟩) N cp := hdep { on := 4, ground := .data } (by simp) rfl _ _ rfl rfl
                    have e45 := d45
                    rw [Array.getD_eq_getD_getElem?] at e45
                    have d46 : z.tmps.getD 46 undef = .int .i64 (J1 : Int) := hdep { on := 5, ground := .data } (by simp) rfl _ _ rfl rfl
                    have e46 := d46
                    rw [Array.getD_eq_getD_getElem?] at e46
                    have d49 : z.tmps.getD 49 undef = .int .i64 ((J1 : Int) + (t : Int)) := hdep { on := 8, ground := .data } (by simp) rfl _ _ rfl rfl
                    have e49 := d49
                    rw [Array.getD_eq_getD_getElem?] at e49
                    obtain ⟨h0, g9, f51, hgB, hg9⟩ := hst
                    have d51 : z.tmps.getD 51 undef = .slice (some ⟨g9, 0, none⟩) 1 1 := f51
                    have e51 := d51
                    rw [Array.getD_eq_getD_getElem?] at e51
                    have hsz : 52 < z.tmps.size := by rw [hag.2.1]; show 52 < 80; decide
                    have HCl := Lib.hid (HRep.out v g9 h0 hgB hg9)
                    have HSt := Lib.hid h0
                    clear hdep hag f51 hgB hg9 h0
                    go_simp
                    refine HCl.out.mono ?_
                    rintro e w' ⟨v2, rfl, ho7, hk7, hb7⟩
                    exact hK _ _ trivial True.intro (by
                    have e9 := Go.Proofs.Ytgagkmlkoeceiaa.R.slot_same (v := v2) hsz
                    show AddS2 _ _ _ _ _
                    rw [e9]
                    exact ⟨by rw [HOut.out] at ho7; exact ho7, v, HSt.out, hk7, hb7⟩)
                  · intro k z v hk hst hag hdep
                    refine .inl ⟨rfl, fun K hK => ?_⟩
                    have d41 : z.tmps.getD 41 undef = .pointer (some ⟨b, 0, none⟩) := hdep { on := 0, ground := .data } (by simp) rfl _ _ rfl rfl
                    have e41 := d41
                    rw [Array.getD_eq_getD_getElem?] at e41
                    have HSt := Lib.hid hst
                    clear hdep hag hst
                    go_simp
                    exact hK _ _ trivial rfl HSt.out
                  · intro k z v hk hst hag hdep
                    refine .inl ⟨rfl, fun K hK => ?_⟩
                    have d53 : z.tmps.getD 53 undef = .pointer (some ⟨b, 0, none⟩) := hdep { on := 12, ground := .data } (by simp) rfl _ _ rfl rfl
                    have e53 := d53
                    rw [Array.getD_eq_getD_getElem?] at e53
                    have HSt := Lib.hid hst
                    clear hdep hag hst
                    go_simp
                    exact hK _ _ trivial rfl HSt.out
                  · intro z v hst hag hdep
                    refine ⟨rfl, fun K hK => ?_⟩
                    have d54 : z.tmps.getD 54 undef = .pointer (some ⟨b, 0, none⟩) := hdep { on := 13, ground := .data } (by simp) rfl _ _ rfl rfl
                    have e54 := d54
                    rw [Array.getD_eq_getD_getElem?] at e54
                    have h1 : AddS2 w6 (.slice (some ⟨q, 0, none⟩) N cp) (addS L (x1, x2)) (z.tmps.getD 52 undef) v := hst
                    obtain ⟨ho7, u0, hu0, hk7, hb7⟩ := h1
                    obtain ⟨a7, c7, hv7, -⟩ := ho7.shape
                    have hSv := HS6.out.below hu0
                    obtain ⟨-, -, -, hc7, hf7⟩ := hSv.store ho7 hk7 (by simpa [HN.out] using hb7)
                    have HI1 : Hid (AddI b M l xs w (k + 1) (v.setCell ⟨b, 0, none⟩ (z.tmps.getD 52 undef))) := Lib.hid (AddI.step HK.out HM.out (HB6.out.trans (hu0.mono HB6.out.size)) hSv HLs.out ho7 hk7 (by simpa [HN.out] using hb7))
                    obtain ⟨n7, hn7⟩ : ∃ n7, (addS L (x1, x2)).length = n7 := ⟨_, rfl⟩
                    rw [hn7] at hv7
                    have d52 := hv7
                    have e52 := d52
                    rw [Array.getD_eq_getD_getElem?] at e52
                    rw [hv7] at HI1
                    clear hdep hag ho7 hu0 hk7 hb7 hSv hn7 hv7 hst
                    go_simp
                    exact hK undef _ trivial trivial HI1.out
                case' hdone =>
                  intro z v hst hag hok
                  have HI1 : Hid (AddI b M l xs w (k + 1) v) := Lib.hid hst
                  clear hst
                  obtain ⟨uu, hu, hzz⟩ := Go.Proofs.Ytgagkmlkoeceiaa.R.agree_frame [41, 42, 43, 44, 45, 46, 47, 48, 49, 50, 51, 52, 53, 54] rfl hag

                  subst hzz
                  simp only [List.foldl_cons, List.foldl_nil]
                  rw []
                  clear  hu hag hok
                  try dsimp only [Exit.then]
                  simp only [List.setIfInBounds_toArray, List.set_cons_succ, List.set_cons_zero]
                  generalize uu 41 = u41', uu 42 = u42', uu 43 = u43', uu 44 = u44', uu 45 = u45', uu 46 = u46', uu 47 = u47', uu 48 = u48', uu 49 = u49', uu 50 = u50', uu 51 = u51', uu 52 = u52', uu 53 = u53', uu 54 = u54'
                  clear uu
                go_wp2_with fail
                go_roundw
                case rel => exact ⟨k + 1, by omega, by go_num, HI1⟩
                case measure => simp [intOf]; omega


              · -- they are joined
                have hd : decide (Z2 < Y1) = false := by simpa using hgt
                have HGt := Lib.hid hgt
                clear hgt
                go_wp2_with fail
                go_roundw
                case rel =>
                  refine ⟨t + 1, by omega, by go_num, Lib.hid ⟨?_, (min Z1 Y1, max Z2 Y2), ?_, ?_⟩⟩
                  · refine Below.alloc ((HB5.out.setCell (p := ⟨xb, 0, none⟩) (by rw [HSX.out]; exact Nat.le_refl _) _).setCell (p := ⟨xb, 1, none⟩) (by rw [HSX.out]; exact Nat.le_refl _) _) ?_ _
                    exact Nat.le_trans HB5.out.size (Nat.le_trans (KeepsWalks.setCell _ _ _).size (KeepsWalks.setCell _ _ _).size)
                  · refine (Below.heap_alloc _ _ _ (Nat.lt_of_lt_of_le hxl (Nat.le_trans (KeepsWalks.setCell _ _ _).size (KeepsWalks.setCell _ _ _).size))).trans ?_
                    simp [World.setCell, Array.getElem?_modify, HX5.out]
                  · rw [← HJ5.out, HDr.out, joinA, if_neg HGt.out]
                    rfl
                case measure => simp [intOf]; omega
            · obtain rfl : t = R := by omega
              obtain ⟨w6, hw6⟩ : ∃ w6, w6 = w5 := ⟨_, rfl⟩
              subst hw6
              clear hB5 hx5 hj5 hS5 hcb HIn hz1 hz2 hxl
              go_upto_region 13 with fail
              have HB6 : Hid (Below w0.heap.size w0 w6) := HB5
              have HX6 : Hid (w6.heap[xb]? = some (.cells #[.int .i64 Z1, .int .i64 Z2] 81 (0, 0))) := HX5
              have HXl : Hid (xb < w6.heap.size) := Lib.hid (Array.getElem?_eq_some_iff.1 HX6.out).1
              have HX0 : Hid (w6.cell? ⟨xb, 0, none⟩ = some (.int .i64 Z1)) := Lib.hid (by rw [cell_block HX6.out]; rfl)
              have HX1 : Hid (w6.cell? ⟨xb, 1, none⟩ = some (.int .i64 Z2)) := Lib.hid (by rw [cell_block HX6.out]; rfl)
              have HS6 := Lib.hid (HS0.out.below HB6.out)
              have HBl : Hid (b < w6.heap.size) := Lib.hid HS6.out.b_lt
              have HC0 : Hid (w6.cell? ⟨b, 0, none⟩ = some (.slice (some ⟨q, 0, none⟩) N cp)) := Lib.hid (by rw [HS6.out.c0, HN.out])
              have HLa : Hid (((L.take J1).length : Int) ≤ 1000000) := Lib.hid (by rw [List.length_take]; have := HLn2.out; omega)
              have HFr : Hid (∀ v, Below w6.heap.size w6 v → OwnP .i64 81 0 (.slice (some ⟨q, 0, none⟩) J1 cp) (L.take J1) v) := Lib.hid (fun v hz => by
                have h := (HS6.out.below hz).own
                rw [HN.out] at h
                exact h.front' hJN)
              have HOut : Hid (L.take J1 ++ [(Z1, Z2)] = addS L (x1, x2)) := Lib.hid (by
                unfold addS
                rw [show cnt (x1, x2) = (X1, X2) from Prod.ext HX12.out.1 HX12.out.2, if_pos HLt.out, addR_eq]
                show _ = L.take (behN (X1 - 1) L) ++ joinA (X1, X2) (L.drop (behN (X1 - 1) L))
                rw [HJ1.out, ← HJ5.out, List.drop_of_length_le (by rw [HN.out]; omega)]
                rfl)
              have hjc : J1 ≤ cp := by omega

              refine Go.Proofs.Ytgagkmlkoeceiaa.R.wp_region_due [8, 9, 12] [2, 1, 1, 1, 1, 1, 1, 0, 1, 2, 2, 2, 3] (by kernel_rfl) (TriS (fun u => Below w6.heap.size w6 u) (AddS1 w6 Z1 Z2) (AddS2 w6 (.slice (some ⟨q, 0, none⟩) N cp) (addS L (x1, x2))) (AddI b M l xs w (k + 1)) 75 76) (fun _ _ => True) (A13Ok b xb J1 N cp (some ⟨q, 0, none⟩) Z1 Z2) (by rfl) (by kernel_rfl) (by kernel_rfl) (by kernel_rfl) (by kernel_rfl) ?hcongB ?hOkB ?hopB ?hdoneB ?h0B
              case hcongB => exact fun k f f2 u hs hst => TriS.cong (fun hk => hs 75 (Go.Proofs.Ytgagkmlkoeceiaa.R.mem_slots (by subst hk; kernel_rfl))) (fun hk => hs 76 (Go.Proofs.Ytgagkmlkoeceiaa.R.mem_slots (by subst hk; kernel_rfl))) hst
              case hOkB => intro i u w1 w2 h hr; unfold A13Ok at h ⊢; split <;> first | exact True.intro | exact h
              case h0B => exact (Below.refl _ _).drew
              case hopB =>
                refine ⟨?_, ?_, ?_, ?_, ?_, ?_, ?_, ?_, ?_, ?_, ?_, ?_, ?_, trivial⟩
                · intro k z v hk hst hag hdep
                  refine .inl ⟨rfl, fun K hK => ?_⟩
                  have d0 : z.tmps.getD 0 undef = .pointer (some ⟨b, 0, none⟩) := hag.2.2 0 (by kernel_rfl)
                  have e0 := d0
                  rw [Array.getD_eq_getD_getElem?] at e0
                  have HSt := Lib.hid hst
                  clear hdep hag hst
                  go_simp
                  exact hK _ _ trivial rfl HSt.out
                · intro k z v hk hst hag hdep
                  refine .inl ⟨rfl, fun K hK => ?_⟩
                  have d0 : z.tmps.getD 0 undef = .pointer (some ⟨b, 0, none⟩) := hag.2.2 0 (by kernel_rfl)
                  have e0 := d0
                  rw [Array.getD_eq_getD_getElem?] at e0
                  have HSt := Lib.hid hst
                  clear hdep hag hst
                  go_simp
                  exact hK _ _ trivial rfl HSt.out
                · intro k z v hk hst hag hdep
                  refine .inl ⟨rfl, fun K hK => ?_⟩
                  have d68 : z.tmps.getD 68 undef = .pointer (some ⟨b, 0, none⟩) := hdep { on := 1, ground := .data } (by simp) rfl _ _ rfl rfl
                  have e68 := d68
                  rw [Array.getD_eq_getD_getElem?] at e68
                  have HSt := Lib.hid hst
                  clear hdep hag hst
                  go_simp
                  exact hK _ _ trivial rfl HSt.out
                · intro k z v hk hst hag hdep
                  refine .inl ⟨rfl, fun K hK => ?_⟩
                  have d69 : z.tmps.getD 69 undef = .pointer (some ⟨b, 0, none⟩) := hdep { on := 2, ground := .data } (by simp) rfl _ _ rfl rfl
                  have e69 := d69
                  rw [Array.getD_eq_getD_getElem?] at e69
                  have HSt := Lib.hid hst
                  clear hdep hag hst
                  go_simp
                  exact hK _ _ trivial rfl HSt.out
                · intro k z v hk hst hag hdep
                  refine .inl ⟨rfl, fun K hK => ?_⟩
                  have d70 : z.tmps.getD 70 undef = .pointer (some ⟨b, 0, none⟩) := hdep { on := 3, ground := .data } (by simp) rfl _ _ rfl rfl
                  have e70 := d70
                  rw [Array.getD_eq_getD_getElem?] at e70
                  have hz : Below w6.heap.size w6 v := TriS.base (by have : k ≤ 1 := Nat.le_trans hk (by decide); exact this) hst
                  have l0 := (hz.cell (p := ⟨b, 0, none⟩) HBl.out).trans HC0.out
                  clear hz
                  have HSt := Lib.hid hst
                  clear hdep hag hst
                  go_simp
                  exact hK _ _ trivial rfl HSt.out
                · intro k z v hk hst hag hdep
                  refine .inl ⟨rfl, fun K hK => ?_⟩
                  have d6 : z.tmps.getD 6 undef = .int .i64 (J1 : Int) := hag.2.2 6 (by kernel_rfl)
                  have e6 := d6
                  rw [Array.getD_eq_getD_getElem?] at e6
                  have HSt := Lib.hid hst
                  clear hdep hag hst
                  go_simp
                  exact hK _ _ trivial rfl HSt.out
                · intro k z v hk hst hag hdep
                  refine .inl ⟨rfl, fun K hK => ?_⟩
                  have d71 : z.tmps.getD 71 undef = .slice (some ⟨q, 0, none⟩) N cp := hdep { on := 4, ground := .data } (by simp) rfl _ _ rfl rfl
                  have e71 := d71
                  rw [Array.getD_eq_getD_getElem?] at e71
                  have d72 : z.tmps.getD 72 undef = .int .i64 (J1 : Int) := hdep { on := 5, ground := .data } (by simp) rfl _ _ rfl rfl
                  have e72 := d72
                  rw [Array.getD_eq_getD_getElem?] at e72
                  have HSt := Lib.hid hst
                  clear hdep hag hst
                  go_simp
                  exact hK _ _ trivial rfl HSt.out
                · intro k z v hk hst hag hdep
                  refine .inl ⟨rfl, fun K hK => ?_⟩
                  have d5 : z.tmps.getD 5 undef = .pointer (some ⟨xb, 0, none⟩) := hag.2.2 5 (by kernel_rfl)
                  have e5 := d5
                  rw [Array.getD_eq_getD_getElem?] at e5
                  have hz : Below w6.heap.size w6 v := TriS.base (by have : k ≤ 1 := Nat.le_trans hk (by decide); exact this) hst
                  have l0 := (hz.cell (p := ⟨xb, 0, none⟩) HXl.out).trans HX0.out
                  have l1 := (hz.cell (p := ⟨xb, 1, none⟩) HXl.out).trans HX1.out
                  clear hz
                  have HSt := Lib.hid hst
                  clear hdep hag hst
                  go_simp
                  exact hK _ _ trivial rfl HSt.out
                · intro z v hst hag hdep
                  refine ⟨rfl, fun K hK => ?_⟩
                  have d74 : z.tmps.getD 74 undef = .agg #[.int .i64 Z1, .int .i64 Z2] := hdep { on := 7, ground := .data } (by simp) rfl _ _ rfl rfl
                  have e74 := d74
                  rw [Array.getD_eq_getD_getElem?] at e74
                  have h0 : Below w6.heap.size w6 v := hst
                  have hsz : 75 < z.tmps.size := by rw [hag.2.1]; show 75 < 80; decide
                  have hbz : Below v.heap.size v (v.alloc (.cells #[.int .i64 Z1, .int .i64 Z2] 81)) := (Below.refl _ _).alloc (Nat.le_refl _) _
                  have HSt := Lib.hid h0
                  clear hdep hag h0 hst
                  go_simp
                  exact hK _ _ trivial True.intro ⟨HSt.out.trans (hbz.mono HSt.out.size), v.heap.size, Go.Proofs.Ytgagkmlkoeceiaa.R.slot_same hsz, HSt.out.size, heap_alloc_new _ _⟩
                · intro z v hst hag hdep
                  refine ⟨rfl, fun K hK => ?_⟩
                  have d73 : z.tmps.getD 73 undef = .slice (some ⟨q, 0, none⟩) J1 cp := hdep { on := 6, ground := .data } (by simp) rfl _ _ rfl rfl
                  have e73 := d73
                  rw [Array.getD_eq_getD_getElem?] at e73
                  obtain ⟨h0, g9, f51, hgB, hg9⟩ := hst
                  have d75 : z.tmps.getD 75 undef = .slice (some ⟨g9, 0, none⟩) 1 1 := f51
                  have hsz : 76 < z.tmps.size := by rw [hag.2.1]; show 76 < 80; decide
                  have hOf := HFr.out v h0
                  have HSt := Lib.hid h0
                  clear hdep hag f51 hgB h0
                  refine wp_append_p spanT _ _ rfl rfl 0 _ (L.take J1) (some ⟨g9, 0, none⟩) 1 1 [(Z1, Z2)] d73 d75 hOf (pair_one hg9) (by intro e; cases e) HLa.out (by simp) (Nat.zero_le _) ?_
                  intro v2 w9 hG9
                  exact hK _ _ trivial True.intro (by
                  have e9 := Go.Proofs.Ytgagkmlkoeceiaa.R.slot_same (v := v2) hsz
                  show AddS2 _ _ _ _ _
                  rw [e9]
                  exact ⟨by have h9 := hG9.own; rw [HOut.out] at h9; exact h9, v, HSt.out, keepB_grown hG9.grown, hG9.block⟩)
                · intro k z v hk hst hag hdep
                  refine .inl ⟨rfl, fun K hK => ?_⟩
                  have d67 : z.tmps.getD 67 undef = .pointer (some ⟨b, 0, none⟩) := hdep { on := 0, ground := .data } (by simp) rfl _ _ rfl rfl
                  have e67 := d67
                  rw [Array.getD_eq_getD_getElem?] at e67
                  have HSt := Lib.hid hst
                  clear hdep hag hst
                  go_simp
                  exact hK _ _ trivial rfl HSt.out
                · intro k z v hk hst hag hdep
                  refine .inl ⟨rfl, fun K hK => ?_⟩
                  have d77 : z.tmps.getD 77 undef = .pointer (some ⟨b, 0, none⟩) := hdep { on := 10, ground := .data } (by simp) rfl _ _ rfl rfl
                  have e77 := d77
                  rw [Array.getD_eq_getD_getElem?] at e77
                  have HSt := Lib.hid hst
                  clear hdep hag hst
                  go_simp
                  exact hK _ _ trivial rfl HSt.out
                · intro z v hst hag hdep
                  refine ⟨rfl, fun K hK => ?_⟩
                  have d78 : z.tmps.getD 78 undef = .pointer (some ⟨b, 0, none⟩) := hdep { on := 11, ground := .data } (by simp) rfl _ _ rfl rfl
                  have e78 := d78
                  rw [Array.getD_eq_getD_getElem?] at e78
                  have h1 : AddS2 w6 (.slice (some ⟨q, 0, none⟩) N cp) (addS L (x1, x2)) (z.tmps.getD 76 undef) v := hst
                  obtain ⟨ho7, u0, hu0, hk7, hb7⟩ := h1
                  obtain ⟨a7, c7, hv7, -⟩ := ho7.shape
                  have hSv := HS6.out.below hu0
                  obtain ⟨-, -, -, hc7, hf7⟩ := hSv.store ho7 hk7 (by simpa [HN.out] using hb7)
                  have HI1 : Hid (AddI b M l xs w (k + 1) (v.setCell ⟨b, 0, none⟩ (z.tmps.getD 76 undef))) := Lib.hid (AddI.step HK.out HM.out (HB6.out.trans (hu0.mono HB6.out.size)) hSv HLs.out ho7 hk7 (by simpa [HN.out] using hb7))
                  obtain ⟨n7, hn7⟩ : ∃ n7, (addS L (x1, x2)).length = n7 := ⟨_, rfl⟩
                  rw [hn7] at hv7
                  have d76 := hv7
                  have e76 := d76
                  rw [Array.getD_eq_getD_getElem?] at e76
                  rw [hv7] at HI1
                  clear hdep hag ho7 hu0 hk7 hb7 hSv hn7 hv7 hst
                  go_simp
                  exact hK undef _ trivial trivial HI1.out
              case' hdoneB =>
                intro z v hst hag hok
                have HI1 : Hid (AddI b M l xs w (k + 1) v) := Lib.hid hst
                clear hst
                obtain ⟨uu, hu, hzz⟩ := Go.Proofs.Ytgagkmlkoeceiaa.R.agree_frame [67, 68, 69, 70, 71, 72, 73, 74, 75, 76, 77, 78] rfl hag

                subst hzz
                simp only [List.foldl_cons, List.foldl_nil]
                rw []
                clear  hu hag hok
                try dsimp only [Exit.then]
                simp only [List.setIfInBounds_toArray, List.set_cons_succ, List.set_cons_zero]
                generalize uu 67 = u67', uu 68 = u68', uu 69 = u69', uu 70 = u70', uu 71 = u71', uu 72 = u72', uu 73 = u73', uu 74 = u74', uu 75 = u75', uu 76 = u76', uu 77 = u77', uu 78 = u78'
                clear uu
              go_wp2_with fail
              go_roundw
              case rel => exact ⟨k + 1, by omega, by go_num, HI1⟩
              case measure => simp [intOf]; omega


      · -- there is none
        have hge : ¬ X1 < X2 := by unfold NoneV at hr; simp at hr; omega
        have HI1 : Hid (∀ u, Below w2.heap.size w2 u → AddI b M l xs w (k + 1) u) := Lib.hid (fun u hu => by
          obtain ⟨vl, hS0⟩ := HS.out
          have hB : Below wr.heap.size wr u := HB2.out.trans (hu.mono HB2.out.size)
          refine ⟨M', ⟨vl, ?_⟩, HK.out.trans (KeepB.of_below hB), HM.out⟩
          rw [HLs.out]
          unfold addS
          rw [show cnt (x1, x2) = (X1, X2) from Prod.ext HX12.out.1 HX12.out.2, if_neg hge]
          exact hS0.below hB)
        clear hr hge
        go_wp2_with fail
        refine HNo.out.mono ?_
        rintro e w3 ⟨rfl, hb3⟩
        have HI2 := Lib.hid (HI1.out w3 hb3)
        clear hb3 HI1 HNo hc0 hc1
        go_wp2_with fail
        go_roundw
        case rel => exact ⟨k + 1, by omega, by go_num, HI2⟩
        case measure => simp [intOf]; omega
    · obtain rfl : k = n0 := by omega
      have HE : Hid (P (.returned (.tuple #[])) wr) := Lib.hid (by
        obtain ⟨M', hS, hK, hM'⟩ := HI.out
        rw [← HP.out]
        rw [HN0.out, List.take_length] at hS
        exact ⟨rfl, M', hS, hK, hM'⟩)
      go_wp2
      simp only [Exit.noGoto_normal]
      refine bodyPost_ret (results_none rfl _ _ _) rfl ?_
      exact HE.out
end Go.Proofs.Ytgagkmlkoeceiaa.H
