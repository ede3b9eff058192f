/- Missing and In of a set. -/
import Derived.Test.YtkdkhphpknnceaaDoorHColl
import Derived.Test.YtkdkhphpknnceaaDoorRelT
import Derived.Test.YtkdkhphpknnceaaDoorRelU
namespace Go.Proofs.YtkdkhphpknnceaaDoor.H
open Go.RowKit Go.Shelf

theorem pair_one {g : Nat} {X1 X2 : Int} {w : World} (h : w.heap[g]? = some (.cells #[.int .i64 X1, .int .i64 X2] 38 (0, 0))) : PairsIn .i64 (some ⟨g, 0, none⟩) 1 1 [(X1, X2)] w :=
  ⟨rfl, Nat.le_refl _, by decide, .inr ⟨g, 0, rfl, (Array.getElem?_eq_some_iff.1 h).1, fun i u hi => by
    match i, hi with
    | 0, hi => cases hi; exact ⟨by rw [cell_block h]; rfl, by rw [cell_block h]; rfl⟩
    | i + 1, hi => simp at hi⟩⟩
theorem mem_get (n : Int) (l : List Sp) : mem n l ↔ ∃ (i : Nat) (y : Sp), l[i]? = some y ∧ inx n y := by
  induction l with
  | nil => simp [mem]
  | cons z l ih =>
    constructor
    · rintro (h | h)
      · exact ⟨0, z, rfl, h⟩
      · obtain ⟨i, y, h1, h2⟩ := ih.1 h
        exact ⟨i + 1, y, by simpa using h1, h2⟩
    · rintro ⟨i, y, h1, h2⟩
      match i, h1 with
      | 0, h1 =>
        obtain rfl : z = y := by simpa using h1
        exact .inl h2
      | i + 1, h1 => exact .inr (ih.2 ⟨i, y, by simpa using h1, h2⟩)
theorem Norm.begins {b : Int} : ∀ {l : List Sp}, Norm b l → ∀ y ∈ l, b ≤ y.1
  | x :: l, hn, y, hy => by
    rcases List.mem_cons.1 hy with rfl | h
    · exact hn.1
    · have := Norm.begins hn.2.2 y h; have := hn.1; have := hn.2.1; omega
theorem Norm.apart : ∀ {l : List Sp} {b : Int}, Norm b l → ∀ (i j : Nat) (x y : Sp), l[i]? = some x → l[j]? = some y → i < j → x.2 < y.1
  | z :: l, b, hn, i, j, x, y, hi, hj, hij => by
    match i, j, hij with
    | 0, j + 1, _ =>
      obtain rfl : z = x := by simpa using hi
      have := Norm.begins hn.2.2 y (List.mem_of_getElem? (i := j) (by simpa using hj))
      omega
    | i + 1, j + 1, h => exact Norm.apart hn.2.2 i j x y (by simpa using hi) (by simpa using hj) (by omega)
theorem Norm.full : ∀ {l : List Sp} {b : Int}, Norm b l → ∀ (i : Nat) (x : Sp), l[i]? = some x → x.1 < x.2
  | z :: l, b, hn, i, x, hi => by
    match i, hi with
    | 0, hi =>
      obtain rfl : z = x := by simpa using hi
      exact hn.2.1
    | i + 1, hi => exact Norm.full hn.2.2 i x (by simpa using hi)
theorem Norm.drop : ∀ (k : Nat) {l : List Sp} {b : Int}, Norm b l → Norm b (l.drop k)
  | 0, _, _, h => h
  | k + 1, [], _, _ => trivial
  | k + 1, x :: l, b, h => (Norm.drop k h.2.2).mono (by have := h.1; have := h.2.1; omega)
theorem Norm.take : ∀ (k : Nat) {l : List Sp} {b : Int}, Norm b l → Norm b (l.take k)
  | 0, _, _, _ => trivial
  | k + 1, [], _, _ => trivial
  | k + 1, x :: l, b, h => ⟨h.1, h.2.1, Norm.take k h.2.2⟩
/-- numbers of x are in l just where they are among the spans that have numbers of x -/
theorem over_mem {n c : Int} {x : Sp} {l : List Sp} (hn : Norm c l) (hx : inx n x) : mem n l ↔ mem n ((l.drop (ovA x l)).take (ovB x l - ovA x l)) := by
  rw [mem_get, mem_get]
  constructor
  · rintro ⟨i, y, hy, hi⟩
    have h1 := behN_spec x.1 l c hn i y hy
    have hge : ovA x l ≤ i := by
      have h3 := hx.1; have h4 := hi.2
      rcases Nat.lt_or_ge i (ovA x l) with h | h
      · have := h1.2 h; omega
      · exact h
    have hlt : i < ovB x l := by
      rcases Nat.lt_or_ge i (ovB x l) with h | h
      · exact h
      · have hil := (List.getElem?_eq_some_iff.1 hy).1
        obtain ⟨z, hz⟩ : ∃ z, l[ovB x l]? = some z := ⟨_, List.getElem?_eq_getElem (by omega)⟩
        have h3 := (ovB_spec x l _ z hz (ovB_le x l).1).2 rfl
        have h4 := hi.1; have h5 := hx.2
        rcases Nat.eq_or_lt_of_le h with e | h
        · rw [← e, hz] at hy
          cases hy
          omega
        · have := hn.apart _ _ _ _ hz hy h
          have := hn.full _ _ hz
          omega
    refine ⟨i - ovA x l, y, ?_, hi⟩
    rw [List.getElem?_take, if_pos (by omega), List.getElem?_drop, show ovA x l + (i - ovA x l) = i by omega]
    exact hy
  · rintro ⟨i, y, hy, hi⟩
    rw [List.getElem?_take] at hy
    split at hy
    · rw [List.getElem?_drop] at hy
      exact ⟨_, y, hy, hi⟩
    · cases hy
theorem over_left {c : Int} {x : Sp} {l : List Sp} (hn : Norm c l) : goLeft x ((l.drop (ovA x l)).take (ovB x l - ovA x l)) = goLeft x l := by
  have h1 : Norm c ((l.drop (ovA x l)).take (ovB x l - ovA x l)) := (hn.drop _).take _
  refine Norm.ext (goLeft_norm _ x _ h1).1 (goLeft_norm _ x _ hn).1 (fun n => ?_)
  rw [goLeft_mem n _ x _ h1, goLeft_mem n _ x _ hn]
  constructor
  · rintro ⟨h2, h3⟩; exact ⟨h2, fun h => h3 ((over_mem hn h2).1 h)⟩
  · rintro ⟨h2, h3⟩; exact ⟨h2, fun h => h3 ((over_mem hn h2).2 h)⟩
theorem own_plain {T : TypeId} {base : Nat} {a : Option Addr} {n c : Nat} {l : List Sp} {w : World} (h : OwnP .i64 T base (.slice a n c) l w) : ∀ x, a = some x → x = ⟨x.block, x.off, none⟩ := by
  rcases h.2 with ⟨e, _⟩ | ⟨g, cap, cur, e, _⟩
  · rintro x rfl; cases e
  · rintro x rfl; injection e with e; injection e with e; rw [e]
theorem goLeft_len : ∀ (ys : List Sp) (x : Sp), (goLeft x ys).length ≤ ys.length + 1
  | [], x => by unfold goLeft; split <;> simp
  | y :: ys, x => by
    have := goLeft_len ys (max x.1 y.2, x.2)
    rw [goLeft, List.length_append, List.length_cons]
    split <;> simp <;> omega
theorem mid_pairs {a : Option Addr} {n c : Nat} {l : List Sp} {w : World} (h : PairsIn .i64 a n c l w) (K K2 : Nat) (h1 : K ≤ K2) (h2 : K2 ≤ n) (g off : Nat) (ha : a = some ⟨g, off, none⟩) (a2 : Option Addr) (h3 : K2 - K = 0 ∨ a2 = some ⟨g, off + K * 2, none⟩) (c2 : Nat) (hc2 : K2 - K ≤ c2) (hc3 : (c2 : Int) ≤ 9223372036854775807) : PairsIn .i64 a2 (K2 - K) c2 ((l.drop K).take (K2 - K)) w := by
  have hl := h.len
  refine ⟨by rw [List.length_take, List.length_drop]; omega, hc2, hc3, ?_⟩
  rcases h3 with h3 | rfl
  · exact .inl (by rw [h3]; rfl)
  · rcases h.at_ with e | ⟨g', off', e, hlt, hi⟩
    · exact .inl (by rw [e]; simp)
    · rw [ha] at e
      obtain ⟨rfl, rfl⟩ : g = g' ∧ off = off' := by injection e with e; injection e with e1 e2; exact ⟨e1, e2⟩
      refine .inr ⟨g, off + K * 2, rfl, hlt, fun i u hu => ?_⟩
      rw [List.getElem?_take] at hu
      split at hu
      · rw [List.getElem?_drop] at hu
        have := hi _ u hu
        rw [Nat.add_mul, ← Nat.add_assoc] at this
        exact this
      · cases hu
theorem mid_any {a : Option Addr} {n c s : Nat} {l : List Sp} {w : World} (h : PairsIn .i64 a n c l w) (J1 J2 : Nat) (h1 : J1 ≤ J2) (h2 : J2 ≤ n) (hA : ∀ b off, a = some ⟨b, off, none⟩ → b < s ∧ off = 0) (hs : s ≤ w.heap.size) (hsp : ∀ x, a = some x → x = ⟨x.block, x.off, none⟩) :
    PairsIn .i64 (if c = J1 then a else Option.map (fun x => x.add (J1 * 2)) a) (J2 - J1) (c - J1) ((l.drop J1).take (J2 - J1)) w ∧ ∀ q ∈ blkA (if c = J1 then a else Option.map (fun x => x.add (J1 * 2)) a), q < w.heap.size := by
  have hf := h.fit
  have ht := h.top
  cases a with
  | none =>
    have h0 : l = [] := h.at_.resolve_right (by rintro ⟨b, off, e, -⟩; cases e)
    have hn0 : n = 0 := by rw [h.len, h0]; rfl
    have e1 : J2 - J1 = 0 := by omega
    refine ⟨⟨by rw [h0, e1]; rfl, by omega, by omega, .inl (by rw [h0]; simp)⟩, fun q hq => ?_⟩
    split at hq <;> cases hq
  | some ad =>
    obtain ⟨g, off, sp⟩ := ad
    have hx := hsp _ rfl
    obtain rfl : sp = none := by injection hx
    obtain ⟨hg, rfl⟩ := hA g off rfl
    have hadd : (⟨g, 0, none⟩ : Addr).add (J1 * 2) = ⟨g, 0 + J1 * 2, none⟩ := by unfold Addr.add; split <;> simp_all
    refine ⟨mid_pairs h J1 J2 h1 h2 g 0 rfl _ ?_ _ (by omega) (by omega), fun q hq => ?_⟩
    · by_cases hc : c = J1
      · exact .inl (by omega)
      · rw [if_neg hc]; exact .inr (by rw [Option.map_some, hadd])
    · have : q = g := by
        split at hq
        · simpa [blkA] using hq
        · rw [Option.map_some, hadd] at hq; simpa [blkA] using hq
      omega
def MisOk (b xb J1 J2 N cp base : Nat) (a : Option Addr) (X1 X2 : Int) (ys : List Sp) : Nat → Value → World → Prop
  | 0, u, _ => u = .agg #[.int .i64 X1, .int .i64 X2]
  | 1, u, w => ∃ g, u = .slice (some ⟨g, 0, none⟩) 1 1 ∧ w.heap[g]? = some (.cells #[.int .i64 X1, .int .i64 X2] 38 (0, 0))
  | 2, u, _ => u = .pointer (some ⟨b, 0, none⟩)
  | 3, u, _ => u = .pointer (some ⟨b, 0, none⟩)
  | 4, u, _ => u = .pointer (some ⟨b, 0, none⟩)
  | 5, u, _ => u = .slice a N cp
  | 6, u, _ => u = .int .i64 (J1 : Int)
  | 7, u, _ => u = .int .i64 (J2 : Int)
  | 8, u, w => ∃ a2 n2 c2, u = .slice a2 n2 c2 ∧ PairsIn .i64 a2 n2 c2 ys w ∧ ∀ q ∈ blkA a2, q < w.heap.size
  | 9, u, w => ∃ B1 B2 g a2 n2 c2, u = .func (.func 42) #[] #[.pointer (some ⟨B1, 0, none⟩), .pointer (some ⟨B2, 0, none⟩)] ∧ LLook B1 B2 (some ⟨g, 0, none⟩) 1 1 [(X1, X2)] a2 n2 c2 ys w
  | 10, u, w => ∃ va vc, u = .slice va (leftL [(X1, X2)] ys).length vc ∧ OwnP .i64 38 base u (leftL [(X1, X2)] ys) w
  | _, _, _ => True
set_option maxRecDepth 100000 in
set_option maxHeartbeats 4000000 in
theorem missing_any {b : Nat} {M : List Nat} {l : List Sp} {vl : Value} {w : World} (h : SetAt b M l vl w) (hn : Nm l) (hl : (l.length : Int) ≤ 100000) (x : Sp) :
    Calls Tryd.prog 27 #[.pointer (some ⟨b, 0, none⟩), .agg #[.int .i64 x.1, .int .i64 x.2]] w (SpPost (missS l x) w) := by
  obtain ⟨P, hP⟩ : ∃ P, SpPost (missS l x) w = P := ⟨_, rfl⟩
  rw [hP]
  have HP := Lib.hid hP
  have hS := Lib.hid h
  obtain ⟨N, hN⟩ : ∃ N, l.length = N := ⟨_, rfl⟩
  obtain ⟨X1, hX1⟩ : ∃ X1, near x.1 = X1 := ⟨_, rfl⟩
  obtain ⟨X2, hX2⟩ : ∃ X2, near x.2 = X2 := ⟨_, rfl⟩
  have hcx : cnt x = (X1, X2) := Prod.ext hX1 hX2
  obtain ⟨x1, x2⟩ := x
  obtain ⟨wa, hwa⟩ : ∃ wa, wa = w.alloc (.cells #[.int .i64 x1, .int .i64 x2] 38) := ⟨_, rfl⟩
  obtain ⟨xb, hxb⟩ : ∃ xb, xb = w.heap.size := ⟨_, rfl⟩
  have hba : Below w.heap.size w wa := by rw [hwa]; exact (Below.refl _ _).alloc (Nat.le_refl _) _
  have HCn := Lib.hid (counted_any (x1, x2) wa)
  have hxa : wa.heap[xb]? = some (.cells #[.int .i64 x1, .int .i64 x2] 38 (0, 0)) := by rw [hwa, hxb]; exact heap_alloc_new _ _
  have HBa := Lib.hid hba
  have HXa := Lib.hid hxa
  have HNm := Lib.hid hn
  have HCx := Lib.hid hcx
  have HN := Lib.hid hN
  have hNl : (N : Int) ≤ 100000 := by omega
  have HSX : Hid (xb = w.heap.size) := Lib.hid hxb
  have HWA := Lib.hid hwa
  have HX12 := Lib.hid (And.intro hX1 hX2)
  have hwas : wa.heap.size = w.heap.size + 1 := by rw [hwa]; simp
  have HWs := Lib.hid hwas
  clear hP h hn hl hN hX1 hX2 hcx hwa hxb hba hxa hwas
  go_enter Tryd.func27, Tryd.ntmps27
  go_wp2_with fail
  rw [← HWA.out, ← HSX.out]
  refine HCn.out.mono ?_
  rintro e w1 ⟨rfl, hb1⟩
  rw [HX12.out.1, HX12.out.2]
  have hx1 : w1.heap[xb]? = some (.cells #[.int .i64 x1, .int .i64 x2] 38 (0, 0)) := (hb1.block xb (by have := HWs.out; have := HSX.out; omega)).trans HXa.out
  have hf0 : w1.frozen? ⟨xb, 0, none⟩ = false := frozen_block hx1 0
  have hf1 : w1.frozen? ⟨xb, 1, none⟩ = false := frozen_block hx1 1
  have hc0 : w1.cell? ⟨xb, 0, none⟩ = some (.int .i64 x1) := by rw [cell_block hx1]; rfl
  have hc1 : w1.cell? ⟨xb, 1, none⟩ = some (.int .i64 x2) := by rw [cell_block hx1]; rfl
  have HX1 := Lib.hid hx1
  have HB1 : Hid (Below w.heap.size w w1) := Lib.hid (HBa.out.trans (hb1.mono (by have := HWs.out; omega)))
  clear hx1 hb1
  go_upto_region 2 with fail
  obtain ⟨w2, hw2⟩ : ∃ w2, w2 = (w1.setCell ⟨xb, 0, none⟩ (.int .i64 X1)).setCell ⟨xb, 1, none⟩ (.int .i64 X2) := ⟨_, rfl⟩
  rw [← hw2]
  have hx2 : w2.heap[xb]? = some (.cells #[.int .i64 X1, .int .i64 X2] 38 (0, 0)) := by rw [hw2]; simp [World.setCell, Array.getElem?_modify, HX1.out]
  have hb2 : Below w.heap.size w w2 := by rw [hw2]; exact (HB1.out.setCell (p := ⟨xb, 0, none⟩) (by rw [HSX.out]; exact Nat.le_refl _) _).setCell (p := ⟨xb, 1, none⟩) (by rw [HSX.out]; exact Nat.le_refl _) _
  have hs2 := hS.out.below hb2
  have HOv := Lib.hid (over_any hs2 HNm.out.1 (by rw [HN.out]; omega) (X1, X2))
  obtain ⟨J1, hK⟩ : ∃ K, ovA (X1, X2) l = K := ⟨_, rfl⟩
  obtain ⟨J2, hK2⟩ : ∃ K2, ovB (X1, X2) l = K2 := ⟨_, rfl⟩
  have HK := Lib.hid (And.intro hK hK2)
  have hc0 : w2.cell? ⟨xb, 0, none⟩ = some (.int .i64 X1) := by rw [cell_block hx2]; rfl
  have hc1 : w2.cell? ⟨xb, 1, none⟩ = some (.int .i64 X2) := by rw [cell_block hx2]; rfl
  have HX2 := Lib.hid hx2
  have HB2 := Lib.hid hb2
  clear hw2 hx2 hb2 hs2 hK hK2 HX1 HB1 HCn
  go_wp2_with fail
  refine HOv.out.mono ?_
  rintro e w3 ⟨rfl, hb3⟩
  rw [HK.out.1, HK.out.2]
  have HX3 : Hid (w3.heap[xb]? = some (.cells #[.int .i64 X1, .int .i64 X2] 38 (0, 0))) := Lib.hid ((hb3.block xb (Array.getElem?_eq_some_iff.1 HX2.out).1).trans HX2.out)
  have HB3 : Hid (Below w.heap.size w w3) := Lib.hid (HB2.out.trans (hb3.mono HB2.out.size))
  clear hb3 hc0 hc1 HX2 HB2 HOv
  go_upto_region 3 with fail
  have hs3 := hS.out.below HB3.out
  obtain ⟨a, cp, hv, hI, hA, hA0⟩ := hs3.own.shape
  subst hv
  rw [HN.out] at hI
  have hle := ovB_le (X1, X2) l
  rw [HK.out.1, HK.out.2, HN.out] at hle
  have hk1 := hle.1
  have hk2 := hle.2
  have hcf := hI.fit
  have hct := hI.top
  obtain ⟨ys, hys⟩ : ∃ ys, (l.drop J1).take (J2 - J1) = ys := ⟨_, rfl⟩
  have hyl : ys.length ≤ 100000 := by rw [← hys, List.length_take, List.length_drop]; have := HN.out; omega
  have HYl : Hid ((ys.length : Int) ≤ 1000000) := Lib.hid (by omega)
  have HTl : Hid (((leftL [(X1, X2)] ys).length : Int) ≤ 1000000) := Lib.hid (by
    have := goLeft_len ys (X1, X2)
    have e : leftL [(X1, X2)] ys = goLeft (X1, X2) ys := by simp [leftL]
    rw [e]; omega)
  have HX0 : Hid (w3.cell? ⟨xb, 0, none⟩ = some (.int .i64 X1)) := Lib.hid (by rw [cell_block HX3.out]; rfl)
  have HX1 : Hid (w3.cell? ⟨xb, 1, none⟩ = some (.int .i64 X2)) := Lib.hid (by rw [cell_block HX3.out]; rfl)
  have HXl : Hid (xb < w3.heap.size) := Lib.hid (Array.getElem?_eq_some_iff.1 HX3.out).1
  have HBl : Hid (b < w3.heap.size) := Lib.hid hs3.b_lt
  have HC0 : Hid (w3.cell? ⟨b, 0, none⟩ = some (.slice a N cp)) := Lib.hid (by rw [hs3.c0, HN.out])
  have HBs : Hid (w.heap.size ≤ w3.heap.size) := Lib.hid HB3.out.size
  have HI := Lib.hid hI
  have HA := Lib.hid hA
  have HSp : Hid (∀ x, a = some x → x = ⟨x.block, x.off, none⟩) := Lib.hid (own_plain hs3.own)
  have HYs := Lib.hid hys
  obtain ⟨base, hbase⟩ : ∃ base, w.heap.size = base := ⟨_, rfl⟩
  rw [hbase] at HBs
  have HBase := Lib.hid hbase
  have hk3 : J2 ≤ cp := by omega
  have hk1i : (J1 : Int) ≤ (J2 : Int) := by omega
  clear hs3 hI hA hA0 hle hys hyl hbase
  refine Go.Proofs.YtkdkhphpknnceaaDoor.R.wp_region_tail 11 (by kernel_rfl) (fun u => Below w3.heap.size w3 u) (fun u v => Below u.heap.size u v) (MisOk b xb J1 J2 N cp base a X1 X2 ys) (by rfl) (by kernel_rfl) (by decide) (by kernel_rfl) (by kernel_rfl) (by kernel_rfl) ?hC ?hOk ?hop ?hdone ((Below.refl _ _).drew)
  case hC => exact fun u v h1 h2 => h1.trans (h2.mono h1.size)
  case hOk =>
    intro i u w1 w2 h hr
    unfold MisOk at h ⊢
    split <;> first | exact True.intro | exact h | (obtain ⟨g, e, h1⟩ := h; exact ⟨g, e, (hr.block _ (Array.getElem?_eq_some_iff.1 h1).1).trans h1⟩) | (obtain ⟨a2, n2, c2, e, h1, h2⟩ := h; exact ⟨a2, n2, c2, e, h1.belowAll hr, fun q hq => Nat.lt_of_lt_of_le (h2 q hq) hr.size⟩) | (obtain ⟨B1, B2, g, a2, n2, c2, e, h1⟩ := h; exact ⟨B1, B2, g, a2, n2, c2, e, h1.below hr⟩) | (obtain ⟨va, vc, e, h1⟩ := h; exact ⟨va, vc, e, h1.belowAll hr⟩)
  case hop =>
    refine ⟨?_, ?_, ?_, ?_, ?_, ?_, ?_, ?_, ?_, ?_, ?_, trivial⟩
    · intro z v hz hag hdep
      refine .inl ⟨rfl, fun K hK => ?_⟩
      have d3 : z.tmps.getD 3 undef = .pointer (some ⟨xb, 0, none⟩) := hag.2.2 3 (by kernel_rfl)
      have e3 := d3
      rw [Array.getD_eq_getD_getElem?] at e3
      have l0 := (hz.cell (p := ⟨xb, 0, none⟩) HXl.out).trans HX0.out
      have l1 := (hz.cell (p := ⟨xb, 1, none⟩) HXl.out).trans HX1.out
      clear hz
      clear hdep hag 
      go_simp
      exact hK _ _ (Below.refl _ _) rfl
    · intro z v hz hag hdep
      refine .inl ⟨rfl, fun K hK => ?_⟩
      have d15 : z.tmps.getD 15 undef = .agg #[.int .i64 X1, .int .i64 X2] := hdep { on := 0, ground := .data } (by simp) rfl _ _ rfl rfl
      have e15 := d15
      rw [Array.getD_eq_getD_getElem?] at e15
      have hbz : Below v.heap.size v (v.alloc (.cells #[.int .i64 X1, .int .i64 X2] 38)) := (Below.refl _ _).alloc (Nat.le_refl _) _
      clear hdep hag hz
      go_simp
      exact hK _ _ hbz ⟨_, rfl, heap_alloc_new _ _⟩
    · intro z v hz hag hdep
      refine .inl ⟨rfl, fun K hK => ?_⟩
      have d0 : z.tmps.getD 0 undef = .pointer (some ⟨b, 0, none⟩) := hag.2.2 0 (by kernel_rfl)
      have e0 := d0
      rw [Array.getD_eq_getD_getElem?] at e0
      clear hdep hag 
      go_simp
      exact hK _ _ (Below.refl _ _) rfl
    · intro z v hz hag hdep
      refine .inl ⟨rfl, fun K hK => ?_⟩
      have d17 : z.tmps.getD 17 undef = .pointer (some ⟨b, 0, none⟩) := hdep { on := 2, ground := .data } (by simp) rfl _ _ rfl rfl
      have e17 := d17
      rw [Array.getD_eq_getD_getElem?] at e17
      clear hdep hag 
      go_simp
      exact hK _ _ (Below.refl _ _) rfl
    · intro z v hz hag hdep
      refine .inl ⟨rfl, fun K hK => ?_⟩
      have d18 : z.tmps.getD 18 undef = .pointer (some ⟨b, 0, none⟩) := hdep { on := 3, ground := .data } (by simp) rfl _ _ rfl rfl
      have e18 := d18
      rw [Array.getD_eq_getD_getElem?] at e18
      clear hdep hag 
      go_simp
      exact hK _ _ (Below.refl _ _) rfl
    · intro z v hz hag hdep
      refine .inl ⟨rfl, fun K hK => ?_⟩
      have d19 : z.tmps.getD 19 undef = .pointer (some ⟨b, 0, none⟩) := hdep { on := 4, ground := .data } (by simp) rfl _ _ rfl rfl
      have e19 := d19
      rw [Array.getD_eq_getD_getElem?] at e19
      have l0 := (hz.cell (p := ⟨b, 0, none⟩) HBl.out).trans HC0.out
      clear hz
      clear hdep hag 
      go_simp
      exact hK _ _ (Below.refl _ _) rfl
    · intro z v hz hag hdep
      refine .inl ⟨rfl, fun K hK => ?_⟩
      have d5 : z.tmps.getD 5 undef = .int .i64 (J1 : Int) := hag.2.2 5 (by kernel_rfl)
      have e5 := d5
      rw [Array.getD_eq_getD_getElem?] at e5
      clear hdep hag 
      go_simp
      exact hK _ _ (Below.refl _ _) rfl
    · intro z v hz hag hdep
      refine .inl ⟨rfl, fun K hK => ?_⟩
      have d6 : z.tmps.getD 6 undef = .int .i64 (J2 : Int) := hag.2.2 6 (by kernel_rfl)
      have e6 := d6
      rw [Array.getD_eq_getD_getElem?] at e6
      clear hdep hag 
      go_simp
      exact hK _ _ (Below.refl _ _) rfl
    · intro z v hz hag hdep
      refine .inl ⟨rfl, fun K hK => ?_⟩
      have d20 : z.tmps.getD 20 undef = .slice a N cp := hdep { on := 5, ground := .data } (by simp) rfl _ _ rfl rfl
      have e20 := d20
      rw [Array.getD_eq_getD_getElem?] at e20
      have d21 : z.tmps.getD 21 undef = .int .i64 (J1 : Int) := hdep { on := 6, ground := .data } (by simp) rfl _ _ rfl rfl
      have e21 := d21
      rw [Array.getD_eq_getD_getElem?] at e21
      have d22 : z.tmps.getD 22 undef = .int .i64 (J2 : Int) := hdep { on := 7, ground := .data } (by simp) rfl _ _ rfl rfl
      have e22 := d22
      rw [Array.getD_eq_getD_getElem?] at e22
      have HM := Lib.hid (mid_any (HI.out.belowAll hz) J1 J2 hk1 hk2 (fun b off e => ⟨(HA.out b off e).2.1, (HA.out b off e).2.2⟩) hz.size HSp.out)
      rw [HYs.out] at HM
      clear hdep hag hz
      go_simp
      exact hK _ _ (Below.refl _ _) ⟨_, _, _, rfl, HM.out.1, HM.out.2⟩
    · intro z v hz hag hdep
      refine .inl ⟨rfl, fun K hK => ?_⟩
      have d16' : MisOk b xb J1 J2 N cp base a X1 X2 ys 1 (z.tmps.getD 16 undef) v := hdep { on := 1, ground := .data } (by simp) rfl _ _ rfl rfl
      simp only [MisOk] at d16'
      obtain ⟨g, d16, hg⟩ := d16'
      have e16 := d16
      rw [Array.getD_eq_getD_getElem?] at e16
      have d23' : MisOk b xb J1 J2 N cp base a X1 X2 ys 8 (z.tmps.getD 23 undef) v := hdep { on := 8, ground := .data } (by simp) rfl _ _ rfl rfl
      simp only [MisOk] at d23'
      obtain ⟨a2, n2, c2, d23, hm, hmb⟩ := d23'
      have e23 := d23
      rw [Array.getD_eq_getD_getElem?] at e23
      have HCl := Lib.hid (left_any (some ⟨g, 0, none⟩) 1 1 a2 n2 c2 v)
      have HLk := Lib.hid (left_look (pair_one hg) hm (fun q hq => by rw [show q = g by simpa [blkA] using hq]; exact (Array.getElem?_eq_some_iff.1 hg).1) hmb)
      clear hdep hag hz hg hm hmb
      go_simp
      refine HCl.out.mono ?_
      rintro e w' ⟨rfl, rfl⟩
      exact hK _ _ (((Below.refl _ _).alloc (Nat.le_refl _) _).alloc (by simp) _) ⟨_, _, g, a2, n2, c2, rfl, HLk.out⟩
    · intro z v hz hag hdep
      refine .inl ⟨rfl, fun K hK => ?_⟩
      have d24' : MisOk b xb J1 J2 N cp base a X1 X2 ys 9 (z.tmps.getD 24 undef) v := hdep { on := 9, ground := .data } (by simp) rfl _ _ rfl rfl
      simp only [MisOk] at d24'
      obtain ⟨B1, B2, g, a2, n2, c2, d24, hlk⟩ := d24'
      have e24 := d24
      rw [Array.getD_eq_getD_getElem?] at e24
      have HCl := Lib.hid (collect_any B1 B2 _ 1 1 [(X1, X2)] a2 n2 c2 ys (by simp) HYl.out HTl.out v hlk)
      have HZs := Lib.hid hz.size
      clear hdep hag hz hlk
      go_simp
      refine HCl.out.mono ?_
      rintro e w' ⟨v', rfl, h1, h2⟩
      obtain ⟨va, vc, rfl, -⟩ := h1.shape
      exact hK _ _ h2 ⟨va, vc, rfl, h1.weaken (Nat.le_trans HBs.out HZs.out)⟩

  case hdone =>
    intro z v hz hag hok _
    have d25' : MisOk b xb J1 J2 N cp base a X1 X2 ys 10 (z.tmps.getD 25 undef) v := hok 10 _ 25 (by decide) rfl rfl
    simp only [MisOk] at d25'
    obtain ⟨va, vc, d25, hO⟩ := d25'
    rw [d25] at hO
    have HE : Hid (P (.returned (.slice va (leftL [(X1, X2)] ys).length vc)) v) := Lib.hid (by
      have e1 : leftL [(X1, X2)] ys = missS l (x1, x2) := by
        unfold missS
        rw [HCx.out, ← over_left HNm.out.1, HK.out.1, HK.out.2, HYs.out]
        simp [leftL]
      rw [← HP.out]
      refine ⟨_, rfl, ?_, HB3.out.trans (hz.mono HB3.out.size)⟩
      rw [← e1, HBase.out]
      exact hO)
    obtain ⟨nl, hnl⟩ : ∃ nl, (leftL [(X1, X2)] ys).length = nl := ⟨_, rfl⟩
    rw [hnl] at d25 HE
    clear hnl hO
    obtain ⟨uu, hu, hzz⟩ := Go.Proofs.YtkdkhphpknnceaaDoor.R.agree_frame [15, 16, 17, 18, 19, 20, 21, 22, 23, 24, 25, 4] rfl hag
    have e25 := (hu 25).trans d25
    subst hzz
    have HZ := Lib.hid hz
    clear hz
    simp only [List.foldl_cons, List.foldl_nil]
    rw [e25]
    clear e25 d25 hu hag hok
    try dsimp only [Exit.then]
    try dsimp only [List.drop]
    simp only [List.setIfInBounds_toArray, List.set_cons_succ, List.set_cons_zero]
    generalize uu 15 = u15', uu 16 = u16', uu 17 = u17', uu 18 = u18', uu 19 = u19', uu 20 = u20', uu 21 = u21', uu 22 = u22', uu 23 = u23', uu 24 = u24', uu 4 = u4'
    clear uu
    go_wp2
    exact HE.out
def InOk (b xb base : Nat) (x1 x2 X1 X2 : Int) (ys : List Sp) : Nat → Value → World → Prop
  | 0, u, _ => u = .agg #[.int .i64 x1, .int .i64 x2]
  | 1, u, _ => u = .agg #[.int .i64 X1, .int .i64 X2]
  | 2, u, w => ∃ g, u = .slice (some ⟨g, 0, none⟩) 1 1 ∧ w.heap[g]? = some (.cells #[.int .i64 X1, .int .i64 X2] 38 (0, 0))
  | 3, u, _ => u = .pointer (some ⟨b, 0, none⟩)
  | 4, u, _ => u = .agg #[.int .i64 x1, .int .i64 x2]
  | 5, u, w => ∃ a2 n2 c2, u = .slice a2 n2 c2 ∧ PairsIn .i64 a2 n2 c2 ys w ∧ ∀ q ∈ blkA a2, q < w.heap.size
  | 6, u, w => ∃ B1 B2 g a2 n2 c2, u = .func (.func 42) #[] #[.pointer (some ⟨B1, 0, none⟩), .pointer (some ⟨B2, 0, none⟩)] ∧ LLook B1 B2 (some ⟨g, 0, none⟩) 1 1 [(X1, X2)] a2 n2 c2 ys w
  | 7, u, w => ∃ va vc, u = .slice va (leftL [(X1, X2)] ys).length vc ∧ OwnP .i64 38 base u (leftL [(X1, X2)] ys) w
  | _, _, _ => True
set_option maxRecDepth 100000 in
set_option maxHeartbeats 4000000 in
theorem in_any {b : Nat} {M : List Nat} {l : List Sp} {vl : Value} {w : World} (h : SetAt b M l vl w) (hn : Nm l) (hl : (l.length : Int) ≤ 100000) (x : Sp) :
    Calls Tryd.prog 9 #[.pointer (some ⟨b, 0, none⟩), .agg #[.int .i64 x.1, .int .i64 x.2]] w (SpPost (inS l x) w) := by
  obtain ⟨P, hP⟩ : ∃ P, SpPost (inS l x) w = P := ⟨_, rfl⟩
  rw [hP]
  have HP := Lib.hid hP
  have hS := Lib.hid h
  obtain ⟨X1, hX1⟩ : ∃ X1, near x.1 = X1 := ⟨_, rfl⟩
  obtain ⟨X2, hX2⟩ : ∃ X2, near x.2 = X2 := ⟨_, rfl⟩
  have hcx : cnt x = (X1, X2) := Prod.ext hX1 hX2
  obtain ⟨x1, x2⟩ := x
  obtain ⟨ys, hys⟩ : ∃ ys, missS l (x1, x2) = ys := ⟨_, rfl⟩
  have hyl : ys.length ≤ 100001 := by
    have := goLeft_len l (cnt (x1, x2))
    rw [← hys]; unfold missS; omega
  obtain ⟨w3, hw3⟩ : ∃ w3, w3 = w.alloc (.cells #[.int .i64 x1, .int .i64 x2] 38) := ⟨_, rfl⟩
  obtain ⟨xb, hxb⟩ : ∃ xb, xb = w.heap.size := ⟨_, rfl⟩
  have hb0 : Below w.heap.size w w3 := by rw [hw3]; exact (Below.refl _ _).alloc (Nat.le_refl _) _
  have hxa : w3.heap[xb]? = some (.cells #[.int .i64 x1, .int .i64 x2] 38 (0, 0)) := by rw [hw3, hxb]; exact heap_alloc_new _ _
  have HYl : Hid ((ys.length : Int) ≤ 1000000) := Lib.hid (by omega)
  have HTl : Hid (((leftL [(X1, X2)] ys).length : Int) ≤ 1000000) := Lib.hid (by
    have := goLeft_len ys (X1, X2)
    have e : leftL [(X1, X2)] ys = goLeft (X1, X2) ys := by simp [leftL]
    rw [e]; omega)
  have HX0 : Hid (w3.cell? ⟨xb, 0, none⟩ = some (.int .i64 x1)) := Lib.hid (by rw [cell_block hxa]; rfl)
  have HX1 : Hid (w3.cell? ⟨xb, 1, none⟩ = some (.int .i64 x2)) := Lib.hid (by rw [cell_block hxa]; rfl)
  have HXl : Hid (xb < w3.heap.size) := Lib.hid (Array.getElem?_eq_some_iff.1 hxa).1
  have HB0 := Lib.hid hb0
  have HNm := Lib.hid hn
  have HLl := Lib.hid hl
  have HCx := Lib.hid hcx
  have HX12 := Lib.hid (And.intro hX1 hX2)
  have HYs := Lib.hid hys
  have HSX : Hid (xb = w.heap.size) := Lib.hid hxb
  have HWA := Lib.hid hw3
  obtain ⟨base, hbase⟩ : ∃ base, w.heap.size = base := ⟨_, rfl⟩
  have HBs : Hid (base ≤ w3.heap.size) := Lib.hid (by rw [← hbase]; exact hb0.size)
  have HBase := Lib.hid hbase
  clear hP h hn hl hX1 hX2 hcx hys hyl hw3 hxb hb0 hxa hbase
  go_enter Tryd.func9, Tryd.ntmps9
  go_upto_region 1 with fail
  rw [← HWA.out, ← HSX.out]
  refine Go.Proofs.YtkdkhphpknnceaaDoor.R.wp_region_tail 8 (by kernel_rfl) (fun u => Below w3.heap.size w3 u) (fun u v => Below u.heap.size u v) (InOk b xb base x1 x2 X1 X2 ys) (by rfl) (by kernel_rfl) (by decide) (by kernel_rfl) (by kernel_rfl) (by kernel_rfl) ?hC ?hOk ?hop ?hdone ((Below.refl _ _).drew)
  case hC => exact fun u v h1 h2 => h1.trans (h2.mono h1.size)
  case hOk =>
    intro i u w1 w2 h hr
    unfold InOk at h ⊢
    split <;> first | exact True.intro | exact h | (obtain ⟨g, e, h1⟩ := h; exact ⟨g, e, (hr.block _ (Array.getElem?_eq_some_iff.1 h1).1).trans h1⟩) | (obtain ⟨a2, n2, c2, e, h1, h2⟩ := h; exact ⟨a2, n2, c2, e, h1.belowAll hr, fun q hq => Nat.lt_of_lt_of_le (h2 q hq) hr.size⟩) | (obtain ⟨B1, B2, g, a2, n2, c2, e, h1⟩ := h; exact ⟨B1, B2, g, a2, n2, c2, e, h1.below hr⟩) | (obtain ⟨va, vc, e, h1⟩ := h; exact ⟨va, vc, e, h1.belowAll hr⟩)
  case hop =>
    refine ⟨?_, ?_, ?_, ?_, ?_, ?_, ?_, ?_, trivial⟩
    · intro z v hz hag hdep
      refine .inl ⟨rfl, fun K hK => ?_⟩
      have d3 : z.tmps.getD 3 undef = .pointer (some ⟨xb, 0, none⟩) := hag.2.2 3 (by kernel_rfl)
      have e3 := d3
      rw [Array.getD_eq_getD_getElem?] at e3
      have l0 := (hz.cell (p := ⟨xb, 0, none⟩) HXl.out).trans HX0.out
      have l1 := (hz.cell (p := ⟨xb, 1, none⟩) HXl.out).trans HX1.out
      clear hz
      clear hdep hag 
      go_simp
      exact hK _ _ (Below.refl _ _) rfl
    · intro z v hz hag hdep
      refine .inl ⟨rfl, fun K hK => ?_⟩
      have d5 : z.tmps.getD 5 undef = .agg #[.int .i64 x1, .int .i64 x2] := hdep { on := 0, ground := .data } (by simp) rfl _ _ rfl rfl
      have e5 := d5
      rw [Array.getD_eq_getD_getElem?] at e5
      have HCl := Lib.hid (counted_any (x1, x2) v)
      clear hdep hag hz
      go_simp
      refine HCl.out.mono ?_
      rintro e w' ⟨rfl, hb⟩
      rw [HX12.out.1, HX12.out.2]
      exact hK _ _ hb rfl
    · intro z v hz hag hdep
      refine .inl ⟨rfl, fun K hK => ?_⟩
      have d6 : z.tmps.getD 6 undef = .agg #[.int .i64 X1, .int .i64 X2] := hdep { on := 1, ground := .data } (by simp) rfl _ _ rfl rfl
      have e6 := d6
      rw [Array.getD_eq_getD_getElem?] at e6
      have hbz : Below v.heap.size v (v.alloc (.cells #[.int .i64 X1, .int .i64 X2] 38)) := (Below.refl _ _).alloc (Nat.le_refl _) _
      clear hdep hag hz
      go_simp
      exact hK _ _ hbz ⟨_, rfl, heap_alloc_new _ _⟩
    · intro z v hz hag hdep
      refine .inl ⟨rfl, fun K hK => ?_⟩
      have d0 : z.tmps.getD 0 undef = .pointer (some ⟨b, 0, none⟩) := hag.2.2 0 (by kernel_rfl)
      have e0 := d0
      rw [Array.getD_eq_getD_getElem?] at e0
      clear hdep hag 
      go_simp
      exact hK _ _ (Below.refl _ _) rfl
    · intro z v hz hag hdep
      refine .inl ⟨rfl, fun K hK => ?_⟩
      have d3 : z.tmps.getD 3 undef = .pointer (some ⟨xb, 0, none⟩) := hag.2.2 3 (by kernel_rfl)
      have e3 := d3
      rw [Array.getD_eq_getD_getElem?] at e3
      have l0 := (hz.cell (p := ⟨xb, 0, none⟩) HXl.out).trans HX0.out
      have l1 := (hz.cell (p := ⟨xb, 1, none⟩) HXl.out).trans HX1.out
      clear hz
      clear hdep hag 
      go_simp
      exact hK _ _ (Below.refl _ _) rfl
    · intro z v hz hag hdep
      refine .inl ⟨rfl, fun K hK => ?_⟩
      have d8 : z.tmps.getD 8 undef = .pointer (some ⟨b, 0, none⟩) := hdep { on := 3, ground := .data } (by simp) rfl _ _ rfl rfl
      have e8 := d8
      rw [Array.getD_eq_getD_getElem?] at e8
      have d9 : z.tmps.getD 9 undef = .agg #[.int .i64 x1, .int .i64 x2] := hdep { on := 4, ground := .data } (by simp) rfl _ _ rfl rfl
      have e9 := d9
      rw [Array.getD_eq_getD_getElem?] at e9
      have HCl := Lib.hid (missing_any (hS.out.below (HB0.out.trans (hz.mono HB0.out.size))) HNm.out HLl.out (x1, x2))
      rw [HYs.out] at HCl
      clear hdep hag hz
      go_simp
      refine HCl.out.mono ?_
      rintro e w' ⟨v', rfl, h1, h2⟩
      obtain ⟨va, vc, rfl, hi, hba, -⟩ := h1.shape
      exact hK _ _ h2 ⟨va, _, vc, rfl, hi, fun q hq => by
        have hp := own_plain h1
        cases va with
        | none => cases hq
        | some ad => rw [show q = ad.block by simpa [blkA] using hq]; exact (hba ad.block ad.off (by rw [← hp ad rfl])).2.1⟩
    · intro z v hz hag hdep
      refine .inl ⟨rfl, fun K hK => ?_⟩
      have d7' : InOk b xb base x1 x2 X1 X2 ys 2 (z.tmps.getD 7 undef) v := hdep { on := 2, ground := .data } (by simp) rfl _ _ rfl rfl
      simp only [InOk] at d7'
      obtain ⟨g, d7, hg⟩ := d7'
      have e7 := d7
      rw [Array.getD_eq_getD_getElem?] at e7
      have d10' : InOk b xb base x1 x2 X1 X2 ys 5 (z.tmps.getD 10 undef) v := hdep { on := 5, ground := .data } (by simp) rfl _ _ rfl rfl
      simp only [InOk] at d10'
      obtain ⟨a2, n2, c2, d10, hm, hmb⟩ := d10'
      have e10 := d10
      rw [Array.getD_eq_getD_getElem?] at e10
      have HCl := Lib.hid (left_any (some ⟨g, 0, none⟩) 1 1 a2 n2 c2 v)
      have HLk := Lib.hid (left_look (pair_one hg) hm (fun q hq => by rw [show q = g by simpa [blkA] using hq]; exact (Array.getElem?_eq_some_iff.1 hg).1) hmb)
      clear hdep hag hz hg hm hmb
      go_simp
      refine HCl.out.mono ?_
      rintro e w' ⟨rfl, rfl⟩
      exact hK _ _ (((Below.refl _ _).alloc (Nat.le_refl _) _).alloc (by simp) _) ⟨_, _, g, a2, n2, c2, rfl, HLk.out⟩
    · intro z v hz hag hdep
      refine .inl ⟨rfl, fun K hK => ?_⟩
      have d11' : InOk b xb base x1 x2 X1 X2 ys 6 (z.tmps.getD 11 undef) v := hdep { on := 6, ground := .data } (by simp) rfl _ _ rfl rfl
      simp only [InOk] at d11'
      obtain ⟨B1, B2, g, a2, n2, c2, d11, hlk⟩ := d11'
      have e11 := d11
      rw [Array.getD_eq_getD_getElem?] at e11
      have HCl := Lib.hid (collect_any B1 B2 _ 1 1 [(X1, X2)] a2 n2 c2 ys (by simp) HYl.out HTl.out v hlk)
      have HZs := Lib.hid hz.size
      clear hdep hag hz hlk
      go_simp
      refine HCl.out.mono ?_
      rintro e w' ⟨v', rfl, h1, h2⟩
      obtain ⟨va, vc, rfl, -⟩ := h1.shape
      exact hK _ _ h2 ⟨va, vc, rfl, h1.weaken (Nat.le_trans HBs.out HZs.out)⟩

  case hdone =>
    intro z v hz hag hok _
    have d12' : InOk b xb base x1 x2 X1 X2 ys 7 (z.tmps.getD 12 undef) v := hok 7 _ 12 (by decide) rfl rfl
    simp only [InOk] at d12'
    obtain ⟨va, vc, d12, hO⟩ := d12'
    rw [d12] at hO
    have HE : Hid (P (.returned (.slice va (leftL [(X1, X2)] ys).length vc)) v) := Lib.hid (by
      have e1 : leftL [(X1, X2)] ys = inS l (x1, x2) := by
        unfold inS
        rw [HCx.out, HYs.out]
        simp [leftL]
      rw [← HP.out]
      refine ⟨_, rfl, ?_, HB0.out.trans (hz.mono HB0.out.size)⟩
      rw [← e1, HBase.out]
      exact hO)
    obtain ⟨nl, hnl⟩ : ∃ nl, (leftL [(X1, X2)] ys).length = nl := ⟨_, rfl⟩
    rw [hnl] at d12 HE
    clear hnl hO
    obtain ⟨uu, hu, hzz⟩ := Go.Proofs.YtkdkhphpknnceaaDoor.R.agree_frame [5, 6, 7, 8, 9, 10, 11, 12, 4] rfl hag
    have e12 := (hu 12).trans d12
    subst hzz
    have HZ := Lib.hid hz
    clear hz
    simp only [List.foldl_cons, List.foldl_nil]
    rw [e12]
    clear e12 d12 hu hag hok
    try dsimp only [Exit.then]
    try dsimp only [List.drop]
    simp only [List.setIfInBounds_toArray, List.set_cons_succ, List.set_cons_zero]
    generalize uu 5 = u5', uu 6 = u6', uu 7 = u7', uu 8 = u8', uu 9 = u9', uu 10 = u10', uu 11 = u11', uu 4 = u4'
    clear uu
    go_wp2
    exact HE.out
end Go.Proofs.YtkdkhphpknnceaaDoor.H
