/- Missing and In of a set. -/
import Derived.Test.YtjbjflmpdmflmaaHColl
import Derived.Test.YtjbjflmpdmflmaaRelT
import Derived.Test.YtjbjflmpdmflmaaRelU
namespace Go.Proofs.Ytjbjflmpdmflmaa.H
open Go.RowKit Go.Shelf

theorem pair_one {g : Nat} {X1 X2 : Int} {w : World} (h : w.heap[g]? = some (.cells #[.int .i64 X1, .int .i64 X2] 38 (0, 0))) : PairsIn .i64 (some ⟨g, 0, none⟩) 1 1 [(X1, X2)] w :=
  ⟨rfl, Nat.le_refl _, by decide, .inr ⟨g, 0, rfl, (Array.getElem?_eq_some_iff.1 h).1, fun i u hi => by
    match i, hi with
    | 0, hi => cases hi; exact ⟨by rw [cell_block h]; rfl, by rw [cell_block h]; rfl⟩
    | i + 1, hi => simp at hi⟩⟩
theorem Norm.begins {b : Int} : ∀ {l : List Sp}, Norm b l → ∀ y ∈ l, b ≤ y.1
  | x :: l, hn, y, hy => by
    rcases List.mem_cons.1 hy with rfl | h
    · exact hn.1
    · have := Norm.begins hn.2.2 y h; have := hn.1; have := hn.2.1; omega
theorem Norm.apart : ∀ {l : List Sp} {b : Int}, Norm b l → ∀ (i j : Nat) (x y : Sp), l[i]? = some x → l[j]? = some y → i < j → x.2 < y.1
  | z :: l, b, hn, i, j, x, y, hi, hj, hij => by
    match i, j, hij with
    | 0, j + 1, _ =>
      obtain rfl : z = x := by simpa using hi
      have := Norm.begins hn.2.2 y (List.mem_of_getElem? (i := j) (by simpa using hj))
      omega
    | i + 1, j + 1, h => exact Norm.apart hn.2.2 i j x y (by simpa using hi) (by simpa using hj) (by omega)
theorem Norm.full : ∀ {l : List Sp} {b : Int}, Norm b l → ∀ (i : Nat) (x : Sp), l[i]? = some x → x.1 < x.2
  | z :: l, b, hn, i, x, hi => by
    match i, hi with
    | 0, hi =>
      obtain rfl : z = x := by simpa using hi
      exact hn.2.1
    | i + 1, hi => exact Norm.full hn.2.2 i x (by simpa using hi)
theorem Norm.drop : ∀ (k : Nat) {l : List Sp} {b : Int}, Norm b l → Norm b (l.drop k)
  | 0, _, _, h => h
  | k + 1, [], _, _ => trivial
  | k + 1, x :: l, b, h => (Norm.drop k h.2.2).mono (by have := h.1; have := h.2.1; omega)
theorem Norm.take : ∀ (k : Nat) {l : List Sp} {b : Int}, Norm b l → Norm b (l.take k)
  | 0, _, _, _ => trivial
  | k + 1, [], _, _ => trivial
  | k + 1, x :: l, b, h => ⟨h.1, h.2.1, Norm.take k h.2.2⟩
theorem own_plain {T : TypeId} {base : Nat} {a : Option Addr} {n c : Nat} {l : List Sp} {w : World} (h : OwnP .i64 T base (.slice a n c) l w) : ∀ x, a = some x → x = ⟨x.block, x.off, none⟩ := by
  rcases h.2 with ⟨e, _⟩ | ⟨g, cap, cur, e, _⟩
  · rintro x rfl; cases e
  · rintro x rfl; injection e with e; injection e with e; rw [e]
theorem goLeft_len : ∀ (ys : List Sp) (x : Sp), (goLeft x ys).length ≤ ys.length + 1
  | [], x => by unfold goLeft; split <;> simp
  | y :: ys, x => by
    have := goLeft_len ys (max x.1 y.2, x.2)
    rw [goLeft, List.length_append, List.length_cons]
    split <;> simp <;> omega
theorem mid_pairs {a : Option Addr} {n c : Nat} {l : List Sp} {w : World} (h : PairsIn .i64 a n c l w) (K K2 : Nat) (h1 : K ≤ K2) (h2 : K2 ≤ n) (g off : Nat) (ha : a = some ⟨g, off, none⟩) (a2 : Option Addr) (h3 : K2 - K = 0 ∨ a2 = some ⟨g, off + K * 2, none⟩) (c2 : Nat) (hc2 : K2 - K ≤ c2) (hc3 : (c2 : Int) ≤ 9223372036854775807) : PairsIn .i64 a2 (K2 - K) c2 ((l.drop K).take (K2 - K)) w := by
  have hl := h.len
  refine ⟨by rw [List.length_take, List.length_drop]; omega, hc2, hc3, ?_⟩
  rcases h3 with h3 | rfl
  · exact .inl (by rw [h3]; rfl)
  · rcases h.at_ with e | ⟨g', off', e, hlt, hi⟩
    · exact .inl (by rw [e]; simp)
    · rw [ha] at e
      obtain ⟨rfl, rfl⟩ : g = g' ∧ off = off' := by injection e with e; injection e with e1 e2; exact ⟨e1, e2⟩
      refine .inr ⟨g, off + K * 2, rfl, hlt, fun i u hu => ?_⟩
      rw [List.getElem?_take] at hu
      split at hu
      · rw [List.getElem?_drop] at hu
        have := hi _ u hu
        rw [Nat.add_mul, ← Nat.add_assoc] at this
        exact this
      · cases hu
theorem mid_any {a : Option Addr} {n c s : Nat} {l : List Sp} {w : World} (h : PairsIn .i64 a n c l w) (J1 J2 : Nat) (h1 : J1 ≤ J2) (h2 : J2 ≤ n) (hA : ∀ b off, a = some ⟨b, off, none⟩ → b < s ∧ off = 0) (hs : s ≤ w.heap.size) (hsp : ∀ x, a = some x → x = ⟨x.block, x.off, none⟩) :
    PairsIn .i64 (if c = J1 then a else Option.map (fun x => x.add (J1 * 2)) a) (J2 - J1) (c - J1) ((l.drop J1).take (J2 - J1)) w ∧ ∀ q ∈ blkA (if c = J1 then a else Option.map (fun x => x.add (J1 * 2)) a), q < w.heap.size := by
  have hf := h.fit
  have ht := h.top
  cases a with
  | none =>
    have h0 : l = [] := h.at_.resolve_right (by rintro ⟨b, off, e, -⟩; cases e)
    have hn0 : n = 0 := by rw [h.len, h0]; rfl
    have e1 : J2 - J1 = 0 := by omega
    refine ⟨⟨by rw [h0, e1]; rfl, by omega, by omega, .inl (by rw [h0]; simp)⟩, fun q hq => ?_⟩
    split at hq <;> cases hq
  | some ad =>
    obtain ⟨g, off, sp⟩ := ad
    have hx := hsp _ rfl
    obtain rfl : sp = none := by injection hx
    obtain ⟨hg, rfl⟩ := hA g off rfl
    have hadd : (⟨g, 0, none⟩ : Addr).add (J1 * 2) = ⟨g, 0 + J1 * 2, none⟩ := by unfold Addr.add; split <;> simp_all
    refine ⟨mid_pairs h J1 J2 h1 h2 g 0 rfl _ ?_ _ (by omega) (by omega), fun q hq => ?_⟩
    · by_cases hc : c = J1
      · exact .inl (by omega)
      · rw [if_neg hc]; exact .inr (by rw [Option.map_some, hadd])
    · have : q = g := by
        split at hq
        · simpa [blkA] using hq
        · rw [Option.map_some, hadd] at hq; simpa [blkA] using hq
      omega
end Go.Proofs.Ytjbjflmpdmflmaa.H
