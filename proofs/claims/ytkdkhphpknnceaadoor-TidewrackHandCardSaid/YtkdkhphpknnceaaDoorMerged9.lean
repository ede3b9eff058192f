/- CacheSpans: the spans have just the numbers that are at hand, and these are in the order in which they were asked for. -/
import Derived.Test.YtkdkhphpknnceaaDoorMerged8
namespace Go.Proofs.YtkdkhphpknnceaaDoor.C
open Go.RowKit Go.Maps Go.Proofs.YtkdkhphpknnceaaDoor.H
open Go.Proofs.YtkdkhphpknnceaaDoor.W (OwnI IntsIn)

theorem and_small (n : Int) (m : Nat) (hm : m < 4294967296) : ∃ t : Nat, bits .and .i64 n (m : Int) = (t : Int) ∧ t ≤ m := by
  refine ⟨(BitVec.ofInt 64 n &&& BitVec.ofInt 64 (m : Int)).toNat, ?_, ?_⟩
  · show IntKind.i64.wrap ((BitVec.ofInt 64 n &&& BitVec.ofInt 64 (m : Int)).toNat : Int) = _
    have h2 : (BitVec.ofInt 64 (m : Int)).toNat = m := by
      rw [BitVec.ofInt_natCast, BitVec.toNat_ofNat]; exact Nat.mod_eq_of_lt (by omega)
    have h3 : (BitVec.ofInt 64 n &&& BitVec.ofInt 64 (m : Int)).toNat ≤ m := by
      rw [BitVec.toNat_and, h2]; exact Nat.and_le_right
    rw [IntKind.wrap_i64]
    omega
  · rw [BitVec.toNat_and, BitVec.ofInt_natCast, BitVec.toNat_ofNat, Nat.mod_eq_of_lt (by omega : m < 2 ^ 64)]
    exact Nat.and_le_right
/-- an act that was handed in -/
structure CAct where
  kd : Int
  i : Int
  sa : Option Addr
  sn : Nat
  sc : Nat
  g : List (Int × Int)
structure CActsIn (a : Option Addr) (n c : Nat) (l : List CAct) (w : World) : Prop where
  len : n = l.length
  fit : n ≤ c
  top : (c : Int) ≤ 9223372036854775807
  at_ : l = [] ∨ ∃ b off, a = some ⟨b, off, none⟩ ∧ b < w.heap.size ∧ ∀ i A, l[i]? = some A → w.cell? ⟨b, off + i * 3, none⟩ = some (.int .i64 A.kd) ∧ w.cell? ⟨b, off + i * 3 + 1, none⟩ = some (.int .i64 A.i) ∧ w.cell? ⟨b, off + i * 3 + 2, none⟩ = some (.slice A.sa A.sn A.sc)
  sub : ∀ A ∈ l, PairsIn .i32 A.sa A.sn A.sc A.g w ∧ (A.sa = none → A.sc = 0) ∧ ∀ g ∈ A.g, -2147483648 ≤ g.1 ∧ g.1 ≤ 2147483647
theorem CActsIn.one {a : Option Addr} {n c : Nat} {l : List CAct} {w : World} (h : CActsIn a n c l w) {k : Nat} (hk : k < n) : ∃ b off A, a = some ⟨b, off, none⟩ ∧ b < w.heap.size ∧ l[k]? = some A ∧ w.cell? ⟨b, off + k * 3, none⟩ = some (.int .i64 A.kd) ∧ w.cell? ⟨b, off + k * 3 + 1, none⟩ = some (.int .i64 A.i) ∧ w.cell? ⟨b, off + k * 3 + 2, none⟩ = some (.slice A.sa A.sn A.sc) := by
  obtain ⟨A, hA⟩ : ∃ A, l[k]? = some A := ⟨_, List.getElem?_eq_getElem (by rw [← h.len]; exact hk)⟩
  obtain ⟨b, off, ha, hb, hi⟩ := h.at_.resolve_left (by intro e; rw [e] at hA; cases hA)
  exact ⟨b, off, A, ha, hb, hA, hi k A hA⟩
/-- numbers of five bits -/
def Small (x : Ca) : Prop := ∀ z ∈ nums x, 0 ≤ z ∧ z ≤ 31
theorem Small.within {x : Ca} (h : Small x) : Within (nums x) := fun z hz => by have := h z hz; omega
def LastIs (y : Ca) (la : Int) : Prop := la = -1 ∨ (0 ≤ la ∧ ∃ ys, nums y = ys ++ [la])
/-- what the switch leaves -/
def SwS (c : Nat) (la : Int) (W w : World) : Prop := ∃ y, OneC c y W w ∧ Small y ∧ LastIs y la
theorem SwS.put {c : Nat} {x : Ca} {W w : World} {K : Nat} (hK : K ≤ 31) (hs : Small x) (hm : 1 ≤ x.most) (h : OneC c (putC x (K : Int) []).1 W w) : SwS c (K : Int) W w :=
  ⟨_, h, fun z hz => (nums_put hz).elim (hs z) (fun e => by omega), .inr ⟨by omega, put_last ⟨by omega, by omega⟩ hm⟩⟩
theorem SwS.get {c : Nat} {x : Ca} {W w : World} {K : Nat} (hK : K ≤ 31) (hs : Small x) (h : OneC c (getC x (K : Int)) W w) : SwS c (if (findC x.L (K : Int)).isSome = true then (K : Int) else -1) W w := by
  refine ⟨_, h, fun z hz => (nums_get hz).elim (hs z) (fun e => by omega), ?_⟩
  split
  · rename_i hf
    exact .inr ⟨by omega, get_last hf⟩
  · exact .inl rfl
theorem Norm.in_ : ∀ {l : List Sp} {b : Int}, Norm b l → ∀ y ∈ l, b ≤ y.1 ∧ y.1 < y.2
  | x :: l, b, hn, y, hy => by
    rcases List.mem_cons.1 hy with rfl | h
    · exact ⟨hn.1, hn.2.1⟩
    · have h1 := Norm.in_ hn.2.2 y h
      have h2 := hn.1
      have h3 := hn.2.1
      omega
end Go.Proofs.YtkdkhphpknnceaaDoor.C

/- Lines that are missing: what is put where there is room. -/
namespace Go.Proofs.YtkdkhphpknnceaaDoor.C
open Go.RowKit Go.Maps Go.Proofs.YtkdkhphpknnceaaDoor.H

theorem nodup_len : ∀ (k : Nat) (zs : List Int), zs.Nodup → (∀ z ∈ zs, 0 ≤ z ∧ z < k) → zs.length ≤ k
  | 0, zs, _, h => by
    cases zs with
    | nil => simp
    | cons z zs => have := h z (by simp); omega
  | k + 1, zs, hn, h => by
    by_cases hm : (k : Int) ∈ zs
    · have h1 := nodup_len k (zs.erase (k : Int)) (hn.erase _) (fun z hz => by
        have h2 := (hn.mem_erase_iff).1 hz
        have h3 := h z h2.2
        have h4 := h2.1
        omega)
      rw [List.length_erase_of_mem hm] at h1
      omega
    · have h1 := nodup_len k zs hn (fun z hz => by
        have h3 := h z hz
        have h4 : z ≠ k := fun e => hm (by rw [← e]; exact hz)
        omega)
      omega
/-- a cache with room for all of these numbers -/
def Roomy (x : Ca) : Prop := x.most = 64 ∧ ∀ z ∈ nums x, 0 ≤ z ∧ z < 47
theorem Roomy.within {x : Ca} (h : Roomy x) : Within (nums x) := fun z hz => by have := h.2 z hz; omega
theorem put_room {x : Ca} {i : Int} (hn : (nums x).Nodup) (h : Roomy x) (hi : 0 ≤ i ∧ i < 47) : (putC x i []).2 = (0, false) ∧ Roomy (putC x i []).1 ∧ ∀ v, v ∈ nums (putC x i []).1 ↔ v ∈ nums x ∨ v = i := by
  have hsub : ((dropC x.L i).map (·.1)).Sublist (nums x) := List.Sublist.map _ List.filter_sublist
  have hni : i ∉ (dropC x.L i).map (·.1) := fun hm => by
    obtain ⟨y, hy, he⟩ := List.mem_map.1 hm
    have h9 := (List.mem_filter.1 hy).2
    rw [he] at h9
    simp at h9
  have hnd : ((dropC x.L i ++ [(i, ([] : List (Int × Int)))]).map (·.1)).Nodup := by
    rw [List.map_append]
    exact List.nodup_append.2 ⟨hn.sublist hsub, by simp, fun a ha b hb e => by
      have hb' : b = i := by simpa using hb
      rw [e, hb'] at ha
      exact hni ha⟩
  have hw : ∀ z ∈ (dropC x.L i ++ [(i, ([] : List (Int × Int)))]).map (·.1), 0 ≤ z ∧ z < ((47 : Nat) : Int) := fun z hz => by
    rw [List.map_append] at hz
    rcases List.mem_append.1 hz with hz | hz
    · exact h.2 z (hsub.subset hz)
    · rw [show z = i by simpa using hz]; exact hi
  have hl := nodup_len 47 _ hnd hw
  rw [List.length_map] at hl
  have e : putC x i [] = (⟨x.most, dropC x.L i ++ [(i, [])]⟩, 0, false) := by
    unfold putC
    rw [if_neg (by omega), if_pos (by rw [h.1]; omega)]
  rw [e]
  refine ⟨rfl, ⟨h.1, hw⟩, fun v => ?_⟩
  show v ∈ (dropC x.L i ++ [(i, ([] : List (Int × Int)))]).map (fun y => y.1) ↔ _
  rw [List.map_append, List.mem_append]
  constructor
  · rintro (h9 | h9)
    · exact .inl (hsub.subset h9)
    · exact .inr (by simpa using h9)
  · intro h9
    by_cases e9 : v = i
    · exact .inr (by simp [e9])
    · rcases h9 with h9 | h9
      · obtain ⟨y, hy, he⟩ := List.mem_map.1 h9
        have h10 : (!(y.1 == i)) = true := by rw [he]; simpa using e9
        exact .inl (List.mem_map.2 ⟨y, List.mem_filter.2 ⟨hy, h10⟩, he⟩)
      · exact absurd h9 e9
theorem cnt_of {x : Sp} (h1 : -1152921504606846976 ≤ x.1) (h2 : x.1 ≤ x.2) (h3 : x.2 ≤ 1152921504606846976) : cnt x = x := by
  unfold cnt near lo hi
  have e1 : min (max x.1 (-1152921504606846976)) 1152921504606846976 = x.1 := by omega
  have e2 : min (max x.2 (-1152921504606846976)) 1152921504606846976 = x.2 := by omega
  rw [e1, e2]
theorem mem_copy (n : Int) {S : List Sp} (h : Nm S) : mem n (addsS [] S) ↔ mem n S := by
  rw [addsS_mem n _ _ Nm.nil, mem_iff n S]
  simp only [mem, false_or]
  constructor
  · rintro ⟨y, hy, h2⟩
    have h3 := Norm.in_ h.1 y hy
    have h4 := h.2 y hy
    rw [cnt_of h3.1 (by omega) h4] at h2
    exact ⟨y, hy, h2⟩
  · rintro ⟨y, hy, h2⟩
    have h3 := Norm.in_ h.1 y hy
    have h4 := h.2 y hy
    exact ⟨y, hy, by rw [cnt_of h3.1 (by omega) h4]; exact h2⟩
theorem copy_eq {S : List Sp} (h : Nm S) : addsS [] S = S := Nm.ext (Nm.nil.adds _) h (fun n => mem_copy n h)
/-- the spans ahead of one end ahead of it -/
theorem Norm.ahead : ∀ {l : List Sp} {b : Int} {j : Nat} {x : Sp}, Norm b l → l[j]? = some x → ∀ n, mem n (l.take j) → n < x.1
  | [], _, _, _, _, h, _, _ => by simp at h
  | y :: l, b, 0, x, _, _, n, h => by simp [mem] at h
  | y :: l, b, j + 1, x, hn, hx, n, h => by
    have hx' : l[j]? = some x := by simpa using hx
    have h1 := Norm.in_ hn.2.2 x (List.mem_of_getElem? hx')
    rw [List.take_succ_cons] at h
    rcases h with h | h
    · have := h.2; omega
    · exact Norm.ahead hn.2.2 hx' n h
theorem mem_take (n : Int) {l : List Sp} {j : Nat} {x : Sp} (hx : l[j]? = some x) : mem n (l.take (j + 1)) ↔ mem n (l.take j) ∨ inx n x := by
  have hj := List.getElem?_eq_some_iff.1 hx
  rw [List.take_succ_eq_append_getElem hj.1, hj.2, mem_append]
  simp [mem]
end Go.Proofs.YtkdkhphpknnceaaDoor.C
