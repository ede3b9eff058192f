/- CacheSpans: the spans have just the numbers that are at hand, and these are in the order in which they were asked for. -/
import Derived.Test.YtgagkmlkoeceiaaMerged10
import Derived.Test.YtgagkmlkoeceiaaCIsC
import Derived.Test.YtgagkmlkoeceiaaCAwk
namespace Go.Proofs.Ytgagkmlkoeceiaa.C
open Go.RowKit Go.Maps Go.Proofs.Ytgagkmlkoeceiaa.H
open Go.Proofs.Ytgagkmlkoeceiaa.W (OwnI IntsIn)

/-- an act that was handed in -/
structure CAct where
  kd : Int
  i : Int
  sa : Option Addr
  sn : Nat
  sc : Nat
  g : List (Int × Int)
structure CActsIn (a : Option Addr) (n c : Nat) (l : List CAct) (w : World) : Prop where
  len : n = l.length
  fit : n ≤ c
  top : (c : Int) ≤ 9223372036854775807
  at_ : l = [] ∨ ∃ b off, a = some ⟨b, off, none⟩ ∧ b < w.heap.size ∧ ∀ i A, l[i]? = some A → w.cell? ⟨b, off + i * 3, none⟩ = some (.int .i64 A.kd) ∧ w.cell? ⟨b, off + i * 3 + 1, none⟩ = some (.int .i64 A.i) ∧ w.cell? ⟨b, off + i * 3 + 2, none⟩ = some (.slice A.sa A.sn A.sc)
  sub : ∀ A ∈ l, PairsIn .i32 A.sa A.sn A.sc A.g w ∧ (A.sa = none → A.sc = 0) ∧ ∀ g ∈ A.g, -2147483648 ≤ g.1 ∧ g.1 ≤ 2147483647
theorem CActsIn.one {a : Option Addr} {n c : Nat} {l : List CAct} {w : World} (h : CActsIn a n c l w) {k : Nat} (hk : k < n) : ∃ b off A, a = some ⟨b, off, none⟩ ∧ b < w.heap.size ∧ l[k]? = some A ∧ w.cell? ⟨b, off + k * 3, none⟩ = some (.int .i64 A.kd) ∧ w.cell? ⟨b, off + k * 3 + 1, none⟩ = some (.int .i64 A.i) ∧ w.cell? ⟨b, off + k * 3 + 2, none⟩ = some (.slice A.sa A.sn A.sc) := by
  obtain ⟨A, hA⟩ : ∃ A, l[k]? = some A := ⟨_, List.getElem?_eq_getElem (by rw [← h.len]; exact hk)⟩
  obtain ⟨b, off, ha, hb, hi⟩ := h.at_.resolve_left (by intro e; rw [e] at hA; cases hA)
  exact ⟨b, off, A, ha, hb, hA, hi k A hA⟩
/-- numbers of five bits -/
def Small (x : Ca) : Prop := ∀ z ∈ nums x, 0 ≤ z ∧ z ≤ 31
theorem Small.within {x : Ca} (h : Small x) : Within (nums x) := fun z hz => by have := h z hz; omega
def LastIs (y : Ca) (la : Int) : Prop := la = -1 ∨ (0 ≤ la ∧ ∃ ys, nums y = ys ++ [la])
/-- what the switch leaves -/
def SwS (c : Nat) (la : Int) (W w : World) : Prop := ∃ y, OneC c y W w ∧ Small y ∧ LastIs y la
theorem SwS.put {c : Nat} {x : Ca} {W w : World} {K : Nat} (hK : K ≤ 31) (hs : Small x) (hm : 1 ≤ x.most) (h : OneC c (putC x (K : Int) []).1 W w) : SwS c (K : Int) W w :=
  ⟨_, h, fun z hz => (nums_put hz).elim (hs z) (fun e => by omega), .inr ⟨by omega, put_last ⟨by omega, by omega⟩ hm⟩⟩
theorem SwS.get {c : Nat} {x : Ca} {W w : World} {K : Nat} (hK : K ≤ 31) (hs : Small x) (h : OneC c (getC x (K : Int)) W w) : SwS c (if (findC x.L (K : Int)).isSome = true then (K : Int) else -1) W w := by
  refine ⟨_, h, fun z hz => (nums_get hz).elim (hs z) (fun e => by omega), ?_⟩
  split
  · rename_i hf
    exact .inr ⟨by omega, get_last hf⟩
  · exact .inl rfl
theorem Norm.in_ : ∀ {l : List Sp} {b : Int}, Norm b l → ∀ y ∈ l, b ≤ y.1 ∧ y.1 < y.2
  | x :: l, b, hn, y, hy => by
    rcases List.mem_cons.1 hy with rfl | h
    · exact ⟨hn.1, hn.2.1⟩
    · have h1 := Norm.in_ hn.2.2 y h
      have h2 := hn.1
      have h3 := hn.2.1
      omega
end Go.Proofs.Ytgagkmlkoeceiaa.C

/- The loops of CachePlays and CacheClones: a cache, and the document's in a block. -/
namespace Go.Proofs.Ytgagkmlkoeceiaa.C
open Go.RowKit Go.Maps Go.Proofs.Ytgagkmlkoeceiaa.H

/-- lines that may be -/
def GoodL (x : Ca) : Prop := ∀ y ∈ x.L, RngG y.2 ∧ y.2.length ≤ 1000
theorem put_mem {x : Ca} {i : Int} {g : List (Int × Int)} {y : Int × List (Int × Int)} (h : y ∈ (putC x i g).1.L) : y ∈ x.L ∨ y.2 = g := by
  have key : y ∈ dropC x.L i ++ [(i, g)] → y ∈ x.L ∨ y.2 = g := fun h => by
    rcases List.mem_append.1 h with h | h
    · exact .inl (List.mem_filter.1 h).1
    · rw [show y = (i, g) by simpa using h]; exact .inr rfl
  unfold putC at h
  split at h
  · exact .inl h
  · split at h
    · exact key h
    · exact key (List.mem_of_mem_tail h)
theorem get_mem {x : Ca} {i : Int} {y : Int × List (Int × Int)} (h : y ∈ (getC x i).L) : y ∈ x.L ∨ ∃ z ∈ x.L, y.2 = z.2 := by
  unfold getC at h
  split at h
  · rename_i g hf
    rcases List.mem_append.1 h with h | h
    · exact .inl (List.mem_filter.1 h).1
    · obtain ⟨z, h1, h2⟩ := find_mem hf
      rw [show y = (i, g) by simpa using h]
      exact .inr ⟨z, h1, h2.symm⟩
  · exact .inl h
theorem GoodL.step {x : Ca} {kd ai : Int} {g : List (Int × Int)} (h : GoodL x) (hg : RngG g) : GoodL (stepC x kd ai (g.take 20)) := by
  unfold stepC
  split
  · intro y hy
    rcases put_mem hy with hy | hy
    · exact h y hy
    · rw [hy]
      exact ⟨fun z hz => hg z (List.mem_of_mem_take hz), by rw [List.length_take]; omega⟩
  · split
    · intro y hy
      rcases get_mem hy with hy | ⟨z, hz, hy⟩
      · exact h y hy
      · rw [hy]; exact h z hz
    · split
      · exact h
      · intro y hy; cases hy
theorem step_most (x : Ca) (kd ai : Int) (g : List (Int × Int)) : (stepC x kd ai g).most = x.most := by
  unfold stepC
  split
  · exact most_put x ai g
  · split
    · unfold getC
      split <;> rfl
    · split <;> rfl
/-- the cache c, and the document's in block xb, from the world W on -/
def DoI (c xb : Nat) (x : Ca) (W u : World) : Prop := ∃ M G m a n k, Ch c M G x u ∧ u.heap[xb]? = some (.cells #[.int .i64 m, .slice a n k] 28 (0, 0)) ∧ RefC (xb :: M) (.agg #[.int .i64 m, .slice a n k]) x u ∧ (∀ p ∈ M, W.heap.size ≤ p) ∧ W.heap.size ≤ xb ∧ xb ∉ M ∧ xb ∉ G ∧ Below W.heap.size W u
/-- ahead of the store -/
def DoN (c xb : Nat) (x : Ca) (W : World) (X' : Value) (u : World) : Prop := ∃ M G z0 z1, Ch c M G x u ∧ u.heap[xb]? = some (.cells #[z0, z1] 28 (0, 0)) ∧ RefC (xb :: M) X' x u ∧ (∀ p ∈ M, W.heap.size ≤ p) ∧ W.heap.size ≤ xb ∧ xb ∉ M ∧ xb ∉ G ∧ Below W.heap.size W u
theorem DoI.below {c xb : Nat} {x : Ca} {W u u' : World} (h : DoI c xb x W u) (hb : Below u.heap.size u u') : DoI c xb x W u' := by
  obtain ⟨M, G, m, a, n, k, h1, h2, h3, h4, h5, h6, h7, h8⟩ := h
  exact ⟨M, G, m, a, n, k, h1.below hb, (hb.block xb (Array.getElem?_eq_some_iff.1 h2).1).trans h2, h3.below hb, h4, h5, h6, h7, h8.trans (hb.mono h8.size)⟩
theorem DoI.bel {c xb : Nat} {x : Ca} {W u : World} (h : DoI c xb x W u) : Below W.heap.size W u := by
  obtain ⟨M, G, m, a, n, k, h1, h2, h3, h4, h5, h6, h7, h8⟩ := h
  exact h8
theorem DoI.few {c xb : Nat} {x : Ca} {W u : World} (h : DoI c xb x W u) : x.L.length ≤ x.most := by
  obtain ⟨M, G, m, a, n, k, h1, -⟩ := h
  exact h1.nodup.2.1
theorem DoI.len {c xb : Nat} {x : Ca} {W w : World} (h : DoI c xb x W w) : Calls Try.prog 10 #[.pointer (some ⟨c, 0, none⟩)] w fun r w' => r = .returned (.int .i64 (x.L.length : Int)) ∧ w' = w := by
  obtain ⟨M, G, m, a, n, k, h1, -⟩ := h
  exact len_any w h1
/-- a call of both -/
theorem DoI.call {c xb : Nat} {x : Ca} {W wr : World} (h : DoI c xb x W wr) (hg : GoodL x) (hl : x.L.length ≤ 100000) {kd ai : Int} {sa : Option Addr} {sn sc : Nat} {g : List (Int × Int)} (hp : PairsIn .i32 sa sn sc g wr) (hnil : sa = none → sc = 0) (hr : RngG g) (hai : -9223372036854775808 ≤ ai ∧ ai ≤ 9223372036854775807) :
    ∃ m a n k, (xb < wr.heap.size ∧ wr.cell? ⟨xb, 0, none⟩ = some (.int .i64 m) ∧ wr.cell? ⟨xb, 1, none⟩ = some (.slice a n k)) ∧ ∀ v, EqD wr v → Calls Try.prog 8 #[.pointer (some ⟨c, 0, none⟩), .agg #[.int .i64 m, .slice a n k], .agg #[.int .i64 kd, .int .i64 ai, .slice sa sn sc]] v fun e w' => ∃ X', e = .returned (.tuple #[X', .bool true]) ∧ DoN c xb (stepC x kd ai (g.take 20)) W X' w' := by
  obtain ⟨M, G, m, a, n, k, h1, h2, h3, h4, h5, h6, h7, h8⟩ := h
  have hxl := (Array.getElem?_eq_some_iff.1 h2).1
  refine ⟨m, a, n, k, ⟨hxl, by rw [cell_block h2]; rfl, by rw [cell_block h2]; rfl⟩, fun v hq => ?_⟩
  have hb := hq.below
  refine (do_any [xb] (.agg #[.int .i64 m, .slice a n k]) kd ai sa sn sc g v (h1.below hb) (h3.below hb) (fun p hp => by rw [(by simpa using hp : p = xb)]; exact Nat.lt_of_lt_of_le hxl hb.size) (hp.belowAll hb) hnil hr hl hg hai).mono ?_
  rintro e w' ⟨M', G', X', rfl, k1, k2, k3, k4, k5⟩
  have hvs : wr.heap.size = v.heap.size := by rw [hq.heap]
  have hbv : Below W.heap.size W v := h8.trans (hb.mono h8.size)
  exact ⟨X', rfl, M', G', _, _, k1, (k3.block xb (by omega) h6).trans ((hb.block xb hxl).trans h2), k2, fun p hp => (k4 p hp).elim (h4 p) (fun h => Nat.le_trans hbv.size h), h5, fun hm => (k4 xb hm).elim h6 (fun h => by omega), fun hm => (k5 xb hm).elim h7 (fun h => by omega), k3.below h4 hbv hbv.size⟩
theorem DoN.agg {c xb : Nat} {x : Ca} {W u : World} {X' : Value} (h : DoN c xb x W X' u) : ∃ m a n k, X' = .agg #[.int .i64 m, .slice a n k] := by
  obtain ⟨M, G, z0, z1, -, -, h3, -⟩ := h
  obtain ⟨a, n, c, es, rfl, -⟩ := h3
  exact ⟨_, a, n, c, rfl⟩
theorem DoN.store {c xb : Nat} {x : Ca} {W u : World} {m : Int} {a : Option Addr} {n k : Nat} (h : DoN c xb x W (.agg #[.int .i64 m, .slice a n k]) u) : ∃ z0 z1, u.heap[xb]? = some (.cells #[z0, z1] 28 (0, 0)) ∧ DoI c xb x W ((u.setCell ⟨xb, 0, none⟩ (.int .i64 m)).setCell ⟨xb, 1, none⟩ (.slice a n k)) := by
  obtain ⟨M, G, z0, z1, h1, h2, h3, h4, h5, h6, h7, h8⟩ := h
  exact ⟨z0, z1, h2, M, G, m, a, n, k, h1.two _ _ h6 h7, rc_stored _ _ h2, h3.set2k _ _, h4, h5, h6, h7, two_set _ _ h8 h5⟩
theorem DoI.is_ {c xb : Nat} {x : Ca} {W w : World} (h : DoI c xb x W w) (hg : GoodL x) (hl : x.L.length ≤ 200) :
    ∃ m a n k, (w.cell? ⟨xb, 0, none⟩ = some (.int .i64 m) ∧ w.cell? ⟨xb, 1, none⟩ = some (.slice a n k)) ∧ Calls Try.prog 9 #[.pointer (some ⟨c, 0, none⟩), .agg #[.int .i64 m, .slice a n k]] w (BPost true w) := by
  obtain ⟨M, G, m, a, n, k, h1, h2, h3, -⟩ := h
  exact ⟨m, a, n, k, ⟨by rw [cell_block h2]; rfl, by rw [cell_block h2]; rfl⟩, is_any _ w h1 (h3.sub (fun p hp => List.mem_cons_of_mem _ hp)) hl hg⟩
theorem DoI.start {c m : Nat} {W W2 W3 : World} (h : OneC c ⟨m, []⟩ W W2) (hb : Below W2.heap.size W2 W3) : DoI c W3.heap.size ⟨m, []⟩ W (W3.alloc (.cells #[.int .i64 (m : Int), .slice none 0 0] 28)) := by
  obtain ⟨M, G, h1, h2, h3⟩ := h
  have hb4 := alloc_below W3 (.cells #[.int .i64 (m : Int), .slice none 0 0] 28)
  have hb2 : Below W2.heap.size W2 (W3.alloc (.cells #[.int .i64 (m : Int), .slice none 0 0] 28)) := hb.trans (hb4.mono hb.size)
  have hs := hb.size
  exact ⟨M, G, _, _, _, _, h1.below hb2, heap_alloc_new _ _, RefC.empty _ _ _, h2, Nat.le_trans h3.size hs, fun hm => by have := h1.lt.1 _ hm; omega, fun hm => by have := (h1.lt.2 _ hm).2; omega, h3.trans (hb2.mono h3.size)⟩
end Go.Proofs.Ytgagkmlkoeceiaa.C

/- CachePlays: behind any calls just the document's lines are at hand, never more than may be: the walk. -/
namespace Go.Proofs.Ytgagkmlkoeceiaa.C
open Go.RowKit Go.Maps Go.Proofs.Ytgagkmlkoeceiaa.H

def DcT (c xb : Nat) (x : Ca) (W : World) (v : Value) (u : World) : Prop := ∃ X', v = .tuple #[X', .bool true] ∧ DoN c xb x W X' u
end Go.Proofs.Ytgagkmlkoeceiaa.C
