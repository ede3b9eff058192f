/- The contract of book.end: a line more. -/
import Derived.Test.YtkggmcnocpgnbaaDoorBLow
import Derived.Test.YtkggmcnocpgnbaaDoorRelD
namespace Go.Proofs.YtkggmcnocpgnbaaDoor.K
open Go.RowKit

/-- ahead of the append -/
structure E0 (b : Nat) (M N : List Nat) (x : Bk) (al : Option Addr) (nl cl : Nat) (vb : Value) (us : List Lv) (la : Option Addr) (ln lc : Nat) (lk : List (Int × Int)) (w1 u : World) : Prop where
  bo : BoAt b M N x (.slice al nl cl) vb us u
  keep : KeepB M w1 u
  l : PairsIn .i32 la ln lc lk u
  lt1 : ∀ d ∈ us, ∀ p o, d.a = some ⟨p, o, none⟩ → p < w1.heap.size
/-- behind it -/
structure E1 (b : Nat) (M N : List Nat) (x : Bk) (al : Option Addr) (nl cl : Nat) (vb : Value) (us : List Lv) (la : Option Addr) (ln lc ch2 : Nat) (lk : List (Int × Int)) (w1 : World) (v : Value) (u : World) : Prop where
  bb : u.heap[b]? = some (.cells #[.slice al nl cl, vb] 99 (0, 0))
  own : OwnL 0 v (us ++ [⟨la, ln, lc, ch2⟩]) u
  q : OwnQ .i32 61 0 vb x.G u
  lv : LinesV us x.L u
  l : PairsIn .i32 la ln lc lk u
  keep : KeepB M w1 u
  blk : ∀ q, v.ownBlock = some q → q ∈ M ∨ w1.heap.size ≤ q
  off : ∀ d ∈ us, ∀ p o, d.a = some ⟨p, o, none⟩ → p ∉ M ∧ p ∉ N
  nt : ∀ q ∈ N, q < u.heap.size
  lt1 : ∀ d ∈ us, ∀ p o, d.a = some ⟨p, o, none⟩ → p < w1.heap.size
  bm : b ∈ M
  qm : ∀ q, vb.ownBlock = some q → q ∈ M
  ty : ∀ p ∈ M, p < u.heap.size ∧ ∃ cs T, u.heap[p]? = some (.cells cs T (0, 0)) ∧ (T = 99 ∨ T = 110 ∨ T = 61)
section
variable {b : Nat} {M N : List Nat} {x : Bk} {al : Option Addr} {nl cl : Nat} {vb : Value} {us : List Lv} {la : Option Addr} {ln lc ch2 : Nat} {lk : List (Int × Int)} {w1 u u' : World} {v : Value}
theorem E0.below (h : E0 b M N x al nl cl vb us la ln lc lk w1 u) (hb : Below u.heap.size u u') : E0 b M N x al nl cl vb us la ln lc lk w1 u' :=
  ⟨h.bo.moved hb.size (fun p hp => hb.block p (h.bo.ty p hp).1) (fun d _ b o _ hl => hb.block b hl), h.keep.trans (KeepB.of_below hb), h.l.belowAll hb, h.lt1⟩
theorem E0.grows (h : E0 b M N x al nl cl vb us la ln lc lk w1 u) (hg : u.grownBy u' (Value.slice al nl cl).ownBlock) : KeepB M u u' :=
  (keepB_of hg).mono (fun p hp => h.bo.lm p (by simpa using hp))
theorem E0.appended (h : E0 b M N x al nl cl vb us la ln lc lk w1 u) (hla : ∀ p o, la = some ⟨p, o, none⟩ → (p ∉ M ∧ p ∉ N) ∧ p < w1.heap.size) (k1 : OwnL 0 v (us ++ [⟨la, ln, lc, ch2⟩]) u') (k2 : OwnL 0 (.slice al nl cl) us u') (k3 : u.grownBy u' (Value.slice al nl cl).ownBlock)
    (k4 : ∀ q, v.ownBlock = some q → (Value.slice al nl cl).ownBlock = some q ∨ u.heap.size ≤ q) : E1 b M N x al nl cl vb us la ln lc ch2 lk w1 v u' := by
  have hal : ∀ p, (Value.slice al nl cl).ownBlock = some p → ∃ cs, u.heap[p]? = some (.cells cs 110 (0, 0)) := fun p hp => (h.bo.own.own p hp).2.2
  have hne : ∀ {p : Nat} {cs : Array Value} {T : TypeId}, u.heap[p]? = some (.cells cs T (0, 0)) → T ≠ 110 → u'.heap[p]? = u.heap[p]? := fun {p cs T} hp hT => k3.block p (Array.getElem?_eq_some_iff.1 hp).1 (fun e => by
    obtain ⟨cs', h2⟩ := hal p e.symm
    rw [hp] at h2
    injection h2 with h2
    injection h2 with h2 h3
    exact hT h3)
  have hnm : ∀ {p : Nat}, p < u.heap.size → p ∉ M → u'.heap[p]? = u.heap[p]? := fun {p} hp hm => k3.block p hp (fun e => hm (h.bo.lm p e.symm))
  have hs := k3.size
  refine ⟨(hne h.bo.bb (by decide)).trans h.bo.bb, k1, h.bo.q.moved (fun q hq => ?_), h.bo.lv.moved hs (fun d hd p o e hl => hnm hl (h.bo.off d hd p o e).1), h.l.blocks hs (fun p o e hl => hnm hl (hla p o e).1.1), h.keep.trans (h.grows k3), fun q hq => ?_, h.bo.off, (fun q hq => Nat.lt_of_lt_of_le (h.bo.nt q hq) hs), h.lt1, h.bo.bm, h.bo.qm, fun p hp => ?_⟩
  · obtain ⟨-, -, cs, h2⟩ := h.bo.q.own q hq
    exact hne h2 (by decide)
  · rcases k4 q hq with e | e
    · exact .inl (h.bo.lm q e)
    · exact .inr (Nat.le_trans h.keep.size e)
  · obtain ⟨h1, cs, T, h2, h3⟩ := h.bo.ty p hp
    refine ⟨Nat.lt_of_lt_of_le h1 hs, ?_⟩
    by_cases e : (Value.slice al nl cl).ownBlock = some p
    · obtain ⟨-, -, cs', h4⟩ := k2.own p e
      exact ⟨cs', _, h4, .inr (.inl rfl)⟩
    · exact ⟨cs, T, (k3.block p h1 (fun e2 => e e2.symm)).trans h2, h3⟩
theorem E1.keepSet (h : E1 b M N x al nl cl vb us la ln lc ch2 lk w1 v u) : KeepB M u (u.setCell ⟨b, 0, none⟩ v) := (KeepB.setCell v).mono (fun p hp => by rw [show p = b by simpa using hp]; exact h.bm)
theorem E1.stored (h : E1 b M N x al nl cl vb us la ln lc ch2 lk w1 v u) (hla : ∀ p o, la = some ⟨p, o, none⟩ → (p ∉ M ∧ p ∉ N) ∧ p < w1.heap.size) (hck : (la = none → lc = 0) ∧ ch2 = chainB (x.L ++ [lk])) :
    ∃ M' vl, BoAt b M' N ⟨x.L ++ [lk], x.G⟩ vl vb (us ++ [⟨la, ln, lc, ch2⟩]) (u.setCell ⟨b, 0, none⟩ v) ∧ KeepB M w1 (u.setCell ⟨b, 0, none⟩ v) ∧ ∀ p ∈ M', p ∈ M ∨ w1.heap.size ≤ p := by
  have hk := h.keepSet
  have hs := hk.size
  have hb1 : KeepB [b] u (u.setCell ⟨b, 0, none⟩ v) := KeepB.setCell v
  have hbb : (u.setCell ⟨b, 0, none⟩ v).heap[b]? = some (.cells #[v, vb] 99 (0, 0)) := by simp [World.setCell, Array.getElem?_modify, h.bb]
  have hne : ∀ {p : Nat} {cs : Array Value} {T : TypeId}, u.heap[p]? = some (.cells cs T (0, 0)) → T ≠ 99 → (u.setCell ⟨b, 0, none⟩ v).heap[p]? = u.heap[p]? := fun {p cs T} hp hT => hb1.block p (Array.getElem?_eq_some_iff.1 hp).1 (fun e => by
    rw [show p = b by simpa using e, h.bb] at hp
    injection hp with hp
    injection hp with hp h3
    exact hT h3.symm)
  have hnm : ∀ {p : Nat}, p < u.heap.size → p ∉ M → (u.setCell ⟨b, 0, none⟩ v).heap[p]? = u.heap[p]? := fun {p} hp hm => hk.block p hp hm
  refine ⟨M ++ v.ownBlock.toList, v, ⟨hbb, h.own.moved (fun q hq => ?_), h.q.moved (fun q hq => ?_), ?_, fun d hd p o e => ⟨fun hm => ?_, ?_⟩, (fun q hq => Nat.lt_of_lt_of_le (h.nt q hq) hs), fun d hd p o e => ?_, List.mem_append_left _ h.bm, fun q hq => List.mem_append_right _ (by rw [hq]; simp), fun q hq => List.mem_append_left _ (h.qm q hq), fun p hp => ?_⟩, h.keep.trans hk, fun p hp => ?_⟩
  · obtain ⟨-, -, cs, h2⟩ := h.own.own q hq
    exact hne h2 (by decide)
  · obtain ⟨-, -, cs, h2⟩ := h.q.own q hq
    exact hne h2 (by decide)
  · have h5 := h.lv.moved hs (fun d hd p o e hl => hnm hl (h.off d hd p o e).1)
    refine ⟨by simp [h.lv.len], fun i d l hd hl => ?_⟩
    by_cases hi : i < us.length
    · rw [List.getElem?_append_left hi] at hd
      rw [List.getElem?_append_left (by rw [← h.lv.len]; exact hi)] at hl
      obtain ⟨h6, h7, h8⟩ := h5.at_ i d l hd hl
      refine ⟨h6, h7, ?_⟩
      show d.ch = chainB ((x.L ++ [lk]).take (i + 1))
      rw [List.take_append_of_le_length (by rw [← h.lv.len]; omega)]
      exact h8
    · have hil : i = us.length := by
        have := (List.getElem?_eq_some_iff.1 hd).1
        simp at this
        omega
      subst hil
      rw [List.getElem?_append_right (Nat.le_refl _), Nat.sub_self] at hd
      rw [h.lv.len, List.getElem?_append_right (Nat.le_refl _), Nat.sub_self] at hl
      obtain rfl : (⟨la, ln, lc, ch2⟩ : Lv) = d := by simpa using hd
      obtain rfl : lk = l := by simpa using hl
      refine ⟨h.l.blocks hs (fun p o e hl => hnm hl (hla p o e).1.1), hck.1, ?_⟩
      show ch2 = chainB ((x.L ++ [lk]).take (us.length + 1))
      rw [h.lv.len, List.take_of_length_le (by simp)]
      exact hck.2
  · rcases List.mem_append.1 hd with hd | hd
    · rcases List.mem_append.1 hm with hm | hm
      · exact (h.off d hd p o e).1 hm
      · have h6 := h.lt1 d hd p o e
        rcases h.blk p (by simpa using hm) with h7 | h7
        · exact (h.off d hd p o e).1 h7
        · omega
    · obtain rfl : d = ⟨la, ln, lc, ch2⟩ := by simpa using hd
      have h6 := hla p o e
      rcases List.mem_append.1 hm with hm | hm
      · exact h6.1.1 hm
      · rcases h.blk p (by simpa using hm) with h7 | h7
        · exact h6.1.1 h7
        · omega
  · rcases List.mem_append.1 hd with hd | hd
    · exact (h.off d hd p o e).2
    · obtain rfl : d = ⟨la, ln, lc, ch2⟩ := by simpa using hd
      exact (hla p o e).1.2
  · have h6 : w1.heap.size ≤ (u.setCell ⟨b, 0, none⟩ v).heap.size := (h.keep.trans hk).size
    rcases List.mem_append.1 hd with hd | hd
    · have := h.lt1 d hd p o e
      omega
    · obtain rfl : d = ⟨la, ln, lc, ch2⟩ := by simpa using hd
      have := (hla p o e).2
      omega
  · rcases List.mem_append.1 hp with hp | hp
    · obtain ⟨h1, cs, T, h2, h3⟩ := h.ty p hp
      refine ⟨Nat.lt_of_lt_of_le h1 hs, ?_⟩
      by_cases e : p = b
      · subst e
        exact ⟨_, _, hbb, .inl rfl⟩
      · exact ⟨cs, T, (hb1.block p h1 (by simpa using e)).trans h2, h3⟩
    · obtain ⟨-, h1, cs, h2⟩ := h.own.own p (by simpa using hp)
      exact ⟨Nat.lt_of_lt_of_le h1 hs, cs, _, (hne h2 (by decide)).trans h2, .inr (.inl rfl)⟩
  · rcases List.mem_append.1 hp with hp | hp
    · exact .inl hp
    · exact h.blk p (by simpa using hp)
end
theorem OwnQ.drop2 {rk : IntKind} {T : TypeId} {base n cap : Nat} {a : Option Addr} {l : List (Int × Int)} {w : World} (h : OwnQ rk T base (.slice a n cap) l w) (m : Nat) (hm : m ≤ n) : OwnQ rk T base (.slice (Option.map (fun x => x.add (m * 2)) a) (n - m) (cap - m)) (l.drop m) w := by
  rcases h with ⟨e, h2⟩ | ⟨g, off, cap', cs, e, h2⟩
  · injection e with e1 e2 e3
    subst e1 e2 e3 h2
    obtain rfl : m = 0 := by omega
    exact .inl ⟨rfl, by simp⟩
  · have e1 : a = some ⟨g, off, none⟩ := by injection e
    subst e1
    have h3 : OwnQ rk T base (.slice (some ⟨g, off, none⟩) n cap) l w := .inr ⟨g, off, cap', cs, e, h2⟩
    have hadd : Option.map (fun x : Addr => x.add (m * 2)) (some ⟨g, off, none⟩) = some ⟨g, off + m * 2, none⟩ := by simp [Addr.add]
    rw [hadd]
    exact h3.drop m hm
theorem OwnQ.drop0 {rk : IntKind} {T : TypeId} {base n cap : Nat} {a : Option Addr} {l : List (Int × Int)} {w : World} (h : OwnQ rk T base (.slice a n cap) l w) : OwnQ rk T base (.slice a 0 0) (l.drop n) w := by
  rcases h with ⟨e, h2⟩ | ⟨g, off, cap', cs, e, h1, h2, h3, h4, h5, h6⟩
  · injection e with e1 e2 e3
    subst e1 e2 h2
    exact .inl ⟨rfl, rfl⟩
  · injection e with e1 e2 e3
    subst e1 e3
    have hd : l.drop n = [] := List.drop_of_length_le (by omega)
    rw [hd]
    exact .inr ⟨g, off, 0, cs, rfl, h1, h2, Nat.le_refl _, Nat.zero_le _, by omega, fun j u hj => by simp [flatP] at hj⟩
theorem BoAt.set1 {b : Nat} {M N : List Nat} {x : Bk} {vl vb : Value} {us : List Lv} {u : World} (h : BoAt b M N x vl vb us u) {v' : Value} {G' : List (Int × Int)} (hq : OwnQ .i32 61 0 v' G' u) (hb : ∀ q, v'.ownBlock = some q → q ∈ M) : BoAt b M N ⟨x.L, G'⟩ vl v' us (u.setCell ⟨b, 1, none⟩ v') := by
  have hb1 : KeepB [b] u (u.setCell ⟨b, 1, none⟩ v') := KeepB.setCell v'
  have hs := hb1.size
  have hbb : (u.setCell ⟨b, 1, none⟩ v').heap[b]? = some (.cells #[vl, v'] 99 (0, 0)) := by simp [World.setCell, Array.getElem?_modify, h.bb]
  have hne : ∀ {p : Nat} {cs : Array Value} {T : TypeId}, u.heap[p]? = some (.cells cs T (0, 0)) → T ≠ 99 → (u.setCell ⟨b, 1, none⟩ v').heap[p]? = u.heap[p]? := fun {p cs T} hp hT => hb1.block p (Array.getElem?_eq_some_iff.1 hp).1 (fun e => by
    rw [show p = b by simpa using e, h.bb] at hp
    injection hp with hp
    injection hp with hp h3
    exact hT h3.symm)
  have hnb : ∀ {p : Nat}, p < u.heap.size → p ∉ M → (u.setCell ⟨b, 1, none⟩ v').heap[p]? = u.heap[p]? := fun {p} hp hm => hb1.block p hp (fun e => hm (by rw [show p = b by simpa using e]; exact h.bm))
  refine ⟨hbb, h.own.moved (fun q hq => ?_), hq.moved (fun q hq' => ?_), h.lv.moved hs (fun d hd p o e hl => hnb hl (h.off d hd p o e).1), h.off, (fun q hq => Nat.lt_of_lt_of_le (h.nt q hq) hs), (fun d hd p o e => Nat.lt_of_lt_of_le (h.lt d hd p o e) hs), h.bm, h.lm, hb, fun p hp => ?_⟩
  · obtain ⟨-, -, cs, h2⟩ := h.own.own q hq
    exact hne h2 (by decide)
  · obtain ⟨-, -, cs, h2⟩ := hq.own q hq'
    exact hne h2 (by decide)
  · obtain ⟨h1, cs, T, h2, h3⟩ := h.ty p hp
    refine ⟨Nat.lt_of_lt_of_le h1 hs, ?_⟩
    by_cases e : p = b
    · subst e
      exact ⟨_, _, hbb, .inl rfl⟩
    · exact ⟨cs, T, (hb1.block p h1 (by simpa using e)).trans h2, h3⟩
/-- the region's state -/
def EndS (b : Nat) (M N : List Nat) (x : Bk) (al : Option Addr) (nl cl : Nat) (vb : Value) (us : List Lv) (la : Option Addr) (ln lc ch2 : Nat) (lk : List (Int × Int)) (w1 : World) : Nat → (Nat → Value) → World → Prop
  | 0, _, u => E0 b M N x al nl cl vb us la ln lc lk w1 u
  | 1, f, u => ∃ v, f 26 = v ∧ E1 b M N x al nl cl vb us la ln lc ch2 lk w1 v u
  | _, _, u => ∃ M' vl, BoAt b M' N ⟨x.L ++ [lk], x.G⟩ vl vb (us ++ [⟨la, ln, lc, ch2⟩]) u ∧ KeepB M w1 u ∧ ∀ p ∈ M', p ∈ M ∨ w1.heap.size ≤ p
theorem EndS.cong {b : Nat} {M N : List Nat} {x : Bk} {al : Option Addr} {nl cl : Nat} {vb : Value} {us : List Lv} {la : Option Addr} {ln lc ch2 : Nat} {lk : List (Int × Int)} {w1 : World} {k : Nat} {f f2 : Nat → Value} {u : World} (e1 : k = 1 → f 26 = f2 26) (h : EndS b M N x al nl cl vb us la ln lc ch2 lk w1 k f u) : EndS b M N x al nl cl vb us la ln lc ch2 lk w1 k f2 u := by
  match k, h, e1 with
  | 0, h, _ => exact h
  | 1, ⟨v, e, h⟩, e1 => exact ⟨v, by rw [← e1 rfl]; exact e, h⟩
  | _ + 2, h, _ => exact h
def EndOk (b : Nat) (M : List Nat) (al : Option Addr) (nl cl : Nat) (la : Option Addr) (ln lc ch ch2 : Nat) : Nat → Value → World → Prop
  | 0, u, _ => u = .pointer (some ⟨b, 0, none⟩)
  | 1, u, _ => u = .pointer (some ⟨b, 0, none⟩)
  | 2, u, _ => u = .pointer (some ⟨b, 0, none⟩)
  | 3, u, _ => u = .pointer (some ⟨b, 0, none⟩)
  | 4, u, _ => u = .slice al nl cl
  | 5, u, _ => u = .slice la ln lc
  | 6, u, _ => u = .pointer (some ⟨b, 0, none⟩)
  | 7, u, _ => u = .pointer (some ⟨b, 0, none⟩)
  | 8, u, _ => u = .int .i64 (nl : Int)
  | 9, u, _ => u = .int .i64 (ch : Int)
  | 10, u, _ => u = .slice la ln lc
  | 11, u, _ => u = .int .i64 (ch2 : Int)
  | 12, u, _ => u = .agg #[.slice la ln lc, .int .i64 (ch2 : Int)]
  | 13, u, w => ∃ p, u = .slice (some ⟨p, 0, none⟩) 1 1 ∧ p ∉ M ∧ w.heap[p]? = some (.cells #[.slice la ln lc, .int .i64 (ch2 : Int)] 110 (0, 0))
  | 14, _, _ => True
  | 15, u, _ => u = .pointer (some ⟨b, 0, none⟩)
  | 16, u, _ => u = .pointer (some ⟨b, 0, none⟩)
  | 17, _, _ => True
  | _, _, _ => True
/-- what a change of a book leaves -/
def ChPost (b : Nat) (M N : List Nat) (y : Bk) (w : World) (e : Ending) (w' : World) : Prop := e = .returned (.tuple #[]) ∧ ∃ M', Bo b M' N y w' ∧ KeepB M w w' ∧ ∀ p ∈ M', p ∈ M ∨ w.heap.size ≤ p
theorem S.tabKeep {M : List Nat} {w w' : World} (h : S.Tab w) (hM : 1 ∉ M) (hk : KeepB M w w') : S.Tab w' := fun j hj => by
  have hc := h j hj
  have hl := World.block_lt_of_cell? w _ hc
  exact (World.cell?_of_block (a := ⟨1, j, none⟩) (hk.block _ hl hM)).trans hc
set_option maxRecDepth 100000 in
set_option maxHeartbeats 8000000 in
theorem bend_any {b : Nat} {M N : List Nat} {x : Bk} (ln : Nat) (w : World) (h : Bo b M N x w) (hk : ln ≤ x.G.length) (hk2 : ln ≤ 1024) (hr : RngG x.G) (hL : x.L.length ≤ 900000) (hG : x.G.length ≤ 1000000) (hT : S.Tab w) (hM : 1 ∉ M) :
    Calls Tryd.prog 50 #[.pointer (some ⟨b, 0, none⟩), .int .i64 (ln : Int)] w (ChPost b M N (endB x ln) w) := by
  obtain ⟨vl, vb, us, h⟩ := h
  obtain ⟨al, cl, rfl, -⟩ := h.own.shape
  obtain ⟨nl, hnl⟩ : ∃ n, us.length = n := ⟨_, rfl⟩
  rw [hnl] at h
  have hnx : x.L.length = nl := by rw [← h.lv.len, hnl]
  obtain ⟨ga, gc, rfl, hP, hgn, -⟩ := h.q.shape
  obtain ⟨gn, hgl⟩ : ∃ n, x.G.length = n := ⟨_, rfl⟩
  rw [hgl] at h hP hk hG
  have hc1 := h.c1
  obtain ⟨lk, hlk⟩ : ∃ l, x.G.take ln = l := ⟨_, rfl⟩
  have hPk := hP.take ln hk
  rw [hlk] at hPk
  have hkl : lk.length = ln := by rw [← hlk, List.length_take, hgl]; omega
  obtain ⟨P, hPP⟩ : ∃ P, ChPost b M N (endB x ln) w = P := ⟨_, rfl⟩
  rw [hPP]
  have HP := Lib.hid hPP
  have HPk := Lib.hid hPk
  have HGn := Lib.hid hgn
  have HBo := Lib.hid h
  have HKl := Lib.hid hkl
  have HTb := Lib.hid hT
  have HUs := Lib.hid hnl
  have HNl := Lib.hid hnx
  have HLkd := Lib.hid hlk
  have HGl := Lib.hid hgl
  have HMt := Lib.hid hM
  have HRx := Lib.hid hr
  have hfit := hP.fit
  have htop := hP.top
  have hnl9 : nl ≤ 900000 := by rw [← hnx]; exact hL
  have hkg : (ln : Int) ≤ gc := by omega
  have hl0 : ((([] : List (Int × Int)).length : Int)) ≤ 1000000 := by decide
  have hl1 : (lk.length : Int) ≤ 1000000 := by rw [hkl]; omega
  clear hPP hPk hgn h hkl hT hnl hnx hlk hgl hM hr hP hL
  go_enter Tryd.func50, Tryd.ntmps50
  go_wp2_with (refine wpList_append_q gluT rfl _ _ rfl rfl w.heap.size _ [] ga ln gc lk rfl rfl (OwnQ.nil _ _ _ _) HPk.out hl0 hl1 (Nat.le_refl _) ?_)
  intro v1 w1 hg
  have hq1 : OwnQ .i32 61 w.heap.size v1 lk w1 := by simpa using hg.own
  have hb1 : Below w.heap.size w w1 := (Below.refl _ _).grown hg.grown (Nat.le_refl _) (fun q hq => by cases hq)
  obtain ⟨la, lc, rfl, hlp, hln, hlo⟩ := hq1.shape
  have hla : ∀ p o, la = some ⟨p, o, none⟩ → (p ∉ M ∧ p ∉ N) ∧ p < w1.heap.size := fun p o e => by
    have h1 := hq1.own p (hlo p o e)
    exact ⟨⟨fun hm => by have := (HBo.out.ty p hm).1; omega, fun hm => by have := HBo.out.nt p hm; omega⟩, h1.2.1⟩
  rw [HKl.out] at hlp ⊢
  have h0 : E0 b M N x al nl cl (.slice ga gn gc) us la ln lc lk w1 w1 := ⟨HBo.out.moved hb1.size (fun p hp => hb1.block p (HBo.out.ty p hp).1) (fun d _ b o _ hl => hb1.block b hl), KeepB.refl _ _, hlp, fun d hd p o e => Nat.lt_of_lt_of_le (HBo.out.lt d hd p o e) hb1.size⟩
  obtain ⟨ch, hch⟩ : ∃ c, chainB (x.L.take nl) = c := ⟨_, rfl⟩
  obtain ⟨ch2, hch2⟩ : ∃ c, nextC ch lk = c := ⟨_, rfl⟩
  have hchx : chainB x.L = ch := by rw [← hch, List.take_of_length_le (by rw [HNl.out]; exact Nat.le_refl _)]
  have HE0 := Lib.hid h0
  have HLa := Lib.hid hla
  have HChl : Hid (ch < 281474976710597) := Lib.hid (by rw [← hch]; exact chainB_lt _)
  have HCk : Hid ((la = none → lc = 0) ∧ ch2 = chainB (x.L ++ [lk])) := Lib.hid ⟨hln, by rw [chainB_snoc, hchx, hch2]⟩
  have HCh := Lib.hid hch
  have HCh2 := Lib.hid hch2
  have HRg : Hid (RngG lk) := Lib.hid (fun g hgm => HRx.out g (List.mem_of_mem_take (by rw [HLkd.out]; exact hgm)))
  have HLk := Lib.hid hk2
  have HB1 := Lib.hid hb1
  have htab : ∀ (u : World), KeepB M w1 u → S.Tab u := fun u hku => S.tabKeep (S.tab_of HTb.out hb1) HMt.out hku
  have HTab := Lib.hid htab
  clear hg hq1 hb1 hlp hln hlo hla h0 hch hch2 hchx htab
  go_upto_region 1 with fail
  refine Go.Proofs.YtkggmcnocpgnbaaDoor.R.wp_region_due [14, 17] [1, 0, 0, 0, 0, 0, 0, 0, 0, 0, 0, 0, 0, 0, 1, 1, 1, 2] (by kernel_rfl) (EndS b M N x al nl cl (.slice ga gn gc) us la ln lc ch2 lk w1) (fun u u2 => KeepB M u u2) (EndOk b M al nl cl la ln lc ch ch2) (by rfl) (by kernel_rfl) (by kernel_rfl) (by kernel_rfl) (by kernel_rfl) ?hcong ?hOk ?hop ?hdone ?h0
  case hcong => exact fun k f f2 u hs hst => EndS.cong (fun hk => hs 26 (Go.Proofs.YtkggmcnocpgnbaaDoor.R.mem_slots (by subst hk; kernel_rfl))) hst
  case hOk => intro i u w1 w2 h hr; unfold EndOk at h ⊢; split at h <;> first | exact h | skip; obtain ⟨p, h1, h2, h3⟩ := h; exact ⟨p, h1, h2, hr.block1 h3 h2⟩
  case h0 => exact HE0.out.below ((Below.refl _ _).drew)
  case hop =>
    refine ⟨?_, ?_, ?_, ?_, ?_, ?_, ?_, ?_, ?_, ?_, ?_, ?_, ?_, ?_, ?_, ?_, ?_, ?_, trivial⟩
    · intro k z v hk hst hag hdep
      refine .inl ⟨rfl, fun K hK => ?_⟩
      have d0 : z.tmps.getD 0 undef = .pointer (some ⟨b, 0, none⟩) := hag.2.2 0 (by kernel_rfl)
      have e0 := d0
      rw [Array.getD_eq_getD_getElem?] at e0
      have HSt := Lib.hid hst
      clear hdep hag hst
      go_simp
      exact hK _ _ (KeepB.refl _ _) rfl HSt.out
    · intro k z v hk hst hag hdep
      refine .inl ⟨rfl, fun K hK => ?_⟩
      have d0 : z.tmps.getD 0 undef = .pointer (some ⟨b, 0, none⟩) := hag.2.2 0 (by kernel_rfl)
      have e0 := d0
      rw [Array.getD_eq_getD_getElem?] at e0
      have HSt := Lib.hid hst
      clear hdep hag hst
      go_simp
      exact hK _ _ (KeepB.refl _ _) rfl HSt.out
    · intro k z v hk hst hag hdep
      refine .inl ⟨rfl, fun K hK => ?_⟩
      have d13 : z.tmps.getD 13 undef = .pointer (some ⟨b, 0, none⟩) := hdep { on := 1, ground := .data } (by simp) rfl _ _ rfl rfl
      have e13 := d13
      rw [Array.getD_eq_getD_getElem?] at e13
      have HSt := Lib.hid hst
      clear hdep hag hst
      go_simp
      exact hK _ _ (KeepB.refl _ _) rfl HSt.out
    · intro k z v hk hst hag hdep
      refine .inl ⟨rfl, fun K hK => ?_⟩
      have d14 : z.tmps.getD 14 undef = .pointer (some ⟨b, 0, none⟩) := hdep { on := 2, ground := .data } (by simp) rfl _ _ rfl rfl
      have e14 := d14
      rw [Array.getD_eq_getD_getElem?] at e14
      have HSt := Lib.hid hst
      clear hdep hag hst
      go_simp
      exact hK _ _ (KeepB.refl _ _) rfl HSt.out
    · intro k z v hk hst hag hdep
      refine .inl ⟨rfl, fun K hK => ?_⟩
      have d15 : z.tmps.getD 15 undef = .pointer (some ⟨b, 0, none⟩) := hdep { on := 3, ground := .data } (by simp) rfl _ _ rfl rfl
      have e15 := d15
      rw [Array.getD_eq_getD_getElem?] at e15
      obtain rfl : k = 0 := by have : k ≤ 0 := hk; omega
      have h0 : E0 b M N x al nl cl (.slice ga gn gc) us la ln lc lk w1 v := hst
      have l0 := h0.bo.c0
      have HSt := Lib.hid hst
      clear hdep hag hst
      go_simp
      exact hK _ _ (KeepB.refl _ _) rfl HSt.out
    · intro k z v hk hst hag hdep
      refine .inl ⟨rfl, fun K hK => ?_⟩
      have d4 : z.tmps.getD 4 undef = .slice la ln lc := hag.2.2 4 (by kernel_rfl)
      have e4 := d4
      rw [Array.getD_eq_getD_getElem?] at e4
      have HSt := Lib.hid hst
      clear hdep hag hst
      go_simp
      exact hK _ _ (KeepB.refl _ _) rfl HSt.out
    · intro k z v hk hst hag hdep
      refine .inl ⟨rfl, fun K hK => ?_⟩
      have d0 : z.tmps.getD 0 undef = .pointer (some ⟨b, 0, none⟩) := hag.2.2 0 (by kernel_rfl)
      have e0 := d0
      rw [Array.getD_eq_getD_getElem?] at e0
      have HSt := Lib.hid hst
      clear hdep hag hst
      go_simp
      exact hK _ _ (KeepB.refl _ _) rfl HSt.out
    · intro k z v hk hst hag hdep
      refine .inl ⟨rfl, fun K hK => ?_⟩
      have d0 : z.tmps.getD 0 undef = .pointer (some ⟨b, 0, none⟩) := hag.2.2 0 (by kernel_rfl)
      have e0 := d0
      rw [Array.getD_eq_getD_getElem?] at e0
      have HSt := Lib.hid hst
      clear hdep hag hst
      go_simp
      exact hK _ _ (KeepB.refl _ _) rfl HSt.out
    · intro k z v hk hst hag hdep
      refine .inl ⟨rfl, fun K hK => ?_⟩
      have d19 : z.tmps.getD 19 undef = .pointer (some ⟨b, 0, none⟩) := hdep { on := 7, ground := .data } (by simp) rfl _ _ rfl rfl
      have e19 := d19
      rw [Array.getD_eq_getD_getElem?] at e19
      obtain rfl : k = 0 := by have : k ≤ 0 := hk; omega
      have h0 : E0 b M N x al nl cl (.slice ga gn gc) us la ln lc lk w1 v := hst
      have HL8 := Lib.hid (blen_any v ⟨_, _, _, h0.bo⟩)
      rw [HNl.out] at HL8
      have HSt := Lib.hid hst
      clear hdep hag h0 hst hk
      go_simp
      refine HL8.out.mono ?_
      rintro e w' ⟨rfl, rfl⟩
      exact hK _ _ (KeepB.refl _ _) rfl HSt.out
    · intro k z v hk hst hag hdep
      refine .inl ⟨rfl, fun K hK => ?_⟩
      have d18 : z.tmps.getD 18 undef = .pointer (some ⟨b, 0, none⟩) := hdep { on := 6, ground := .data } (by simp) rfl _ _ rfl rfl
      have e18 := d18
      rw [Array.getD_eq_getD_getElem?] at e18
      have d20 : z.tmps.getD 20 undef = .int .i64 (nl : Int) := hdep { on := 8, ground := .data } (by simp) rfl _ _ rfl rfl
      have e20 := d20
      rw [Array.getD_eq_getD_getElem?] at e20
      obtain rfl : k = 0 := by have : k ≤ 0 := hk; omega
      have h0 : E0 b M N x al nl cl (.slice ga gn gc) us la ln lc lk w1 v := hst
      have HC9 := Lib.hid (bchain_any nl v ⟨_, _, _, h0.bo⟩ (by rw [HNl.out]; exact Nat.le_refl _) (by rw [HNl.out]; omega))
      rw [HCh.out] at HC9
      have HSt := Lib.hid hst
      clear hdep hag h0 hst hk
      go_simp
      refine HC9.out.mono ?_
      rintro e w' ⟨rfl, rfl⟩
      exact hK _ _ (KeepB.refl _ _) rfl HSt.out
    · intro k z v hk hst hag hdep
      refine .inl ⟨rfl, fun K hK => ?_⟩
      have d4 : z.tmps.getD 4 undef = .slice la ln lc := hag.2.2 4 (by kernel_rfl)
      have e4 := d4
      rw [Array.getD_eq_getD_getElem?] at e4
      have HSt := Lib.hid hst
      clear hdep hag hst
      go_simp
      exact hK _ _ (KeepB.refl _ _) rfl HSt.out
    · intro k z v hk hst hag hdep
      refine .inl ⟨rfl, fun K hK => ?_⟩
      have d21 : z.tmps.getD 21 undef = .int .i64 (ch : Int) := hdep { on := 9, ground := .data } (by simp) rfl _ _ rfl rfl
      have e21 := d21
      rw [Array.getD_eq_getD_getElem?] at e21
      have d22 : z.tmps.getD 22 undef = .slice la ln lc := hdep { on := 10, ground := .data } (by simp) rfl _ _ rfl rfl
      have e22 := d22
      rw [Array.getD_eq_getD_getElem?] at e22
      obtain rfl : k = 0 := by have : k ≤ 0 := hk; omega
      have h0 : E0 b M N x al nl cl (.slice ga gn gc) us la ln lc lk w1 v := hst
      have HC11 := Lib.hid (chained_any ch HChl.out la ln lc lk v h0.l HRg.out HLk.out (HTab.out _ h0.keep))
      rw [HCh2.out] at HC11
      have HSt := Lib.hid h0
      clear hdep hag h0 hst hk
      go_simp
      refine HC11.out.mono ?_
      rintro e w' ⟨rfl, hb⟩
      exact hK _ _ (KeepB.of_below hb) rfl (HSt.out.below hb)
    · intro k z v hk hst hag hdep
      refine .inl ⟨rfl, fun K hK => ?_⟩
      have d17 : z.tmps.getD 17 undef = .slice la ln lc := hdep { on := 5, ground := .data } (by simp) rfl _ _ rfl rfl
      have e17 := d17
      rw [Array.getD_eq_getD_getElem?] at e17
      have d23 : z.tmps.getD 23 undef = .int .i64 (ch2 : Int) := hdep { on := 11, ground := .data } (by simp) rfl _ _ rfl rfl
      have e23 := d23
      rw [Array.getD_eq_getD_getElem?] at e23
      have HSt := Lib.hid hst
      clear hdep hag hst
      go_simp
      exact hK _ _ (KeepB.refl _ _) rfl HSt.out
    · intro k z v hk hst hag hdep
      refine .inl ⟨rfl, fun K hK => ?_⟩
      have d24 : z.tmps.getD 24 undef = .agg #[.slice la ln lc, .int .i64 (ch2 : Int)] := hdep { on := 12, ground := .data } (by simp) rfl _ _ rfl rfl
      have e24 := d24
      rw [Array.getD_eq_getD_getElem?] at e24
      obtain rfl : k = 0 := by have : k ≤ 0 := hk; omega
      have h0 : E0 b M N x al nl cl (.slice ga gn gc) us la ln lc lk w1 v := hst
      have HSt := Lib.hid h0
      clear hdep hag h0 hst hk
      go_simp
      have hb : Below v.heap.size v (v.alloc (.cells #[.slice la ln lc, .int .i64 (ch2 : Int)] 110)) := (Below.refl _ _).alloc (Nat.le_refl _) _
      exact hK _ _ (KeepB.of_below hb) ⟨v.heap.size, rfl, (fun hm => by have := (HSt.out.bo.ty _ hm).1; omega), heap_alloc_new v _⟩ (HSt.out.below hb)
    · intro z v hst hag hdep
      refine ⟨rfl, fun K hK => ?_⟩
      have d16 : z.tmps.getD 16 undef = .slice al nl cl := hdep { on := 4, ground := .data } (by simp) rfl _ _ rfl rfl
      have e16 := d16
      rw [Array.getD_eq_getD_getElem?] at e16
      have d25' : EndOk b M al nl cl la ln lc ch ch2 13 (z.tmps.getD 25 undef) v := hdep { on := 13, ground := .data } (by simp) rfl _ _ rfl rfl
      simp only [EndOk] at d25'
      obtain ⟨p13, d25, hp1, hp3⟩ := d25'
      have e25 := d25
      rw [Array.getD_eq_getD_getElem?] at e25
      have h0 : E0 b M N x al nl cl (.slice ga gn gc) us la ln lc lk w1 v := hst
      have HSt := Lib.hid h0
      have hsz : 26 < z.tmps.size := by rw [hag.2.1]; show 26 < 38; decide
      clear hdep hag hst e16 e25
      refine wp_append_line _ _ rfl rfl 0 (.slice al nl cl) us ⟨la, ln, lc, ch2⟩ p13 d16 d25 HSt.out.bo.own (by rw [cell_block hp3]; rfl) (by rw [cell_block hp3]; rfl) (by rw [HUs.out]; omega) (Nat.zero_le _) ?_
      intro v' w' k1 k2 k3 k4
      exact hK _ _ (HSt.out.grows k3) True.intro ⟨v', Go.Proofs.YtkggmcnocpgnbaaDoor.R.slot_same hsz, HSt.out.appended HLa.out k1 k2 k3 k4⟩
    · intro k z v hk hst hag hdep
      refine .inl ⟨rfl, fun K hK => ?_⟩
      have d12 : z.tmps.getD 12 undef = .pointer (some ⟨b, 0, none⟩) := hdep { on := 0, ground := .data } (by simp) rfl _ _ rfl rfl
      have e12 := d12
      rw [Array.getD_eq_getD_getElem?] at e12
      have HSt := Lib.hid hst
      clear hdep hag hst
      go_simp
      exact hK _ _ (KeepB.refl _ _) rfl HSt.out
    · intro k z v hk hst hag hdep
      refine .inl ⟨rfl, fun K hK => ?_⟩
      have d27 : z.tmps.getD 27 undef = .pointer (some ⟨b, 0, none⟩) := hdep { on := 15, ground := .data } (by simp) rfl _ _ rfl rfl
      have e27 := d27
      rw [Array.getD_eq_getD_getElem?] at e27
      have HSt := Lib.hid hst
      clear hdep hag hst
      go_simp
      exact hK _ _ (KeepB.refl _ _) rfl HSt.out
    · intro z v hst hag hdep
      refine ⟨rfl, fun K hK => ?_⟩
      have d28 : z.tmps.getD 28 undef = .pointer (some ⟨b, 0, none⟩) := hdep { on := 16, ground := .data } (by simp) rfl _ _ rfl rfl
      have e28 := d28
      rw [Array.getD_eq_getD_getElem?] at e28
      obtain ⟨v14, f14, h14⟩ := hst
      have d26 : z.tmps.getD 26 undef = v14 := f14
      obtain ⟨sa, sc, hsv, -⟩ := h14.own.shape
      rw [show (us ++ [(⟨la, ln, lc, ch2⟩ : Lv)]).length = us.length + 1 by simp] at hsv
      rw [hsv] at d26 h14
      have e26 := d26
      rw [Array.getD_eq_getD_getElem?] at e26
      have s0 := cell_block h14.bb 0
      have f0 := frozen_block h14.bb 0
      have HSt := Lib.hid h14
      clear hdep hag h14 f14 hsv
      go_simp
      exact hK undef _ (HSt.out.keepSet) trivial (HSt.out.stored HLa.out HCk.out)
  case hdone =>
    intro z v hst hag hok
    have hst2 : ∃ M' vl, BoAt b M' N ⟨x.L ++ [lk], x.G⟩ vl (.slice ga gn gc) (us ++ [⟨la, ln, lc, ch2⟩]) v ∧ KeepB M w1 v ∧ ∀ p ∈ M', p ∈ M ∨ w1.heap.size ≤ p := hst
    obtain ⟨M', vl2, hb2, hk9, hm2⟩ := hst2
    have c1 := hb2.c1
    have f1 := hb2.fr 1
    have HB2 := Lib.hid hb2
    have HK9 := Lib.hid hk9
    have HM2 := Lib.hid hm2
    clear hst hb2 hk9 hm2
    obtain ⟨uu, hu, hzz⟩ := Go.Proofs.YtkggmcnocpgnbaaDoor.R.agree_frame [12, 13, 14, 15, 16, 17, 18, 19, 20, 21, 22, 23, 24, 25, 26, 27, 28] rfl hag

    subst hzz
    simp only [List.foldl_cons, List.foldl_nil]
    rw []
    clear  hu hag hok
    try dsimp only [Exit.then]
    simp only [List.setIfInBounds_toArray, List.set_cons_succ, List.set_cons_zero]
    generalize uu 12 = u12', uu 13 = u13', uu 14 = u14', uu 15 = u15', uu 16 = u16', uu 17 = u17', uu 18 = u18', uu 19 = u19', uu 20 = u20', uu 21 = u21', uu 22 = u22', uu 23 = u23', uu 24 = u24', uu 25 = u25', uu 26 = u26', uu 27 = u27', uu 28 = u28'
    clear uu
    rename_i K hK
    refine hK _ _ ?_
    have fin : ∀ (av : Option Addr) (n9 c9 : Nat), OwnQ .i32 61 0 (.slice av n9 c9) (x.G.drop ln) v → (∀ q, (Value.slice av n9 c9).ownBlock = some q → q ∈ M') → P (.returned (.tuple #[])) (v.setCell ⟨b, 1, none⟩ (.slice av n9 c9)) := fun av n9 c9 hq9 hqm => by
      have hset := HB2.out.set1 hq9 hqm
      have hkk : KeepB M w (v.setCell ⟨b, 1, none⟩ (.slice av n9 c9)) := (((KeepB.of_below HB1.out).trans HK9.out).trans ((KeepB.setCell _).mono (fun p hp => by rw [show p = b by simpa using hp]; exact HBo.out.bm)))
      have he : endB x ln = ⟨x.L ++ [lk], x.G.drop ln⟩ := by unfold endB; rw [HLkd.out]
      rw [← HP.out, he]
      exact ⟨rfl, M', ⟨vl2, _, _, hset⟩, hkk, fun p hp => (HM2.out p hp).imp id (fun h => Nat.le_trans HB1.out.size h)⟩
    have HF := Lib.hid fin
    have HQ9 := Lib.hid HB2.out.q
    have HQm := Lib.hid HB2.out.qm
    clear fin
    by_cases hcz : gc = ln
    · have hgz : gn = ln := by omega
      have hend : Hid (P (.returned (.tuple #[])) (v.setCell ⟨b, 1, none⟩ (.slice ga 0 0))) := Lib.hid (HF.out ga 0 0 (by have h := HQ9.out.drop0; rw [hgz] at h; exact h) (fun q hq => HQm.out q (by cases ga <;> exact hq)))
      subst hcz
      clear hgz
      go_wp2_with fail
      go_end0
      exact hend.out
    · have hlt : ln < gc := by omega
      have hend : Hid (P (.returned (.tuple #[])) (v.setCell ⟨b, 1, none⟩ (.slice (Option.map (fun x => x.add (ln * 2)) ga) (gn - ln) (gc - ln)))) := Lib.hid (HF.out _ _ _ (HQ9.out.drop2 ln hk) (fun q hq => HQm.out q (by
        cases ga with
        | none => cases hq
        | some ad =>
          have h10 : (ad.add (ln * 2)).block = ad.block := by unfold Addr.add; split <;> rfl
          have hq' : some (ad.add (ln * 2)).block = some q := hq
          rw [h10] at hq'
          exact hq')))
      have hz : ¬ gc - ln = 0 := by omega
      clear hcz
      go_wp2_with fail
      all_goals
        go_end0
        exact hend.out
end Go.Proofs.YtkggmcnocpgnbaaDoor.K
