/- The state of CacheLast's puts: the cache, the law's map of lines, its numbers in their order. -/
import Derived.Test.YtkdkhphpknnceaaCLaP
namespace Go.Proofs.Ytkdkhphpknnceaa.C
open Go.RowKit Go.Maps Go.Proofs.Ytkdkhphpknnceaa.H
open Go.Proofs.Ytkdkhphpknnceaa.W (OwnI IntsIn inV infoInt)

theorem OwnI.movedB {base : Nat} {v : Value} {zs : List Int} {w w' : World} (h : OwnI base v zs w) (hv : ∀ q, v.ownBlock = some q → w'.heap[q]? = w.heap[q]?) : OwnI base v zs w' := by
  refine ⟨h.1, ?_⟩
  rcases h.2 with h0 | ⟨g', c', cur, he, hbase, hgb, hc, hmx, hsz, ht⟩
  · exact .inl h0
  · exact .inr ⟨g', c', cur, he, hbase, (hv g' (by rw [he]; rfl)).trans hgb, hc, hmx, hsz, ht⟩
theorem OwnI.cellAt {base n c : Nat} {a : Option Addr} {zs : List Int} {w : World} (h : OwnI base (.slice a n c) zs w) {j : Nat} {k : Int} (hj : zs[j]? = some k) : ∃ b, a = some ⟨b, 0, none⟩ ∧ w.cell? ⟨b, j, none⟩ = some (.int .i64 k) := by
  obtain ⟨q, cap, e⟩ := OwnI.atSome h (by intro e; rw [e] at hj; cases hj)
  injection e with e1 e2 e3
  subst e1 e2 e3
  exact ⟨q, rfl, (OwnI.at0 h).2.2.2.2.2 j k hj⟩
/-- p1: what was put, p2: whose numbers stand in the order v -/
def LaG (c mb m : Nat) (p1 p2 : List Ent) (v : Value) (W w : World) : Prop :=
  (∃ M G Bs x, Ch c M G x w ∧ (∀ p ∈ M, W.heap.size ≤ p) ∧ x.most = m ∧ TailOf m (allU p1) x.L ∧ LastM mb p1.length (allU p1) Bs w ∧ (mb ∉ M ∧ mb ∉ G ∧ ∀ q ∈ Bs, q ∉ M) ∧ ∀ q, v.ownBlock = some q → q ∉ M ∧ q ∉ G ∧ q ≠ mb ∧ q ∉ Bs) ∧
  Below W.heap.size W w ∧ W.heap.size ≤ mb ∧ OwnI W.heap.size v (p2.map (·.1)) w
/-- all but these blocks is kept -/
theorem LaG.moved {c mb m : Nat} {p1 p2 : List Ent} {v : Value} {W w w' : World} {s : Nat} (h : LaG c mb m p1 p2 v W w) (hs : w.heap.size ≤ s) (hk : KeepB [s] w w') : LaG c mb m p1 p2 v W w' := by
  obtain ⟨⟨M, G, Bs, x, h1, h2, h3, h4, h5, h6, h7⟩, hb, hmb, ho⟩ := h
  have hM : ∀ p ∈ M, p ∉ [s] := fun p hp e => by have := h1.lt.1 p hp; simp at e; omega
  have hG : ∀ p ∈ G, p ∉ [s] := fun p hp e => by have := (h1.lt.2 p hp).2; simp at e; omega
  refine ⟨⟨M, G, Bs, x, h1.keptB hk hM hG, h2, h3, h4, h5.keptB hk (fun e => by have := h5.lt; simp at e; omega) (fun q hq e => by have := (h5.2 q hq).2; simp at e; omega), h6, h7⟩, hk.below (fun i hi => ?_) hb hb.size, hmb, OwnI.movedB ho (fun q hq => ?_)⟩
  · have : i = s := by simpa using hi
    have := hb.size
    omega
  · have hlt := (World.ownsRow.lt ho q hq).2
    exact hk.block q hlt (fun e => by simp at e; omega)
theorem LaG.below {c mb m : Nat} {p1 p2 : List Ent} {v : Value} {W w w' : World} (h : LaG c mb m p1 p2 v W w) (hb : Below w.heap.size w w') : LaG c mb m p1 p2 v W w' := h.moved (Nat.le_refl _) (KeepB.of_below hb)
theorem LaG.bel {c mb m : Nat} {p1 p2 : List Ent} {v : Value} {W w : World} (h : LaG c mb m p1 p2 v W w) : Below W.heap.size W w := h.2.1
/-- a line that is put, ahead of the law's map -/
def LaP (c mb m : Nat) (ps : List Ent) (e : Ent) (v lv : Value) (W w : World) : Prop :=
  (∃ M G Bs x, Ch c M G x w ∧ (∀ p ∈ M, W.heap.size ≤ p) ∧ x.most = m ∧ TailOf m (allU (ps ++ [e])) x.L ∧ LastM mb ps.length (allU ps) Bs w ∧ (mb ∉ M ∧ mb ∉ G ∧ ∀ q ∈ Bs, q ∉ M) ∧ (∀ q, v.ownBlock = some q → q ∉ M ∧ q ∉ G ∧ q ≠ mb ∧ q ∉ Bs) ∧
    ∃ a cc, lv = .slice a e.2.length cc ∧ Plain a ∧ PairsIn .i32 a e.2.length cc e.2 w ∧ ∀ p o, a = some ⟨p, o, none⟩ → p ∉ M ∧ p < w.heap.size ∧ p ≠ mb ∧ v.ownBlock ≠ some p) ∧
  Below W.heap.size W w ∧ W.heap.size ≤ mb ∧ OwnI W.heap.size v (ps.map (·.1)) w
theorem LaG.start {c m : Nat} {W w : World} (h : OneC c ⟨m, []⟩ W w) : LaG c w.heap.size m [] [] (.slice none 0 0) W (w.alloc (.map #[] 0)) := by
  obtain ⟨M, G, h1, h2, h3⟩ := h
  have hb := alloc_below w (.map #[] 0)
  refine ⟨⟨M, G, [], _, h1.below hb, h2, rfl, ⟨[], rfl, Nat.zero_le _, .inr rfl⟩, LastM.made w, ⟨fun hm => by have := h1.lt.1 _ hm; omega, fun hm => by have := (h1.lt.2 _ hm).2; omega, fun q hq => by cases hq⟩, fun q hq => by cases hq⟩, h3.trans (hb.mono h3.size), h3.size, OwnI.nil _ _⟩
theorem plain_of {a : Option Addr} {n c : Nat} {l : List (Int × Int)} {T : TypeId} {base : Nat} {w : World} (h : OwnQ .i32 T base (.slice a n c) l w) : Plain a := by
  rcases h with ⟨e, -⟩ | ⟨g, off, cap, cs, e, -⟩
  · injection e with e1
    subst e1
    exact plain_none
  · injection e with e1
    subst e1
    intro p hp
    cases hp
    rfl
theorem LaG.put {c mb m : Nat} {ps : List Ent} {e : Ent} {v : Value} {W w wa : World} {a : Option Addr} {cc : Nat} (h : LaG c mb m ps ps v W w) (hb : Below w.heap.size w wa) (hq : OwnQ .i32 42 w.heap.size (.slice a e.2.length cc) e.2 wa) (hk : 0 ≤ e.1 ∧ e.1 ≤ 15) (hm : 1 ≤ m) (hl : e.2.length ≤ 10) :
    Calls Try.prog 6 #[.pointer (some ⟨c, 0, none⟩), .int .i64 e.1, .slice a e.2.length cc] wa fun r w' => (∃ i b, r = .returned (.tuple #[.int .i64 i, .bool b])) ∧ LaP c mb m ps e v (.slice a e.2.length cc) W w' := by
  obtain ⟨⟨M, G, Bs, x, h1, h2, h3, h4, h5, h6, h7⟩, hbw, hmb, ho⟩ := h
  obtain ⟨a', c', hv, hp, hn, hown⟩ := hq.shape
  injection hv with hv1 hv2 hv3
  subst hv1 hv3
  have hpl := plain_of hq
  have hnew : ∀ p o, a = some ⟨p, o, none⟩ → w.heap.size ≤ p ∧ p < wa.heap.size := fun p o e9 => by
    have := hq.own p (hown p o e9)
    exact ⟨this.1, this.2.1⟩
  refine (put_any e.1 (by omega) a e.2.length cc e.2 wa (h1.below hb) hp hn (by omega) (fun _ p o e9 hpm => ?_)).mono ?_
  · have := h1.lt.1 p hpm
    have := (hnew p o e9).1
    omega
  · rintro r w' ⟨M', G', rfl, k1, k2, k3, k4⟩
    have hMn : ∀ q, q < w.heap.size → q ∉ M → q ∉ M' := fun q hq1 hq2 hq3 => (k3 q hq3).elim hq2 (fun h9 => by have := hb.size; omega)
    have hGn : ∀ q, q < w.heap.size → q ∉ G → q ∉ G' := fun q hq1 hq2 hq3 => (k4 q hq3).elim hq2 (fun h9 => by have := hb.size; omega)
    have hmlt := h5.lt
    have hwa : Below W.heap.size W wa := hbw.trans (hb.mono hbw.size)
    have hlo : ∀ q, v.ownBlock = some q → q < w.heap.size := fun q hq => (World.ownsRow.lt ho q hq).2
    refine ⟨⟨_, _, rfl⟩, ⟨M', G', Bs, _, k1, fun p hp => (k3 p hp).elim (h2 p) (fun h9 => Nat.le_trans hwa.size h9), by rw [most_put]; exact h3, ?_, ?_, ⟨hMn mb hmlt h6.1, hGn mb hmlt h6.2.1, fun q hq => hMn q (h5.2 q hq).2 (h6.2.2 q hq)⟩, fun q hq => ⟨hMn q (hlo q hq) (h7 q hq).1, hGn q (hlo q hq) (h7 q hq).2.1, (h7 q hq).2.2⟩, a, cc, rfl, hpl, ?_, fun p o e9 => ?_⟩, k2.below h2 hwa hwa.size, hmb, ?_⟩
    · rw [allU_snoc]
      exact tail_put h4 h3 (allU_nodup _) (by omega) hm
    · exact (h5.keptB (KeepB.of_below (L := []) hb) (by simp) (fun _ _ => by simp)).keptB k2 h6.1 h6.2.2
    · refine PairsIn.blocks hp k2.size (fun p o e9 hplt => k2.block p hplt (fun hpm => ?_))
      have := h1.lt.1 p hpm
      have := (hnew p o e9).1
      omega
    · obtain ⟨hn1, hn2⟩ := hnew p o e9
      refine ⟨fun hpm => (k3 p hpm).elim (fun h9 => by have := h1.lt.1 p h9; omega) (fun h9 => by omega), Nat.lt_of_lt_of_le hn2 k2.size, fun e8 => by omega, fun e8 => by have := hlo p e8; omega⟩
    · exact OwnI.movedB (ho.belowAll hb) (fun q hq => k2.block q (Nat.lt_of_lt_of_le (hlo q hq) hb.size) (h7 q hq).1)
theorem LaP.store {c mb m : Nat} {ps : List Ent} {e : Ent} {v lv : Value} {W w : World} (h : LaP c mb m ps e v lv W w) (hk : 0 ≤ e.1 ∧ e.1 ≤ 15) (hc : ps.length ≤ 1000000) :
    ∃ w', (Instr.mapUpdate 26 (.map (some mb)) (.int .i64 e.1) lv).run Try.prog w = .ok () w' ∧ LaG c mb m (ps ++ [e]) ps v W w' := by
  obtain ⟨⟨M, G, Bs, x, h1, h2, h3, h4, h5, h6, h7, a, cc, rfl, hpl, hp, h8⟩, hbw, hmb, ho⟩ := h
  obtain ⟨Cs, hCs⟩ : ∃ Cs : List Nat, Cs = a.toList.map (·.block) := ⟨_, rfl⟩
  have hC1 : ∀ p o, a = some ⟨p, o, none⟩ → p ∈ Cs := fun p o e9 => by rw [hCs, e9]; simp
  have hC2 : ∀ q ∈ Cs, ∃ o, a = some ⟨q, o, none⟩ := fun q hq => by
    cases a with
    | none => rw [hCs] at hq; cases hq
    | some p =>
      obtain ⟨b, o, s⟩ := p
      have : s = none := hpl _ rfl
      subst this
      rw [hCs] at hq
      obtain rfl : q = b := by simpa using hq
      exact ⟨o, rfl⟩
  obtain ⟨w', hrun, k1, k2⟩ := h5.put (e := e) (by omega) hc hpl hp (Cs := Cs) hC1 (fun q hq => by
    obtain ⟨o, e9⟩ := hC2 q hq
    exact ⟨(h8 q o e9).2.2.1, (h8 q o e9).2.1⟩)
  have hkb := KeepB.of_grown k2
  refine ⟨w', hrun, ⟨M, G, Bs ++ Cs, x, h1.keptB hkb (fun p hp e9 => h6.1 (by rw [← (by simpa using e9 : p = mb)]; exact hp)) (fun p hp e9 => h6.2.1 (by rw [← (by simpa using e9 : p = mb)]; exact hp)), h2, h3, h4, ?_, ⟨h6.1, h6.2.1, fun q hq => ?_⟩, fun q hq => ⟨(h7 q hq).1, (h7 q hq).2.1, (h7 q hq).2.2.1, fun hq2 => ?_⟩⟩, hkb.below (fun i hi => by rw [(by simpa using hi : i = mb)]; exact hmb) hbw hbw.size, hmb, OwnI.movedB ho (fun q hq => hkb.block q (World.ownsRow.lt ho q hq).2 (fun e9 => (h7 q hq).2.2.1 (by simpa using e9)))⟩
  · rw [allU_snoc, List.length_append]
    exact k1
  · rcases List.mem_append.1 hq with hq | hq
    · exact h6.2.2 q hq
    · obtain ⟨o, e9⟩ := hC2 q hq
      exact (h8 q o e9).1
  · rcases List.mem_append.1 hq2 with hq2 | hq2
    · exact (h7 q hq).2.2.2 hq2
    · obtain ⟨o, e9⟩ := hC2 q hq2
      exact (h8 q o e9).2.2.2 hq
theorem LaG.push {c mb m : Nat} {p1 p2 : List Ent} {e : Ent} {v v' : Value} {W w w' : World} (h : LaG c mb m p1 p2 v W w) (ho' : OwnI W.heap.size v' (p2.map (·.1) ++ [e.1]) w') (hg : w.grownBy w' v.ownBlock) (hb' : ∀ q, v'.ownBlock = some q → v.ownBlock = some q ∨ w.heap.size ≤ q) : LaG c mb m p1 (p2 ++ [e]) v' W w' := by
  obtain ⟨⟨M, G, Bs, x, h1, h2, h3, h4, h5, h6, h7⟩, hbw, hmb, ho⟩ := h
  have hkb : KeepB v.ownBlock.toList w w' := keepB_grown hg
  have hv : ∀ q, q ∈ v.ownBlock.toList → v.ownBlock = some q := fun q hq => by simpa using hq
  refine ⟨⟨M, G, Bs, x, h1.keptB hkb (fun p hp e9 => (h7 p (hv p e9)).1 hp) (fun p hp e9 => (h7 p (hv p e9)).2.1 hp), h2, h3, h4, h5.keptB hkb (fun e9 => (h7 mb (hv mb e9)).2.2.1 rfl) (fun q hq e9 => (h7 q (hv q e9)).2.2.2 hq), h6, fun q hq => ?_⟩, hkb.below (fun i hi => (World.ownsRow.lt ho i (hv i hi)).1) hbw hbw.size, hmb, by rw [List.map_append]; exact ho'⟩
  rcases hb' q hq with h9 | h9
  · exact h7 q h9
  · exact ⟨fun hm => by have := h1.lt.1 q hm; omega, fun hm => by have := (h1.lt.2 q hm).2; omega, fun e9 => by have := h5.lt; omega, fun hm => by have := (h5.2 q hm).2; omega⟩
/-- how a line that was put is told -/
theorem LaG.peek {c mb m : Nat} {p1 p2 : List Ent} {v : Value} {W w : World} (h : LaG c mb m p1 p2 v W w) {A B : List Ent} {e : Ent} (he : allU p1 = A ++ e :: B) (hk : 0 ≤ e.1 ∧ e.1 ≤ 15) :
    Calls Try.prog 7 #[.pointer (some ⟨c, 0, none⟩), .int .i64 e.1] w fun r w' => Below w.heap.size w w' ∧ ((B.length < m ∧ ∃ a cc, r = .returned (.tuple #[.slice a e.2.length cc, .bool true]) ∧ PairsIn .i32 a e.2.length cc e.2 w') ∨ (m ≤ B.length ∧ ∃ a cc, r = .returned (.tuple #[.slice a 0 cc, .bool false]))) := by
  obtain ⟨⟨M, G, Bs, x, h1, h2, h3, h4, -⟩, -⟩ := h
  have hn := allU_nodup p1
  rw [he] at h4 hn
  have hf := tail_find h4 hn
  refine (peek_any e.1 (by omega) w h1).mono ?_
  rintro r w' ⟨v', rfl, k1, k2⟩
  obtain ⟨a, cc, rfl, k3, -⟩ := k1.shape
  rw [hf] at k3 ⊢
  refine ⟨k2, ?_⟩
  by_cases hlt : B.length < m
  · rw [if_pos hlt] at k3 ⊢
    exact .inl ⟨hlt, a, cc, rfl, k3⟩
  · rw [if_neg hlt] at k3 ⊢
    exact .inr ⟨by omega, a, cc, rfl⟩
theorem LaG.last {c mb m : Nat} {p1 p2 : List Ent} {v : Value} {W w : World} (h : LaG c mb m p1 p2 v W w) {A B : List Ent} {e : Ent} (he : allU p1 = A ++ e :: B) (hk : 0 ≤ e.1 ∧ e.1 ≤ 15) :
    ∃ a cc, (Instr.lookup 26 (.map (some mb)) (.int .i64 e.1) false).run Try.prog w = .ok (.slice a e.2.length cc) w ∧ PairsIn .i32 a e.2.length cc e.2 w := by
  obtain ⟨⟨M, G, Bs, x, h1, h2, h3, h4, h5, -⟩, -⟩ := h
  exact h5.look (by rw [he]; simp) (by omega)
theorem foldU_len : ∀ (ps U : List Ent), (ps.foldl updU U).length ≤ U.length + ps.length
  | [], U => by simp
  | y :: ps, U => by
    have h1 := foldU_len ps (updU U y)
    have h2 : (updU U y).length ≤ U.length + 1 := by
      have := List.length_filter_le (fun x : Ent => !(x.1 == y.1)) U
      unfold updU dropC
      simp
      omega
    show (ps.foldl updU (updU U y)).length ≤ _
    simp
    omega
theorem allU_len (ps : List Ent) : (allU ps).length ≤ ps.length := by
  have := foldU_len ps []
  simpa [allU] using this
end Go.Proofs.Ytkdkhphpknnceaa.C
