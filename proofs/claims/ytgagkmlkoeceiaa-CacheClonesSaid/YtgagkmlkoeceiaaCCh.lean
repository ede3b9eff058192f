/- A cache as a value, and in memory; what a line more, and one less, makes of it. -/
import Derived.Test.YtgagkmlkoeceiaaCMem
namespace Go.Proofs.Ytgagkmlkoeceiaa.C
open Go.RowKit Go.Maps Go.Proofs.Ytgagkmlkoeceiaa.H

/-- a line, as it lies in a block -/
structure Nd where
  b : Nat
  i : Int
  a : Option Addr
  n : Nat
  c : Nat
  g : List (Int × Int)
def IsLine (b : Nat) (w : World) : Prop := ∃ cs, w.heap[b]? = some (.cells cs 72 (0, 0)) ∧ cs.size = 4
theorem IsLine.lt {b : Nat} {w : World} (h : IsLine b w) : b < w.heap.size := by
  obtain ⟨cs, h, -⟩ := h
  exact (Array.getElem?_eq_some_iff.1 h).1
theorem IsLine.of_block {b : Nat} {w w' : World} (h : IsLine b w) (hb : w'.heap[b]? = w.heap[b]?) : IsLine b w' := by
  obtain ⟨cs, h, h2⟩ := h
  exact ⟨cs, hb.trans h, h2⟩
theorem IsLine.set {b : Nat} {w : World} (h : IsLine b w) (p : Addr) (v : Value) : IsLine b (w.setCell p v) := by
  obtain ⟨cs, h, h2⟩ := h
  by_cases e : p.block = b
  · subst e
    refine ⟨if p.spot.isSome = true then cs else cs.setIfInBounds p.off v, ?_, by split <;> simp [h2]⟩
    simp [World.setCell, Array.getElem?_modify, h]
  · exact ⟨cs, (Below.heap_setCell w p v b (fun e' => e e'.symm)).trans h, h2⟩
theorem IsLine.cell {b : Nat} {w : World} (h : IsLine b w) (k : Nat) (hk : k < 4) : ∃ v, w.cell? ⟨b, k, none⟩ = some v := by
  obtain ⟨cs, h, h2⟩ := h
  rw [cell_block h]
  exact ⟨_, Array.getElem?_eq_getElem (by omega)⟩
theorem IsLine.frozen {b : Nat} {w : World} (h : IsLine b w) (k : Nat) : w.frozen? ⟨b, k, none⟩ = false := by
  obtain ⟨cs, h, -⟩ := h
  exact frozen_block h k
theorem IsLine.wrote {b : Nat} {w : World} (h : IsLine b w) (k : Nat) (hk : k < 4) (v : Value) : (w.setCell ⟨b, k, none⟩ v).cell? ⟨b, k, none⟩ = some v := by
  obtain ⟨u, hu⟩ := h.cell k hk
  exact World.cell?_setCell_same w _ v hu
theorem cell_other {w : World} {b k b' k' : Nat} (v : Value) (h : b ≠ b' ∨ k ≠ k') : (w.setCell ⟨b, k, none⟩ v).cell? ⟨b', k', none⟩ = w.cell? ⟨b', k', none⟩ :=
  World.cell?_setCell_other w _ _ v (fun e => by injection e with e1 e2; rcases h with h | h <;> contradiction)
/-- what a line's block says of it -/
structure NdAt (x : Nd) (w : World) : Prop where
  c0 : w.cell? ⟨x.b, 0, none⟩ = some (.int .i64 x.i)
  c1 : w.cell? ⟨x.b, 1, none⟩ = some (.slice x.a x.n x.c)
  pr : PairsIn .i32 x.a x.n x.c x.g w
  nl : x.a = none → x.c = 0
theorem PairsIn.blocks {rk : IntKind} {a : Option Addr} {n c : Nat} {gs : List (Int × Int)} {w w' : World} (h : PairsIn rk a n c gs w) (hs : w.heap.size ≤ w'.heap.size) (hk : ∀ b off, a = some ⟨b, off, none⟩ → b < w.heap.size → w'.heap[b]? = w.heap[b]?) : PairsIn rk a n c gs w' := by
  refine ⟨h.len, h.fit, h.top, h.at_.imp id ?_⟩
  rintro ⟨b, off, ha, hl, hi⟩
  have hk' := hk b off ha hl
  exact ⟨b, off, ha, Nat.lt_of_lt_of_le hl hs, fun i u hu => ⟨(World.cell?_of_block (a := ⟨b, off + i * 2, none⟩) hk').trans (hi i u hu).1, (World.cell?_of_block (a := ⟨b, off + i * 2 + 1, none⟩) hk').trans (hi i u hu).2⟩⟩
/-- a cache's lines, eldest first, and its most -/
structure Ca where
  most : Nat
  L : List (Int × List (Int × Int))
def entN (ns : List Nd) : List (Int × Nat) := ns.map fun x => (x.i, x.b)
def blkN (ns : List Nd) : List Nat := ns.map (·.b)
/-- the lines in their ring, and the map; M: the blocks that calls change; G: the glyphs' -/
structure ChAt (c m e : Nat) (M G : List Nat) (most : Nat) (ns : List Nd) (w : World) : Prop where
  cb : w.heap[c]? = some (.cells #[.int .i64 (most : Int), .map (some m), .pointer (some ⟨e, 0, none⟩)] 50 (0, 0))
  mp : MapN m (entN ns) w
  ln : ∀ b ∈ e :: blkN ns, IsLine b w
  lk : Links w (e :: blkN ns ++ [e])
  nd : (e :: blkN ns).Nodup
  num : (ns.map (·.i)).Nodup
  ct : ∀ x ∈ ns, NdAt x w
  wf : ∀ x ∈ ns, 0 ≤ x.i ∧ x.i ≤ 1152921504606846976 ∧ x.g.length ≤ 1000000
  few : ns.length ≤ 65537
  off : ∀ x ∈ ns, ∀ p o, x.a = some ⟨p, o, none⟩ → p ∈ G
  apart : ∀ p ∈ G, p ∉ M ∧ p < w.heap.size
  cm : c ∈ M
  mm : m ∈ M
  lm : ∀ b ∈ e :: blkN ns, b ∈ M
  lt : ∀ p ∈ M, p < w.heap.size
section
variable {c m e : Nat} {M G : List Nat} {most : Nat} {ns : List Nd} {w w' : World}
theorem ChAt.moved (h : ChAt c m e M G most ns w) (hs : w.heap.size ≤ w'.heap.size) (hM : ∀ p ∈ M, w'.heap[p]? = w.heap[p]?) (hG : ∀ p ∈ G, w'.heap[p]? = w.heap[p]?) : ChAt c m e M G most ns w' := by
  have hc : ∀ b ∈ e :: blkN ns, ∀ k, w'.cell? ⟨b, k, none⟩ = w.cell? ⟨b, k, none⟩ := fun b hb k => World.cell?_of_block (a := ⟨b, k, none⟩) (hM b (h.lm b hb))
  refine ⟨(hM c h.cm).trans h.cb, h.mp.of_block (hM m h.mm), fun b hb => (h.ln b hb).of_block (hM b (h.lm b hb)), Links.congr _ (fun u hu => ?_) (fun v hv => ?_) h.lk, h.nd, h.num, fun x hx => ?_, h.wf, h.few, h.off, fun p hp => ⟨(h.apart p hp).1, Nat.lt_of_lt_of_le (h.apart p hp).2 hs⟩, h.cm, h.mm, h.lm, fun p hp => Nat.lt_of_lt_of_le (h.lt p hp) hs⟩
  · rw [List.dropLast_concat] at hu
    exact hc u hu 3
  · have hv' : v ∈ blkN ns ++ [e] := hv
    have hv2 : v ∈ e :: blkN ns := by
      rcases List.mem_append.1 hv' with h9 | h9
      · exact List.mem_cons_of_mem _ h9
      · have : v = e := by simpa using h9
        rw [this]
        simp
    exact hc v hv2 2
  · have hb : x.b ∈ e :: blkN ns := List.mem_cons_of_mem _ (List.mem_map.2 ⟨x, hx, rfl⟩)
    have h9 := h.ct x hx
    exact ⟨(hc _ hb 0).trans h9.c0, (hc _ hb 1).trans h9.c1, PairsIn.blocks h9.pr hs (fun b off ha _ => hG b (h.off x hx b off ha)), h9.nl⟩
theorem ChAt.below (h : ChAt c m e M G most ns w) (hb : Below w.heap.size w w') : ChAt c m e M G most ns w' := h.moved hb.size (fun p hp => hb.block p (h.lt p hp)) (fun p hp => hb.block p (h.apart p hp).2)
theorem ChAt.keptB {L : List Nat} (h : ChAt c m e M G most ns w) (hb : KeepB L w w') (h1 : ∀ p ∈ M, p ∉ L) (h2 : ∀ p ∈ G, p ∉ L) : ChAt c m e M G most ns w' := h.moved hb.size (fun p hp => hb.block p (h.lt p hp) (h1 p hp)) (fun p hp => hb.block p (h.apart p hp).2 (h2 p hp))
theorem ChAt.cNotLine (h : ChAt c m e M G most ns w) {b : Nat} (hb : IsLine b w) : b ≠ c := by
  rintro rfl
  obtain ⟨cs, hb, -⟩ := hb
  rw [h.cb] at hb
  injection hb with hb
  injection hb with _ hb
  exact absurd hb (by decide)
theorem ChAt.mNotLine (h : ChAt c m e M G most ns w) {b : Nat} (hb : IsLine b w) : b ≠ m := by
  rintro rfl
  obtain ⟨cs, hb, -⟩ := hb
  exact h.mp.notCells _ _ _ hb
theorem ChAt.cNotMap (h : ChAt c m e M G most ns w) : c ≠ m := by
  rintro rfl
  exact h.mp.notCells _ _ _ h.cb
theorem ChAt.c0 (h : ChAt c m e M G most ns w) : w.cell? ⟨c, 0, none⟩ = some (.int .i64 (most : Int)) := by rw [cell_block h.cb]; rfl
theorem ChAt.c1 (h : ChAt c m e M G most ns w) : w.cell? ⟨c, 1, none⟩ = some (.map (some m)) := by rw [cell_block h.cb]; rfl
theorem ChAt.c2 (h : ChAt c m e M G most ns w) : w.cell? ⟨c, 2, none⟩ = some (.pointer (some ⟨e, 0, none⟩)) := by rw [cell_block h.cb]; rfl
end
/-- what a change of links keeps -/
structure Relinked (L : List Nat) (w w' : World) : Prop where
  size : w.heap.size = w'.heap.size
  line : ∀ b, IsLine b w → IsLine b w'
  c01 : ∀ b k, k < 2 → w'.cell? ⟨b, k, none⟩ = w.cell? ⟨b, k, none⟩
  keep : KeepB L w w'
theorem Relinked.below {L : List Nat} {w w' : World} (h : Below w.heap.size w w') (hs : w.heap.size = w'.heap.size) : Relinked L w w' := by
  have hb : ∀ b, w'.heap[b]? = w.heap[b]? := fun b => by
    by_cases e : b < w.heap.size
    · exact h.block b e
    · rw [Array.getElem?_eq_none (by omega), Array.getElem?_eq_none (by omega)]
  exact ⟨hs, fun b hl => hl.of_block (hb b), fun b k _ => World.cell?_of_block (a := ⟨b, k, none⟩) (hb b), KeepB.of_below h⟩
theorem Relinked.set {L : List Nat} {w w' : World} (h : Relinked L w w') {b k : Nat} (hb : b ∈ L) (hk : 2 ≤ k) (v : Value) : Relinked L w (w'.setCell ⟨b, k, none⟩ v) :=
  ⟨by rw [h.size]; simp [World.setCell], fun x hx => (h.line x hx).set _ _, fun x j hj => (cell_other v (.inr (by omega))).trans (h.c01 x j hj), h.keep.trans ((KeepB.setCell v).mono (fun p hp => by rw [show p = b by simpa using hp]; exact hb))⟩
section
variable {c m e : Nat} {M G L : List Nat} {most : Nat} {ns ns' : List Nd} {w w' w2 : World}
theorem ChAt.turned (h : ChAt c m e M G most ns w) (r : Relinked L w w') (hL : ∀ b ∈ L, IsLine b w ∧ b ∈ M) (g : w'.grownBy w2 (some m)) (mp : MapN m (entN ns') w2)
    (hns : ∀ y ∈ ns', NdAt y w ∧ IsLine y.b w ∧ y.b ∈ M ∧ (0 ≤ y.i ∧ y.i ≤ 1152921504606846976 ∧ y.g.length ≤ 1000000) ∧ ∀ p o, y.a = some ⟨p, o, none⟩ → p ∈ G)
    (lk : Links w' (e :: blkN ns' ++ [e])) (nd : (e :: blkN ns').Nodup) (num : (ns'.map (·.i)).Nodup) (few : ns'.length ≤ 65537) : ChAt c m e M G most ns' w2 := by
  have hmL : m ∉ L := fun hm => h.mNotLine (hL m hm).1 rfl
  have hcL : c ∉ L := fun hm => h.cNotLine (hL c hm).1 rfl
  have hml : ∀ b, IsLine b w → b ≠ m := fun b hb => h.mNotLine hb
  have hlt : ∀ b, b < w.heap.size → b ≠ m → w2.heap[b]? = w'.heap[b]? := fun b hb hm => g.block b (by rw [← r.size]; exact hb) (fun e => hm (by injection e))
  have hlb : ∀ b, IsLine b w → w2.heap[b]? = w'.heap[b]? := fun b hb => hlt b hb.lt (hml b hb)
  have he : IsLine e w := h.ln e (by simp)
  have hln : ∀ b ∈ e :: blkN ns', IsLine b w ∧ b ∈ M := fun b hb => by
    rcases List.mem_cons.1 hb with rfl | hb
    · exact ⟨he, h.lm _ (by simp)⟩
    · obtain ⟨y, hy, rfl⟩ := List.mem_map.1 hb
      exact ⟨(hns y hy).2.1, (hns y hy).2.2.1⟩
  have hsz : w.heap.size ≤ w2.heap.size := by rw [r.size]; exact g.size
  refine ⟨?_, mp, fun b hb => (r.line b (hln b hb).1).of_block (hlb b (hln b hb).1), Links.congr _ (fun u hu => ?_) (fun v hv => ?_) lk, nd, num, fun y hy => ?_, fun y hy => (hns y hy).2.2.2.1, few, fun y hy => (hns y hy).2.2.2.2, fun p hp => ⟨(h.apart p hp).1, Nat.lt_of_lt_of_le (h.apart p hp).2 hsz⟩, h.cm, h.mm, fun b hb => (hln b hb).2, fun p hp => Nat.lt_of_lt_of_le (h.lt p hp) hsz⟩
  · have hc := (Array.getElem?_eq_some_iff.1 h.cb).1
    rw [hlt c hc h.cNotMap, r.keep.block c hc hcL]
    exact h.cb
  · rw [List.dropLast_concat] at hu
    exact World.cell?_of_block (a := ⟨u, 3, none⟩) (hlb u (hln u hu).1)
  · have hv' : v ∈ blkN ns' ++ [e] := hv
    have hv2 : v ∈ e :: blkN ns' := by
      rcases List.mem_append.1 hv' with h9 | h9
      · exact List.mem_cons_of_mem _ h9
      · have : v = e := by simpa using h9
        rw [this]
        simp
    exact World.cell?_of_block (a := ⟨v, 2, none⟩) (hlb v (hln v hv2).1)
  · obtain ⟨h1, h2, -, -, h3⟩ := hns y hy
    exact ⟨(World.cell?_of_block (a := ⟨y.b, 0, none⟩) (hlb _ h2)).trans ((r.c01 _ 0 (by decide)).trans h1.c0), (World.cell?_of_block (a := ⟨y.b, 1, none⟩) (hlb _ h2)).trans ((r.c01 _ 1 (by decide)).trans h1.c1),
      PairsIn.blocks h1.pr hsz (fun b off ha hb => by
        have hg := h3 b off ha
        rw [hlt b hb (fun e9 => (h.apart b hg).1 (e9 ▸ h.mm))]
        exact r.keep.block b hb (fun hm => (h.apart b hg).1 (hL b hm).2)), h1.nl⟩
theorem ChAt.more (h : ChAt c m e M G most ns w) {M2 G2 : List Nat} (h1 : ∀ p ∈ M2, p ∉ G ∧ p ∉ G2 ∧ p < w.heap.size) (h2 : ∀ p ∈ G2, p ∉ M ∧ p < w.heap.size) : ChAt c m e (M ++ M2) (G ++ G2) most ns w :=
  ⟨h.cb, h.mp, h.ln, h.lk, h.nd, h.num, h.ct, h.wf, h.few, fun x hx p o ha => List.mem_append_left _ (h.off x hx p o ha), fun p hp => by
    rcases List.mem_append.1 hp with hp | hp
    · refine ⟨fun hm => ?_, (h.apart p hp).2⟩
      rcases List.mem_append.1 hm with hm | hm
      · exact (h.apart p hp).1 hm
      · exact (h1 p hm).1 hp
    · refine ⟨fun hm => ?_, (h2 p hp).2⟩
      rcases List.mem_append.1 hm with hm | hm
      · exact (h2 p hp).1 hm
      · exact (h1 p hm).2.1 hp, List.mem_append_left _ h.cm, List.mem_append_left _ h.mm, fun b hb => List.mem_append_left _ (h.lm b hb), fun p hp => by
    rcases List.mem_append.1 hp with hp | hp
    · exact h.lt p hp
    · exact (h1 p hp).2.2⟩
theorem entN_append (a b : List Nd) : entN (a ++ b) = entN a ++ entN b := List.map_append
theorem blkN_append (a b : List Nd) : blkN (a ++ b) = blkN a ++ blkN b := List.map_append
/-- what is said of a line that is not there, or of one that is -/
def Own1 (M G : List Nat) (y : Nd) (w : World) : Prop := NdAt y w ∧ IsLine y.b w ∧ y.b ∈ M ∧ (0 ≤ y.i ∧ y.i ≤ 1152921504606846976 ∧ y.g.length ≤ 1000000) ∧ ∀ p o, y.a = some ⟨p, o, none⟩ → p ∈ G
theorem ChAt.own1 (h : ChAt c m e M G most ns w) {y : Nd} (hy : y ∈ ns) : Own1 M G y w := by
  have hb : y.b ∈ e :: blkN ns := List.mem_cons_of_mem _ (List.mem_map.2 ⟨y, hy, rfl⟩)
  exact ⟨h.ct y hy, h.ln _ hb, h.lm _ hb, h.wf y hy, h.off y hy⟩
/-- the four stores of join -/
def joinW (x p e : Nat) (w : World) : World := (((w.setCell ⟨x, 2, none⟩ (.pointer (some ⟨p, 0, none⟩))).setCell ⟨x, 3, none⟩ (.pointer (some ⟨e, 0, none⟩))).setCell ⟨p, 3, none⟩ (.pointer (some ⟨x, 0, none⟩))).setCell ⟨e, 2, none⟩ (.pointer (some ⟨x, 0, none⟩))
theorem ChAt.joined (h : ChAt c m e M G most ns w) {x : Nd} (hx : Own1 M G x w) (hn : x.b ∉ e :: blkN ns) (hi : ∀ y ∈ ns, y.i ≠ x.i) (few : ns.length ≤ 65536) {A : List Nat} {p : Nat} (hA : e :: blkN ns = A ++ [p])
    (hw : w' = joinW x.b p e w) (g : w'.grownBy w2 (some m)) (mp : MapN m (entN ns ++ [(x.i, x.b)]) w2) : ChAt c m e M G most (ns ++ [x]) w2 ∧ KeepB M w w2 := by
  have hp : p ∈ e :: blkN ns := by rw [hA]; simp
  have hxe : x.b ≠ e := fun e9 => hn (by rw [e9]; simp)
  have hxp : x.b ≠ p := fun e9 => hn (e9 ▸ hp)
  have hlp := h.ln p hp
  have hle := h.ln e (by simp)
  have r0 : Relinked [x.b, p, e] w w := Relinked.below (Below.refl _ _) rfl
  have r1 := r0.set (b := x.b) (k := 2) (by simp) (by decide) (.pointer (some ⟨p, 0, none⟩))
  have r2 := r1.set (b := x.b) (k := 3) (by simp) (by decide) (.pointer (some ⟨e, 0, none⟩))
  have r3 := r2.set (b := p) (k := 3) (by simp) (by decide) (.pointer (some ⟨x.b, 0, none⟩))
  have r4 := r3.set (b := e) (k := 2) (by simp) (by decide) (.pointer (some ⟨x.b, 0, none⟩))
  have hL : ∀ b ∈ [x.b, p, e], IsLine b w ∧ b ∈ M := fun b hb => by
    simp only [List.mem_cons, List.not_mem_nil, or_false] at hb
    rcases hb with rfl | rfl | rfl
    · exact ⟨hx.2.1, hx.2.2.1⟩
    · exact ⟨hlp, h.lm _ hp⟩
    · exact ⟨hle, h.lm _ (by simp)⟩
  have hkeep : KeepB M w w2 := (r4.keep.mono (fun b hb => (hL b hb).2)).trans ⟨by rw [g.os, hw]; rfl, by rw [g.tape, hw]; rfl, by rw [g.output, hw]; rfl, by have := g.size; rw [hw] at this; exact this, fun b hb hm => by
    have := g.block b (by rw [hw]; exact hb) (fun e9 => hm (by injection e9 with e9; rw [e9]; exact h.mm))
    rw [hw] at this
    exact this⟩
  subst hw
  refine ⟨h.turned r4 hL g (by rw [entN_append]; exact mp) (fun y hy => ?_) ?_ ?_ ?_ (by simp; omega), hkeep⟩
  · rcases List.mem_append.1 hy with hy | hy
    · exact h.own1 hy
    · rw [show y = x by simpa using hy]
      exact hx
  · have hbe : blkN (ns ++ [x]) = blkN ns ++ [x.b] := blkN_append _ _
    rw [hbe]
    refine Links.join h.lk h.nd hA hn ?_ ?_ ?_ ?_ (fun u h1 h2 => ?_) (fun u h1 h2 => ?_)
    · exact (cell_other _ (.inr (by decide))).trans ((cell_other _ (.inl (Ne.symm hxp))).trans ((r1.line _ hx.2.1).wrote 3 (by decide) _))
    · exact (cell_other _ (.inl (Ne.symm hxe))).trans ((cell_other _ (.inr (by decide))).trans ((cell_other _ (.inr (by decide))).trans ((r0.line _ hx.2.1).wrote 2 (by decide) _)))
    · exact (cell_other _ (.inr (by decide))).trans ((r2.line _ hlp).wrote 3 (by decide) _)
    · exact (r3.line _ hle).wrote 2 (by decide) _
    · exact (cell_other _ (.inr (by decide))).trans ((cell_other _ (.inl (Ne.symm h2))).trans ((cell_other _ (.inl (Ne.symm h1))).trans (cell_other _ (.inr (by decide)))))
    · exact (cell_other _ (.inl (Ne.symm h2))).trans ((cell_other _ (.inr (by decide))).trans ((cell_other _ (.inr (by decide))).trans (cell_other _ (.inl (Ne.symm h1)))))
  · have hbe : e :: blkN (ns ++ [x]) = (e :: blkN ns) ++ [x.b] := by rw [blkN_append]; rfl
    rw [hbe]
    exact List.nodup_append.2 ⟨h.nd, by simp, fun a ha b hb e9 => hn (by rw [← (by simpa using hb : b = x.b), ← e9]; exact ha)⟩
  · rw [List.map_append]
    exact List.nodup_append.2 ⟨h.num, by simp, fun a ha b hb e9 => by
      obtain ⟨y, hy, rfl⟩ := List.mem_map.1 ha
      have hb' : b = x.i := by simpa using hb
      exact hi y hy (e9.trans hb')⟩
/-- the two stores of leave -/
def leaveW (p q : Nat) (w : World) : World := (w.setCell ⟨p, 3, none⟩ (.pointer (some ⟨q, 0, none⟩))).setCell ⟨q, 2, none⟩ (.pointer (some ⟨p, 0, none⟩))
theorem ChAt.left {ls cs : List Nd} {x : Nd} (h : ChAt c m e M G most (ls ++ x :: cs) w) {A B : List Nat} {p q : Nat} (hA : e :: blkN ls = A ++ [p]) (hB : blkN cs ++ [e] = q :: B)
    (hw : w' = leaveW p q w) (g : w'.grownBy w2 (some m)) (mp : MapN m (entN ls ++ entN cs) w2) : ChAt c m e M G most (ls ++ cs) w2 ∧ KeepB M w w2 ∧ Own1 M G x w2 := by
  have hbx : blkN (ls ++ x :: cs) = blkN ls ++ x.b :: blkN cs := by rw [blkN_append]; rfl
  have hp : p ∈ e :: blkN (ls ++ x :: cs) := by
    have : p ∈ e :: blkN ls := by rw [hA]; simp
    rw [hbx]
    rcases List.mem_cons.1 this with h9 | h9
    · rw [h9]; simp
    · exact List.mem_cons_of_mem _ (List.mem_append_left _ h9)
  have hq : q ∈ e :: blkN (ls ++ x :: cs) := by
    have : q ∈ blkN cs ++ [e] := by rw [hB]; simp
    rw [hbx]
    rcases List.mem_append.1 this with h9 | h9
    · exact List.mem_cons_of_mem _ (List.mem_append_right _ (List.mem_cons_of_mem _ h9))
    · rw [show q = e by simpa using h9]; simp
  have hlp := h.ln p hp
  have hlq := h.ln q hq
  have r0 : Relinked [p, q] w w := Relinked.below (Below.refl _ _) rfl
  have r1 := r0.set (b := p) (k := 3) (by simp) (by decide) (.pointer (some ⟨q, 0, none⟩))
  have r2 := r1.set (b := q) (k := 2) (by simp) (by decide) (.pointer (some ⟨p, 0, none⟩))
  have hL : ∀ b ∈ [p, q], IsLine b w ∧ b ∈ M := fun b hb => by
    simp only [List.mem_cons, List.not_mem_nil, or_false] at hb
    rcases hb with rfl | rfl
    · exact ⟨hlp, h.lm _ hp⟩
    · exact ⟨hlq, h.lm _ hq⟩
  have hkeep : KeepB M w w2 := (r2.keep.mono (fun b hb => (hL b hb).2)).trans ⟨by rw [g.os, hw]; rfl, by rw [g.tape, hw]; rfl, by rw [g.output, hw]; rfl, by have := g.size; rw [hw] at this; exact this, fun b hb hm => by
    have := g.block b (by rw [hw]; exact hb) (fun e9 => hm (by injection e9 with e9; rw [e9]; exact h.mm))
    rw [hw] at this
    exact this⟩
  subst hw
  have hsub : (e :: blkN (ls ++ cs)).Sublist (e :: blkN (ls ++ x :: cs)) := by
    rw [hbx, blkN_append]
    exact List.Sublist.cons_cons _ (List.Sublist.append (List.Sublist.refl _) (List.sublist_cons_self _ _))
  have hxo := h.own1 (y := x) (by simp)
  have hml : ∀ b, IsLine b w → w2.heap[b]? = (leaveW p q w).heap[b]? := fun b hb => g.block b (by rw [show (leaveW p q w).heap.size = w.heap.size from r2.size.symm]; exact hb.lt) (fun e9 => h.mNotLine hb (by injection e9))
  have hsz : w.heap.size ≤ w2.heap.size := by rw [r2.size]; exact g.size
  refine ⟨h.turned r2 hL g (by rw [entN_append]; exact mp) (fun y hy => h.own1 (by
    rcases List.mem_append.1 hy with hy | hy
    · exact List.mem_append_left _ hy
    · exact List.mem_append_right _ (List.mem_cons_of_mem _ hy))) ?_ (h.nd.sublist hsub) ?_ (by have := h.few; simp at this ⊢; omega), hkeep, ⟨⟨?_, ?_, ?_, hxo.1.nl⟩, (r2.line _ hxo.2.1).of_block (hml _ hxo.2.1), hxo.2.2.1, hxo.2.2.2.1, hxo.2.2.2.2⟩⟩
  · rw [blkN_append]
    have hlk := h.lk
    have hnd := h.nd
    rw [hbx] at hlk hnd
    refine Links.leave hlk hnd hA hB ?_ ?_ (fun u h1 => ?_) (fun u h1 => ?_)
    · exact (cell_other _ (.inr (by decide))).trans ((r0.line _ hlp).wrote 3 (by decide) _)
    · exact (r1.line _ hlq).wrote 2 (by decide) _
    · exact (cell_other _ (.inr (by decide))).trans (cell_other _ (.inl (Ne.symm h1)))
    · exact (cell_other _ (.inl (Ne.symm h1))).trans (cell_other _ (.inr (by decide)))
  · refine h.num.sublist ?_
    rw [List.map_append, List.map_append]
    exact List.Sublist.append (List.Sublist.refl _) (List.sublist_cons_self _ _)
  · exact (World.cell?_of_block (a := ⟨x.b, 0, none⟩) (hml _ hxo.2.1)).trans ((r2.c01 _ 0 (by decide)).trans hxo.1.c0)
  · exact (World.cell?_of_block (a := ⟨x.b, 1, none⟩) (hml _ hxo.2.1)).trans ((r2.c01 _ 1 (by decide)).trans hxo.1.c1)
  · exact PairsIn.blocks hxo.1.pr hsz (fun b off ha hb => hkeep.block b hb (h.apart b (hxo.2.2.2.2 b off ha)).1)
end
end Go.Proofs.Ytgagkmlkoeceiaa.C
