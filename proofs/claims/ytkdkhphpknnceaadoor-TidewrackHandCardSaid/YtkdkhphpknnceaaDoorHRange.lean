/- A loop over an iterator that writes boxes of its own: what the caller keeps abides these writes. -/
import Derived.Test.YtkdkhphpknnceaaDoorHOver
import Derived.RangeFuncNested
import Derived.RangeFuncBound
import Derived.RangeFuncCalls
import Derived.RangeFuncLeaves
import Derived.RangeFuncBox
import Derived.Shelf.Abstract
import Derived.Shelf.RegionOpen
import Derived.OwnWalkIn
import Derived.TacticsInMore
import Derived.LoopNIn
import Derived.LoopIn
namespace Go.Proofs.YtkdkhphpknnceaaDoor.H
open Go.RowKit Go.Shelf

/-- the block of the slice that stands in a box -/
def rowOf (b0 : Nat) (W : World) : Option Nat := (W.cell? ⟨b0, 0, none⟩).bind Value.ownBlock
/-- what the caller keeps abides new blocks, and writes to a span of the iterator's own -/
structure Abid (base b0 : Nat) (J : List Sp → World → Prop) : Prop where
  below : ∀ pre W W', J pre W → Below W.heap.size W W' → J pre W'
  write : ∀ pre W r x1 x2 v', J pre W → base ≤ r → W.heap[r]? = some (.cells #[.int .i64 x1, .int .i64 x2] 38 (0, 0)) → rowOf b0 W ≠ some r → J pre (W.setCell ⟨r, 0, none⟩ v')
/-- what an iterator's caller is told of it: it hands on just these, if each round goes on -/
def Hands (F : Fence) (n : Nat) (P : Program) (gf : Nat) (lb : Array Value) (Kp : World → World → Prop) (T : List Sp) (base b0 : Nat) (w : World) : Prop :=
  ∀ (l : Nat) (J : List Sp → World → Prop) (W : World), Below w.heap.size w W → Abid base b0 J →
    (∀ pre x W1, J pre W1 → pre.length < T.length → YieldAt F (n - 1) P l #[.agg #[.int .i64 x.1, .int .i64 x.2]] W1 fun e W' => e = .returned (.bool true) ∧ J (pre ++ [x]) W' ∧ Kp W1 W') →
    J [] W → CallsIn F n P gf (#[.func (.yield l) #[] #[]] ++ lb) W fun e W' => (∃ v, e = .returned v) ∧ J T W'
variable {F : Fence} {n : Nat} {P : Program}
theorem Below.putObj' {m : Nat} {w W : World} (h : Below m w W) {l : Nat} (o : Obj) (hl : m ≤ l) (hs : m ≤ W.heap.size) : Below m w (W.putObj l o) :=
  h.trans ((Below.refl m W).grown (grownBy_putObj' W l o) (by omega) (fun k e => by cases e; exact hl))
theorem wpIn_rangeFunc_R {g : Operand} {ps : Array Tmp} {assign body : Code} {Q : Exit → Act → World → Prop} {a : Act} {w : World}
    (hro : F.round = none) (h1 : 1 ≤ n) {gf : Nat} {lb : Array Value} (hg : a.eval g = .func (.func gf) #[] lb) (hFg : F.fn gf) (eg : ∀ args w, (callFunc gf args).run P w = .ok (.enter gf args) w)
    {Kp : World → World → Prop} {T : List Sp} {b0 : Nat} (hseq : Hands F (n - 1) P gf lb Kp T w.heap.size b0 w)
    (hKt : ∀ {A B C : World}, Kp A B → Kp B C → Kp A C) (hKb : ∀ (W : World) (l : Nat) (o o' : Obj), w.heap.size ≤ l → W.heap[l]? = some o → o.isCells = false → o.isWalk = false → Kp W (W.putObj l o')) (hps : ps.size = 1)
    (I : List Sp → World → Prop) (hI : Abid w.heap.size b0 I) (hIp : ∀ pre W l o o', I pre W → w.heap.size ≤ l → W.heap[l]? = some o → o.isCells = false → I pre (W.putObj l o')) (h0 : I [] w) (A : Sp → World → Act → World → Prop)
    (hA : ∀ x W a1 W1, A x W a1 W1 → Below W.heap.size W W1) (hKw : ∀ pre W W1, I pre W → Below W.heap.size W W1 → Kp W W1)
    (hassign : ∀ (l : Nat) (x : Sp) (W : World) (K : Act → World → Prop), (∀ a1 W1, A x W a1 W1 → K a1 W1) →
      assign.wpIn (F.inRound l) (n - 1 - 1) P (Exit.then K (fun _ _ _ => False)) { tmps := (ps.zip #[.agg #[.int .i64 x.1, .int .i64 x.2]]).foldl (fun t (p, v) => t.setIfInBounds p v) a.tmps, defers := [] } W)
    (hbody : ∀ (l : Nat) (pre : List Sp) (x : Sp) (W : World) (a1 : Act) (W1 : World) (o o' : Obj), A x W a1 W1 → W1.heap[l]? = some o → o.isCells = false → I pre (W1.putObj l o') → pre.length < T.length → body.wpIn (F.inRound l) (n - 1 - 1) P (ownPostK Kp I (fun _ _ _ => False) (pre ++ [x]) (W1.putObj l o')) a1 (W1.putObj l o'))
    (hdone : ∀ (D : Nat) (W : World), w.heap.size ≤ D → I T W → W.heap[D]? = some (.deferred (some [])) → Q .normal { a with defers := { target := .collected D, args := #[] } :: a.defers } W) :
    (Code.rangeFunc g ps assign body).wpIn F n P Q a w := by
  refine wpIn_rangeFunc ?_
  intro fn hfn
  rw [hro]
  -- the loop's record, and the world that holds it
  let R : LoopState → Option Code → Loop := fun st pe => { state := st, pending := pe, fn, tmps := a.tmps, params := ps, assign, body, defers := w.heap.size }
  let D := w.heap.size
  let l := D + 1
  let V := (w.alloc (.deferred (some []))).alloc (.loop (R .ready none))
  have vD : V.heap[D]? = some (.deferred (some [])) := (Below.heap_alloc _ _ _ (by simp [D])).trans (World.alloc_heap_new w _)
  have vl : V.heap[l]? = some (.loop (R .ready none)) := by
    have h := World.alloc_heap_new (w.alloc (.deferred (some []))) (.loop (R .ready none))
    rwa [World.size_alloc] at h
  have vb : Below w.heap.size w V := ((Below.refl _ w).alloc (Nat.le_refl _) _).alloc (by simp) _
  refine ⟨l, [{ target := .collected D, args := #[] }], V, { target := .fn (.func gf) lb, args := #[.func (.yield l) #[] #[]] }, V, gf, #[.func (.yield l) #[] #[]] ++ lb, V, run_enterLoop_outer _ _ _ _ _, ?_, ?_, ?_, fun _ => h1, ?_⟩
  · simp only [resolve, hg]
    simp [go_sem]
  · intro f' hf'; simp [Target.leads] at hf'; subst hf'; exact hFg
  · simp [invoke, go_sem, eg]
  let J : List Sp → World → Prop := fun pre W => I pre W ∧ W.heap[l]? = some (.loop (R .ready none)) ∧ W.heap[D]? = some (.deferred (some []))
  have hJ : Abid w.heap.size b0 J := ⟨fun pre W W' h hb => ⟨hI.below _ _ _ h.1 hb, (hb.block _ (Array.getElem?_eq_some_iff.1 h.2.1).1).trans h.2.1, (hb.block _ (Array.getElem?_eq_some_iff.1 h.2.2).1).trans h.2.2⟩, fun pre W r x1 x2 v' h hr hx hn => by
    refine ⟨hI.write _ _ _ _ _ _ h.1 hr hx hn, (Below.heap_setCell _ _ _ _ ?_).trans h.2.1, (Below.heap_setCell _ _ _ _ ?_).trans h.2.2⟩
    · intro e; have h3 := h.2.1; rw [show l = r from e, hx] at h3; cases h3
    · intro e; have h3 := h.2.2; rw [show D = r from e, hx] at h3; cases h3⟩
  refine (hseq l J V vb hJ ?_ ⟨hI.below _ _ _ h0 vb, vl, vD⟩).mono ?_
  · rintro pre x W ⟨hi, hl, hD⟩ hlen
    have hlt : l < W.heap.size := (Array.getElem?_eq_some_iff.1 hl).1
    refine ⟨fn, _, assign, body, run_yield (P := P) (args := #[.agg #[.int .i64 x.1, .int .i64 x.2]]) hl (by show _ = ps.size; rw [hps]; rfl), roundIn_of_wpIn hfn (hassign _ x W _ fun a1 W1 ha1 => ?_)⟩
    have hbl := hA _ _ _ _ ha1
    have hKw1 := hKw _ _ _ hi hbl
    replace hi := hI.below _ _ _ hi hbl
    replace hD := (hbl.block _ (Array.getElem?_eq_some_iff.1 hD).1).trans hD
    replace hl := (hbl.block _ hlt).trans hl
    replace hlt : l < W1.heap.size := (Array.getElem?_eq_some_iff.1 hl).1
    refine ⟨_, run_beginRound hl rfl, ?_⟩
    let U := W1.putObj l (.loop { R .ready none with state := .busy })
    have ul : U.heap[l]? = some (.loop { R .ready none with state := .busy }) := World.putObj_heap_same hlt
    have uD : U.heap[D]? = some (.deferred (some [])) := (World.putObj_heap_other (by simp [l])).trans hD
    refine wpIn_mono (hbody l pre x W a1 W1 _ (.loop { R .ready none with state := .busy }) ha1 hl rfl (hIp _ _ _ _ _ hi (by simp [l, D]) hl rfl) hlen) ?_
    rintro e a3 W3 hp
    cases e with
    | normal =>
      obtain ⟨hk3, hkp3, hi3⟩ := hp
      have hl3 := hk3.same _ _ ul rfl
      have hD3 := hk3.same _ _ uD rfl
      exact ⟨_, _, run_endRound (P := P) none hl3, rfl, ⟨hIp _ _ _ _ _ hi3 (by simp [l, D]) hl3 rfl, World.putObj_heap_same (Array.getElem?_eq_some_iff.1 hl3).1, (World.putObj_heap_other (by simp [l])).trans hD3⟩, hKt (hKt hKw1 (hKt (hKb _ _ _ _ (by simp [l, D]) hl rfl rfl) hkp3)) (hKb _ _ _ _ (by simp [l, D]) hl3 rfl rfl)⟩
    | ret => exact hp.2.elim
    | exit id => exact hp.2.elim
    | goto t => exact hp.2.elim
    | panic ch => exact hp.elim
    | outgrown => exact hp.elim
  · rintro e W2 ⟨⟨v, rfl⟩, hi, hl, hD⟩
    exact ⟨none, _, run_endLoop (P := P) hl (by intro h; cases h), hdone D _ (Nat.le_refl _) (hIp _ _ _ _ _ hi (by simp [l, D]) hl rfl) ((World.putObj_heap_other (by simp [l])).trans hD)⟩
end Go.Proofs.YtkdkhphpknnceaaDoor.H
