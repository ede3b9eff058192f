/- law14's do: what its calls make; the states of the region in which the document's Put is called. -/
import Derived.Test.YtgagkmlkoeceiaaCSm
import Derived.Test.YtgagkmlkoeceiaaMerged3
import Derived.Test.YtgagkmlkoeceiaaMerged11
namespace Go.Proofs.Ytgagkmlkoeceiaa.C
open Go.RowKit Go.Maps Go.Proofs.Ytgagkmlkoeceiaa.H
open Go.Proofs.Ytgagkmlkoeceiaa.R (upd)

/-- what a call makes of a cache -/
def stepC (x : Ca) (kd ai : Int) (g : List (Int × Int)) : Ca := if kd = 0 then (putC x ai g).1 else if kd = 1 then getC x ai else if kd = 2 then x else ⟨x.most, []⟩
def DoPost (c : Nat) (Z M G : List Nat) (y : Ca) (w : World) (r : Ending) (w' : World) : Prop := ∃ M' G' X', r = .returned (.tuple #[X', .bool true]) ∧ Ch c M' G' y w' ∧ RefC (Z ++ M') X' y w' ∧ KeepB M w w' ∧ (∀ p ∈ M', p ∈ M ∨ w.heap.size ≤ p) ∧ ∀ p ∈ G', p ∈ G ∨ w.heap.size ≤ p
def ToldP (wA : World) (gq : List (Int × Int)) (v : Value) (u : World) : Prop := ∃ a9 c9, v = .slice a9 gq.length c9 ∧ PairsIn .i64 a9 gq.length c9 gq u ∧ ∀ p o, a9 = some ⟨p, o, none⟩ → wA.heap.size ≤ p ∧ ∃ cs, u.heap[p]? = some (.cells cs 77 (0, 0))
def AlB (wA : World) (f : Nat → Value) (u : World) : Prop := ∃ b, f 9 = .pointer (some ⟨b, 0, none⟩) ∧ wA.heap.size ≤ b ∧ u.heap[b]? = some (.cells #[.int .i64 0, .slice none 0 0] 28 (0, 0))
def ResX (MR : List Nat) (y : Ca) (L : Nat → Bool) (f : Nat → Value) (X' : Value) (u : World) : Prop := RefC MR X' y u ∧ (L 10 = true → ∃ b, f 9 = .pointer (some ⟨b, 0, none⟩) ∧ RefC (b :: MR) X' y u)
def tupP (X' : Value) (pn : Int) (pw : Bool) : Value := .tuple #[X', .int .i64 pn, .bool pw]
def PdS (wA : World) (MR : List Nat) (y : Ca) (gq : List (Int × Int)) (pn : Int) (pw : Bool) (k : Nat) (L : Nat → Bool) (f : Nat → Value) (u : World) : Prop :=
  Below wA.heap.size wA u ∧ (k ≤ 4 → L 10 = true → AlB wA f u) ∧ (k = 1 → ToldP wA gq (f 41) u) ∧ (k = 2 → ∃ X', f 42 = tupP X' pn pw ∧ ResX MR y L f X' u) ∧ (k = 3 → ∃ X', f 36 = tupP X' pn pw ∧ ResX MR y L f X' u) ∧ (k = 4 → ResX MR y L f (f 43) u) ∧
  (k = 5 → ∃ b m a n c, f 9 = .pointer (some ⟨b, 0, none⟩) ∧ wA.heap.size ≤ b ∧ u.heap[b]? = some (.cells #[.int .i64 m, .slice a n c] 28 (0, 0)) ∧ RefC MR (.agg #[.int .i64 m, .slice a n c]) y u)
section
variable {wA : World} {MR : List Nat} {y : Ca} {gq : List (Int × Int)} {pn : Int} {pw : Bool}
theorem PdS.keep {k : Nat} {L L2 : Nat → Bool} {f f2 : Nat → Value} {u : World} (e : L2 10 = L 10) (g9 : f2 9 = f 9) (g41 : f2 41 = f 41) (g42 : f2 42 = f 42) (g36 : f2 36 = f 36) (g43 : f2 43 = f 43) (h : PdS wA MR y gq pn pw k L f u) : PdS wA MR y gq pn pw k L2 f2 u := by
  unfold PdS ResX AlB at h ⊢
  rw [e, g9, g41, g42, g36, g43]
  exact h
theorem PdS.start {L : Nat → Bool} {f : Nat → Value} {u : World} (h : Below wA.heap.size wA u) (hL : L 10 = false := by rfl) : PdS wA MR y gq pn pw 0 L f u :=
  ⟨h, (fun _ e => by rw [hL] at e; cases e), (fun e => by cases e), (fun e => by cases e), (fun e => by cases e), (fun e => by cases e), (fun e => by cases e)⟩
theorem AlB.below {f f2 : Nat → Value} {u u' : World} (h : AlB wA f u) (hb : Below u.heap.size u u') (e : f2 9 = f 9) : AlB wA f2 u' := by
  obtain ⟨b, h1, h2, h3⟩ := h
  exact ⟨b, e.trans h1, h2, (hb.block b (Array.getElem?_eq_some_iff.1 h3).1).trans h3⟩
theorem pd_told {L : Nat → Bool} {f : Nat → Value} {v : World} {a8 : Option Addr} {gn c8 : Nat} (h : PdS wA MR y gq pn pw 0 L f v) (hG : PairsIn .i32 a8 gn c8 gq wA ∧ gq.length = gn ∧ RngG gq ∧ gn ≤ 20) :
    Calls Try.prog 16 #[.slice a8 gn c8] v fun e w' => ∃ v9, e = .returned v9 ∧ ∀ f2 : Nat → Value, f2 41 = v9 → f2 9 = f 9 → PdS wA MR y gq pn pw 1 (upd L 4) f2 w' := by
  refine (told_any a8 gn c8 gq v (hG.1.belowAll h.1) hG.2.2.1 (by have := hG.2.2.2; omega)).mono ?_
  rintro e w' ⟨v9, rfl, h8, h9⟩
  obtain ⟨a9, c9, rfl, h7, hA, -⟩ := h8.shape
  refine ⟨_, rfl, fun f2 e41 e9 => ⟨h.1.trans (h9.mono h.1.size), fun _ hL => (h.2.1 (by decide) hL).below h9 e9, fun _ => ⟨a9, c9, e41, h7, fun p o ha => ?_⟩, (fun e => by cases e), (fun e => by cases e), (fun e => by cases e), fun e => by cases e⟩⟩
  refine ⟨Nat.le_trans h.1.size (hA p o ha).1, ?_⟩
  obtain ⟨cs, h1, -⟩ := U.own_type h8 (g := p) (by rw [ha]; rfl)
  exact ⟨cs, h1⟩
theorem pd_call {L : Nat → Bool} {f : Nat → Value} {v : World} {XV : Value} {x : Ca} {ai : Int} (h : PdS wA MR (putC x ai gq).1 gq (putC x ai gq).2.1 (putC x ai gq).2.2 1 L f v) (hRX : RefC MR XV x wA) (hMR : ∀ q ∈ MR, q < wA.heap.size) (hl : x.L.length ≤ 100000) (hmo : 1 ≤ x.most) :
    ∃ a9 c9, f 41 = .slice a9 gq.length c9 ∧ Calls Try.prog 15 #[XV, .int .i64 ai, .slice a9 gq.length c9] v fun e w' => ∃ X', e = .returned (tupP X' (putC x ai gq).2.1 (putC x ai gq).2.2) ∧ ∀ f2 : Nat → Value, f2 42 = tupP X' (putC x ai gq).2.1 (putC x ai gq).2.2 → f2 9 = f 9 → PdS wA MR (putC x ai gq).1 gq (putC x ai gq).2.1 (putC x ai gq).2.2 2 (upd L 5) f2 w' := by
  obtain ⟨a9, c9, f41, hp9, hpp⟩ := h.2.2.1 rfl
  refine ⟨a9, c9, f41, ?_⟩
  have hMv : ∀ q ∈ MR, q < v.heap.size := fun q hq => Nat.lt_of_lt_of_le (hMR q hq) h.1.size
  have hp1 : ∀ p o, a9 = some ⟨p, o, none⟩ → p ∉ MR ∧ p < v.heap.size := fun p o e => by
    obtain ⟨h1, cs, h2⟩ := hpp p o e
    exact ⟨fun hm => by have := hMR p hm; omega, (Array.getElem?_eq_some_iff.1 h2).1⟩
  by_cases hL : L 10 = true
  · obtain ⟨b, f9, hb1, hb2⟩ := h.2.1 (by decide) hL
    have hbl := (Array.getElem?_eq_some_iff.1 hb2).1
    refine (rput_any (b :: MR) XV x ai a9 gq.length c9 gq v (hRX.apart h.1 hb1) (fun q hq => ?_) hp9 (fun p o e => ⟨fun hm => ?_, (hp1 p o e).2⟩) hl hmo).mono ?_
    · rcases List.mem_cons.1 hq with rfl | hq
      · exact hbl
      · exact hMv q hq
    · rcases List.mem_cons.1 hm with rfl | hm
      · obtain ⟨-, cs, h2⟩ := hpp p o e
        rw [hb2] at h2
        injection h2 with h2
        injection h2 with _ h2
        exact absurd h2 (by decide)
      · exact (hp1 p o e).1 hm
    · rintro e w' ⟨X', rfl, hr, hbv⟩
      exact ⟨X', rfl, fun f2 e42 e9 => ⟨h.1.trans (hbv.mono h.1.size), fun _ hL => (h.2.1 (by decide) hL).below hbv e9, (fun e => by cases e), fun _ => ⟨X', e42, hr.fewer, fun _ => ⟨b, e9.trans f9, hr⟩⟩, (fun e => by cases e), (fun e => by cases e), fun e => by cases e⟩⟩
  · refine (rput_any MR XV x ai a9 gq.length c9 gq v (hRX.below h.1) hMv hp9 hp1 hl hmo).mono ?_
    rintro e w' ⟨X', rfl, hr, hbv⟩
    exact ⟨X', rfl, fun f2 e42 e9 => ⟨h.1.trans (hbv.mono h.1.size), fun _ hL2 => absurd hL2 hL, (fun e => by cases e), fun _ => ⟨X', e42, hr, fun hL2 => absurd hL2 hL⟩, (fun e => by cases e), (fun e => by cases e), fun e => by cases e⟩⟩
theorem pd_next3 {L : Nat → Bool} {f f2 : Nat → Value} {v : World} {X' : Value} (h : PdS wA MR y gq pn pw 2 L f v) (hx : ResX MR y L f X' v) (e36 : f2 36 = tupP X' pn pw) (e9 : f2 9 = f 9) : PdS wA MR y gq pn pw 3 (upd L 6) f2 v :=
  ⟨h.1, fun _ hL => (h.2.1 (by decide) hL).below (Below.refl _ _) e9, (fun e => by cases e), (fun e => by cases e), fun _ => ⟨X', e36, hx.1, fun hL => by rw [e9]; exact hx.2 hL⟩, (fun e => by cases e), fun e => by cases e⟩
theorem pd_next4 {L : Nat → Bool} {f f2 : Nat → Value} {v : World} {X' : Value} (h : PdS wA MR y gq pn pw 3 L f v) (hx : ResX MR y L f X' v) (e43 : f2 43 = X') (e9 : f2 9 = f 9) : PdS wA MR y gq pn pw 4 (upd L 7) f2 v :=
  ⟨h.1, fun _ hL => (h.2.1 (by decide) hL).below (Below.refl _ _) e9, (fun e => by cases e), (fun e => by cases e), (fun e => by cases e), (fun _ => by rw [e43]; exact ⟨hx.1, fun hL => by rw [e9]; exact hx.2 hL⟩), fun e => by cases e⟩
theorem pd_alloc {k : Nat} {L : Nat → Bool} {f f2 : Nat → Value} {v : World} (hk : k ≤ 4) (h : PdS wA MR y gq pn pw k L f v) (hL : L 10 = false) (e9 : f2 9 = .pointer (some ⟨v.heap.size, 0, none⟩)) (g41 : f2 41 = f 41) (g42 : f2 42 = f 42) (g36 : f2 36 = f 36) (g43 : f2 43 = f 43) :
    PdS wA MR y gq pn pw k (upd L 10) f2 (v.alloc (.cells #[.int .i64 0, .slice none 0 0] 28)) := by
  have hb := alloc_below v (.cells #[.int .i64 0, .slice none 0 0] 28)
  have hz := heap_alloc_new v (.cells #[.int .i64 0, .slice none 0 0] 28)
  have hx : ∀ X', ResX MR y L f X' v → ResX MR y (upd L 10) f2 X' (v.alloc (.cells #[.int .i64 0, .slice none 0 0] 28)) := fun X' h9 => ⟨h9.1.below hb, fun _ => ⟨_, e9, h9.1.apart hb (Nat.le_refl _)⟩⟩
  refine ⟨h.1.trans (hb.mono h.1.size), fun _ _ => ⟨_, e9, h.1.size, hz⟩, fun e => ?_, fun e => ?_, fun e => ?_, fun e => ?_, fun e => by omega⟩
  · obtain ⟨a9, c9, h1, h2, h3⟩ := h.2.2.1 e
    exact ⟨a9, c9, g41.trans h1, h2.belowAll hb, fun p o ha => ⟨(h3 p o ha).1, by
      obtain ⟨cs, h4⟩ := (h3 p o ha).2
      exact ⟨cs, (hb.block p (Array.getElem?_eq_some_iff.1 h4).1).trans h4⟩⟩⟩
  · obtain ⟨X', h1, h2⟩ := h.2.2.2.1 e
    exact ⟨X', g42.trans h1, hx X' h2⟩
  · obtain ⟨X', h1, h2⟩ := h.2.2.2.2.1 e
    exact ⟨X', g36.trans h1, hx X' h2⟩
  · rw [g43]
    exact hx _ (h.2.2.2.2.2.1 e)
theorem pd_store {L : Nat → Bool} {f : Nat → Value} {v : World} (h : PdS wA MR y gq pn pw 4 L f v) (hL : L 10 = true) :
    ∃ b m a n c, f 9 = .pointer (some ⟨b, 0, none⟩) ∧ f 43 = .agg #[.int .i64 m, .slice a n c] ∧ v.heap[b]? = some (.cells #[.int .i64 0, .slice none 0 0] 28 (0, 0)) ∧ ∀ f2 : Nat → Value, f2 9 = f 9 → PdS wA MR y gq pn pw 5 (upd L 11) f2 ((v.setCell ⟨b, 0, none⟩ (.int .i64 m)).setCell ⟨b, 1, none⟩ (.slice a n c)) := by
  obtain ⟨b, f9, hb1, hb2⟩ := h.2.1 (by decide) hL
  obtain ⟨h1, h2⟩ := h.2.2.2.2.2.1 rfl
  obtain ⟨b', f9', hr⟩ := h2 hL
  obtain rfl : b = b' := by rw [f9] at f9'; injection f9' with e; injection e with e; injection e
  have hrr := hr
  obtain ⟨a, n, c, es, e43, -⟩ := hrr
  refine ⟨b, _, a, n, c, f9, e43, hb2, fun f2 e9 => ⟨two_set _ _ h.1 hb1, fun e => by omega, (fun e => by cases e), (fun e => by cases e), (fun e => by cases e), (fun e => by cases e), fun _ => ⟨b, _, a, n, c, e9.trans f9, hb1, rc_stored _ _ hb2, ?_⟩⟩⟩
  rw [e43] at hr
  exact hr.set2 _ _
end
/-- behind the program's call, apart from a block -/
theorem RefC.turnedR {Z M M' : List Nat} {X : Value} {x : Ca} {w w' : World} {r : Nat} (h : RefC (r :: (Z ++ M)) X x w) (hk : KeepB M w w') (hM : ∀ p ∈ M', p ∈ M ∨ w.heap.size ≤ p) : RefC (r :: (Z ++ M')) X x w' :=
  h.moved hk.size (fun p h1 h2 => hk.block p h2 (fun hm => h1 (List.mem_cons_of_mem _ (List.mem_append_right _ hm)))) (fun p h1 h2 h3 => by
    rcases List.mem_cons.1 h3 with rfl | h3
    · exact h1 (by simp)
    · rcases List.mem_append.1 h3 with h3 | h3
      · exact h1 (List.mem_cons_of_mem _ (List.mem_append_left _ h3))
      · exact (hM p h3).elim (fun hm => h1 (List.mem_cons_of_mem _ (List.mem_append_right _ hm))) (fun h => by omega))
theorem RefC.sub {N N2 : List Nat} {X : Value} {x : Ca} {w : World} (h : RefC N X x w) (hs : ∀ p ∈ N2, p ∈ N) : RefC N2 X x w :=
  h.moved (Nat.le_refl _) (fun _ _ _ => rfl) (fun p h1 _ h3 => h1 (hs p h3))
theorem RefC.set2k {M : List Nat} {X : Value} {x : Ca} {w : World} {r : Nat} (v0 v1 : Value) (h : RefC (r :: M) X x w) : RefC (r :: M) X x ((w.setCell ⟨r, 0, none⟩ v0).setCell ⟨r, 1, none⟩ v1) :=
  h.moved (by simp) (fun p h1 _ => two_other v0 v1 (fun e => h1 (by rw [e]; simp))) (fun p h1 _ => h1)
theorem Ch.two {c r : Nat} {M G : List Nat} {x : Ca} {w : World} (v0 v1 : Value) (h : Ch c M G x w) (hM : r ∉ M) (hG : r ∉ G) : Ch c M G x ((w.setCell ⟨r, 0, none⟩ v0).setCell ⟨r, 1, none⟩ v1) :=
  h.keptB (L := [r]) ((KeepB.setCell v0).trans (KeepB.setCell v1)) (fun p hp e => hM (by rw [← (by simpa using e : p = r)]; exact hp)) (fun p hp e => hG (by rw [← (by simpa using e : p = r)]; exact hp))
end Go.Proofs.Ytgagkmlkoeceiaa.C
