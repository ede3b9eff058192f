/- CacheClones: the region that makes the clones. -/
import Derived.Test.YtgagkmlkoeceiaaMerged12
import Derived.Test.YtgagkmlkoeceiaaCCln
import Derived.Test.YtgagkmlkoeceiaaMerged11
namespace Go.Proofs.Ytgagkmlkoeceiaa.C
open Go.RowKit Go.Maps Go.Proofs.Ytgagkmlkoeceiaa.H
open Go.Proofs.Ytgagkmlkoeceiaa.R (upd)

def KzD (wC : World) (G : List Nat) (x : Ca) (L : Nat → Bool) (f : Nat → Value) (d : Nat) (u : World) : Prop := ∃ Md, Ch d Md G x u ∧ (∀ p ∈ Md, wC.heap.size ≤ p) ∧ (L 3 = true → ∃ b, f 10 = .pointer (some ⟨b, 0, none⟩) ∧ b ∉ Md)
def KzS (wC : World) (G : List Nat) (x : Ca) (k : Nat) (L : Nat → Bool) (f : Nat → Value) (u : World) : Prop :=
  Below wC.heap.size wC u ∧ (k ≤ 2 → L 3 = true → ∃ b, f 10 = .pointer (some ⟨b, 0, none⟩) ∧ wC.heap.size ≤ b ∧ u.heap[b]? = some (.cells #[.int .i64 0, .slice none 0 0] 28 (0, 0))) ∧
  (k = 1 → ∃ d : Nat, f 41 = .pointer (some ⟨d, 0, none⟩) ∧ KzD wC G x L f d u) ∧ (k = 2 → ∃ d : Nat, f 9 = .pointer (some ⟨d, 0, none⟩) ∧ KzD wC G x L f d u) ∧ (k = 3 → ∃ b d : Nat, f 10 = .pointer (some ⟨b, 0, none⟩) ∧ f 9 = .pointer (some ⟨d, 0, none⟩) ∧ DoI d b x wC u)
section
variable {wC : World} {G : List Nat} {x : Ca}
theorem KzS.keep {k : Nat} {L L2 : Nat → Bool} {f f2 : Nat → Value} {u : World} (e : L2 3 = L 3) (g10 : f2 10 = f 10) (g41 : f2 41 = f 41) (g9 : f2 9 = f 9) (h : KzS wC G x k L f u) : KzS wC G x k L2 f2 u := by
  unfold KzS KzD at h ⊢
  rw [e, g10, g41, g9]
  exact h
theorem KzS.start {L : Nat → Bool} {f : Nat → Value} {u : World} (h : Below wC.heap.size wC u) (hL : L 3 = false := by rfl) : KzS wC G x 0 L f u :=
  ⟨h, (fun _ e => by rw [hL] at e; cases e), (fun e => by cases e), (fun e => by cases e), (fun e => by cases e)⟩
theorem kz_clone {c : Nat} {M : List Nat} {L : Nat → Bool} {f : Nat → Value} {v : World} (h : KzS wC G x 0 L f v) (hC : Ch c M G x wC) :
    Calls Try.prog 11 #[.pointer (some ⟨c, 0, none⟩)] v fun e w' => ∃ d : Nat, e = .returned (.pointer (some ⟨d, 0, none⟩)) ∧ ∀ f2 : Nat → Value, f2 41 = .pointer (some ⟨d, 0, none⟩) → f2 10 = f 10 → KzS wC G x 1 (upd L 1) f2 w' := by
  refine (clone_any v (hC.below h.1)).mono ?_
  rintro e w' ⟨d, Md, rfl, k1, k2, k3⟩
  refine ⟨d, rfl, fun f2 e41 e10 => ⟨h.1.trans (k2.mono h.1.size), fun _ hL => ?_, fun _ => ⟨d, e41, Md, k1, fun p hp => Nat.le_trans h.1.size (k3 p hp), fun hL => ?_⟩, (fun e => by cases e), fun e => by cases e⟩⟩
  · obtain ⟨b, h1, h2, h3⟩ := h.2.1 (by decide) hL
    exact ⟨b, e10.trans h1, h2, (k2.block b (Array.getElem?_eq_some_iff.1 h3).1).trans h3⟩
  · obtain ⟨b, h1, h2, h3⟩ := h.2.1 (by decide) hL
    exact ⟨b, e10.trans h1, fun hm => by have := k3 b hm; have := (Array.getElem?_eq_some_iff.1 h3).1; omega⟩
theorem kz_assign {L : Nat → Bool} {f : Nat → Value} {v : World} (h : KzS wC G x 1 L f v) : ∃ d : Nat, f 41 = .pointer (some ⟨d, 0, none⟩) ∧ ∀ f2 : Nat → Value, f2 9 = .pointer (some ⟨d, 0, none⟩) → f2 10 = f 10 → KzS wC G x 2 (upd L 4) f2 v := by
  obtain ⟨d, f41, Md, k1, k2, k3⟩ := h.2.2.1 rfl
  exact ⟨d, f41, fun f2 e9 e10 => ⟨h.1, fun _ hL => by rw [e10]; exact h.2.1 (by decide) hL, (fun e => by cases e), fun _ => ⟨d, e9, Md, k1, k2, fun hL => by rw [e10]; exact k3 hL⟩, fun e => by cases e⟩⟩
theorem kz_alloc {k : Nat} {L : Nat → Bool} {f f2 : Nat → Value} {v : World} (hk : k ≤ 2) (h : KzS wC G x k L f v) (e10 : f2 10 = .pointer (some ⟨v.heap.size, 0, none⟩)) (g41 : f2 41 = f 41) (g9 : f2 9 = f 9) :
    KzS wC G x k (upd L 3) f2 (v.alloc (.cells #[.int .i64 0, .slice none 0 0] 28)) := by
  have hb := alloc_below v (.cells #[.int .i64 0, .slice none 0 0] 28)
  have hz := heap_alloc_new v (.cells #[.int .i64 0, .slice none 0 0] 28)
  have hd : ∀ d, KzD wC G x L f d v → KzD wC G x (upd L 3) f2 d (v.alloc (.cells #[.int .i64 0, .slice none 0 0] 28)) := fun d ⟨Md, k1, k2, k3⟩ => ⟨Md, k1.below hb, k2, fun _ => ⟨_, e10, fun hm => by have := k1.lt.1 _ hm; omega⟩⟩
  refine ⟨h.1.trans (hb.mono h.1.size), fun _ _ => ⟨_, e10, h.1.size, hz⟩, fun e => ?_, fun e => ?_, fun e => by omega⟩
  · obtain ⟨d, h1, h2⟩ := h.2.2.1 e
    exact ⟨d, g41.trans h1, hd d h2⟩
  · obtain ⟨d, h1, h2⟩ := h.2.2.2.1 e
    exact ⟨d, g9.trans h1, hd d h2⟩
theorem kz_store {L : Nat → Bool} {f : Nat → Value} {v : World} {xb : Nat} {M : List Nat} {m : Int} {a : Option Addr} {n k : Nat} (h : KzS wC G x 2 L f v) (hL : L 3 = true) (hG : ∀ p ∈ G, p < wC.heap.size) (hX : RefC (xb :: M) (.agg #[.int .i64 m, .slice a n k]) x wC) :
    ∃ b : Nat, f 10 = .pointer (some ⟨b, 0, none⟩) ∧ v.heap[b]? = some (.cells #[.int .i64 0, .slice none 0 0] 28 (0, 0)) ∧ ∀ f2 : Nat → Value, f2 10 = f 10 → f2 9 = f 9 → KzS wC G x 3 (upd L 5) f2 ((v.setCell ⟨b, 0, none⟩ (.int .i64 m)).setCell ⟨b, 1, none⟩ (.slice a n k)) := by
  obtain ⟨b, f10, hb1, hb2⟩ := h.2.1 (by decide) hL
  obtain ⟨d, f9, Md, k1, k2, k3⟩ := h.2.2.2.1 rfl
  obtain ⟨b', f10', hbn⟩ := k3 hL
  obtain rfl : b = b' := by rw [f10] at f10'; injection f10' with e; injection e with e; injection e
  refine ⟨b, f10, hb2, fun f2 e10 e9 => ⟨two_set _ _ h.1 hb1, fun e => by omega, (fun e => by cases e), (fun e => by cases e), fun _ => ⟨b, d, e10.trans f10, e9.trans f9, Md, G, m, a, n, k, k1.two _ _ hbn (fun hm => by have := hG b hm; omega), rc_stored _ _ hb2, ?_, k2, hb1, hbn, fun hm => by have := hG b hm; omega, two_set _ _ h.1 hb1⟩⟩⟩
  have hr : RefC (b :: Md) (.agg #[.int .i64 m, .slice a n k]) x v := hX.moved h.1.size (fun p _ hp => h.1.block p hp) (fun p _ hp hm => by
    rcases List.mem_cons.1 hm with rfl | hm
    · omega
    · have := k2 p hm; omega)
  exact hr.set2k _ _
end
end Go.Proofs.Ytgagkmlkoeceiaa.C
