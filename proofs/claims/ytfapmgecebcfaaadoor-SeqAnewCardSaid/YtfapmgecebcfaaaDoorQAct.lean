/- What was said, as it is read. -/
import Derived.Test.YtfapmgecebcfaaaDoorQFeed
import Derived.Test.YtfapmgecebcfaaaDoorQSame
namespace Go.Proofs.YtfapmgecebcfaaaDoor.Q
open Go.RowKit
open Go.Proofs.YtfapmgecebcfaaaDoor.W (OwnI OwnR IntsIn RunesIn)

/-- An action in a row. -/
structure ActAt (w : World) (g o : Nat) (s : Say) (nv : Value) : Prop where
  c0 : w.cell? ⟨g, o, none⟩ = some (.int .i64 (s.kind : Int))
  c1 : w.cell? ⟨g, o + 1, none⟩ = some (.int .i32 (s.rune : Int))
  c2 : w.cell? ⟨g, o + 2, none⟩ = some (.int .u8 (s.byte : Int))
  c3 : w.cell? ⟨g, o + 3, none⟩ = some (.bool s.priv)
  c4 : w.cell? ⟨g, o + 4, none⟩ = some nv
  c5 : w.cell? ⟨g, o + 5, none⟩ = some (strV s.text)
theorem ActAt.below {w w' : World} {g o B : Nat} {s : Say} {nv : Value} (h : ActAt w g o s nv) (hb : Below B w w') (hg : g < B) : ActAt w' g o s nv :=
  ⟨(hb.cell (p := ⟨g, o, none⟩) hg).trans h.c0, (hb.cell (p := ⟨g, o + 1, none⟩) hg).trans h.c1, (hb.cell (p := ⟨g, o + 2, none⟩) hg).trans h.c2, (hb.cell (p := ⟨g, o + 3, none⟩) hg).trans h.c3, (hb.cell (p := ⟨g, o + 4, none⟩) hg).trans h.c4, (hb.cell (p := ⟨g, o + 5, none⟩) hg).trans h.c5⟩
theorem flat_get : ∀ (rows : List (Say × Value)) (i c : Nat) (r : Say × Value), rows[i]? = some r → c < 6 → (flat rows)[i * 6 + c]? = (aCells r)[c]?
  | [], i, c, r, h, _ => by simp at h
  | x :: rows, 0, c, r, h, hc => by
    simp at h
    subst h
    unfold flat
    rw [List.flatMap_cons, Nat.zero_mul, Nat.zero_add, List.getElem?_append_left (by simp [aCells]; omega)]
  | x :: rows, i + 1, c, r, h, hc => by
    have ih := flat_get rows i c r (by simpa using h) hc
    unfold flat at ih ⊢
    rw [List.flatMap_cons, List.getElem?_append_right (by simp [aCells]; omega)]
    rw [← ih]
    congr 1
    simp [aCells]
    omega
/-- the slice of what was said, where something was -/
theorem OwnA.shape {base : Nat} {v : Value} {l : List Say} {w : World} (h : OwnA base v l w) :
    (l = [] ∧ ∃ a c, v = .slice a 0 c ∧ (a = none → c = 0)) ∨ ∃ g cap, v = .slice (some ⟨g, 0, none⟩) l.length cap ∧ l ≠ [] ∧ base ≤ g ∧ g < w.heap.size ∧ l.length ≤ cap ∧ (cap : Int) ≤ 9223372036854775807 ∧ ∀ i s, l[i]? = some s → ∃ nv, ActAt w g (i * 6) s nv ∧ OwnI base nv s.nums w := by
  obtain ⟨rows, h1, h2, h3⟩ := h.rows
  rcases h2.2 with ⟨rfl, h0⟩ | ⟨g, cap, cur, rfl, hbase, hg, hc, hm, hs, ht⟩
  · exact .inl ⟨List.length_eq_zero_iff.1 h0, none, 0, rfl, fun _ => rfl⟩
  · by_cases hl : l = []
    · subst hl
      exact .inl ⟨rfl, _, _, rfl, fun e => by cases e⟩
    · refine .inr ⟨g, cap, rfl, hl, hbase, (Array.getElem?_eq_some_iff.1 hg).1, hc, by unfold maxLen at hm; omega, fun i s hi => ?_⟩
      have hlr : rows.length = l.length := by rw [← h1, List.length_map]
      obtain ⟨r, hr, rfl⟩ : ∃ r, rows[i]? = some r ∧ r.1 = s := by
        rw [← h1, List.getElem?_map] at hi
        obtain ⟨r, hr, e⟩ := Option.map_eq_some_iff.1 hi
        exact ⟨r, hr, e⟩
      have hil : i < l.length := by have := (List.getElem?_eq_some_iff.1 hr).1; omega
      have hcell : ∀ c, c < 6 → w.cell? ⟨g, i * 6 + c, none⟩ = (aCells r)[c]? := fun c hc6 => by
        rw [World.ownsRow.cellAt h2 (i * 6 + c) (by omega), flat_get rows i c r hr hc6]
      exact ⟨r.2, ⟨hcell 0 (by decide), hcell 1 (by decide), hcell 2 (by decide), hcell 3 (by decide), hcell 4 (by decide), hcell 5 (by decide)⟩, h3 r (List.mem_of_getElem? hr)⟩
end Go.Proofs.YtfapmgecebcfaaaDoor.Q
