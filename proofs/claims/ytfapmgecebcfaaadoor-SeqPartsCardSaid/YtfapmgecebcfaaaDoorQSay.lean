/- An action of the document's that is built, boxed and put behind others: in one step of the walk. -/
import Derived.Test.YtfapmgecebcfaaaDoorMerged4
namespace Go.Proofs.YtfapmgecebcfaaaDoor.Q
open Go.RowKit
open Go.Proofs.YtfapmgecebcfaaaDoor.W (OwnI OwnR IntsIn RunesIn)

theorem run_slice1 (w : World) (s : Say) (nv : Value) : (Instr.buildSlice 35 1 #[(0, .agg (xArr s nv))]).run Tryd.prog w = .ok (.slice (some ⟨w.heap.size, 0, none⟩) 1 1) (w.alloc (.cells (xArr s nv) 47)) := by
  unfold xArr strV
  have hz : ∀ w, (zeroValue 47).run Tryd.prog w = .ok (.agg #[.int .i64 0, .int .i64 0, .int .i64 0, .bool false, .slice none 0 0, .string ⟨#[]⟩]) w := fun w => by rfl
  simp only [Instr.buildSlice, Sem.run_bind, run_underlying Tryd.underlying35, Result.andThen_ok]
  obtain ⟨i0, hi, hz0, hz1, hz2⟩ := info_parts infoX
  have hsz : ∀ w, (sizeOf 47).run Tryd.prog w = .ok 6 w := fun w => by simp [sizeOf, typeInfo, hi, hz1]
  simp only [hsz, Result.andThen_ok, Nat.one_mul, Sem.run_bind, Sem.run_pure, hz, show ¬ (6 > 2 ^ 24) by decide, if_false, show ¬ (6 = 0) by decide]
  simp [Instr.fill, newRow, show Array.range 6 = #[0, 1, 2, 3, 4, 5] by decide, List.zipIdx, Value.cells]
theorem wpList_say {ops : Array Oper} {rest : List Oper} {z : Act} {w : World} {Q : Exit → Act → World → Prop} {d1 d2 : Option Tmp} {x a y : Operand} {t1 : TypeId} {p1 p2 : String} {f1 f2 : Array Edge}
    (base : Nat) (v : Value) (l : List Say) (s : Say) (hx : z.eval x = .agg (xArr s (.slice none 0 0)))
    (ha : (z.put d1 (.slice (some ⟨w.heap.size, 0, none⟩) 1 1)).eval a = v) (hy : (z.put d1 (.slice (some ⟨w.heap.size, 0, none⟩) 1 1)).eval y = .slice (some ⟨w.heap.size, 0, none⟩) 1 1)
    (hown : OwnX base v l w) (hn : s.nums = []) (hl : (l.length : Int) ≤ 1000000) (hbase : base ≤ w.heap.size)
    (hK : ∀ v' w', OwnX base v' (l ++ [s]) w' → (∀ w0, Below base w0 w → Below base w0 w') → base ≤ w'.heap.size → wpList Tryd.prog ops Q rest ((z.put d1 (.slice (some ⟨w.heap.size, 0, none⟩) 1 1)).put d2 v') w') :
    wpList Tryd.prog ops Q (⟨d1, .buildSlice 35 1 #[(0, x)], t1, p1, f1, none⟩ :: ⟨d2, .call { callee := .builtin .append, args := #[a, y], argTypes := #[35, 35] }, 35, p2, f2, none⟩ :: rest) z w :=
  wpList_plain rfl fun _ hK' => by
    unfold Oper.wp execOp
    simp only [List.map_toArray, List.map_cons, List.map_nil, hx, run_slice1, Sem.run_bind, Result.andThen_ok, Sem.run_pure]
    refine hK' _ _ ?_
    refine wpList_append_x rfl a y rfl rfl base v l w.heap.size (s, .slice none 0 0) ha hy (hown.alloc _) (x_one w s (.slice none 0 0) _) (by show OwnI base _ s.nums _; rw [hn]; exact OwnI.nil _ _) hl (by simp; omega) ?_
    intro v' w' h1 h2
    exact hK v' w' h1 (fun w0 hb => (hb.alloc hbase _).grown h2 (by simp; omega) (fun q hq => hown.ownBlock q hq)) (by have := h2.size; simp at this; omega)
end Go.Proofs.YtfapmgecebcfaaaDoor.Q
