/- The document's reading, step by step: what the parser does in the document's states. -/
import Derived.Test.YtfapmgecebcfaaaDoorMerged0
import Derived.Test.YtfapmgecebcfaaaDoorMerged6
import Derived.Test.YtfapmgecebcfaaaDoorQXs
namespace Go.Proofs.YtfapmgecebcfaaaDoor.Q
open Go.Proofs.YtfapmgecebcfaaaDoor.Y (St runS endS)

theorem take_five {p : PS} (h : p.state = 5) {c : UInt8} (hc : c.toNat ≠ 92) : takeS p c = takeS (fresh 1) c := by
  unfold takeS
  rw [if_pos h, if_neg hc, if_neg (by simp [fresh])]
/-- a control behind a run in ground -/
theorem take_run (d : St) {c : UInt8} (hc : ctlB c.toNat) : takeS { fresh 0 with dec := d } c = anyS { fresh 0 with dec := d } c.toNat := by
  unfold takeS coreS
  rw [if_neg (by simp [fresh]), if_neg (by simp [fresh]), if_pos hc]
theorem run_feed (seg : List UInt8) (h : ∀ b ∈ seg, ¬ ctlB b.toNat) : feedS (fresh 0) seg = ({ fresh 0 with dec := (runS .zero seg).1 }, prints (runS .zero seg).2) :=
  feed_ground seg (fresh 0) rfl h
theorem any_ground (d : St) (b : Nat) : anyS { fresh 0 with dec := d } b = (if b = 27 then fresh 1 else fresh 0, prints (endS d) ++ (if b = 24 ∨ b = 26 ∨ b = 27 ∨ b = 127 then [] else [ctl b])) := by
  unfold anyS
  by_cases h1 : b = 24 ∨ b = 26
  · have h27 : ¬ b = 27 := by omega
    have hq : b = 24 ∨ b = 26 ∨ b = 27 ∨ b = 127 := by omega
    rw [if_pos h1, if_neg h27, if_pos hq, List.append_nil]
  · by_cases h2 : b = 27
    · have hq : b = 24 ∨ b = 26 ∨ b = 27 ∨ b = 127 := by omega
      rw [if_neg h1, if_pos h2, if_pos h2, if_pos hq, List.append_nil]
    · by_cases h3 : b = 127
      · have hq : b = 24 ∨ b = 26 ∨ b = 27 ∨ b = 127 := by omega
        rw [if_neg h1, if_neg h2, if_pos h3, if_neg h2, if_pos hq, List.append_nil]
        rfl
      · have hq : ¬ (b = 24 ∨ b = 26 ∨ b = 27 ∨ b = 127) := by omega
        rw [if_neg h1, if_neg h2, if_neg h3, if_neg h2, if_neg hq]
        rfl
/-- a control in another state but a title -/
theorem take_ctl {p : PS} (h1 : p.state = 1 ∨ p.state = 2 ∨ p.state = 3) (hd : p.dec = .zero) {c : UInt8} (hc : ctlB c.toNat) :
    takeS p c = (if c.toNat = 24 ∨ c.toNat = 26 then fresh 0 else if c.toNat = 27 then fresh 1 else p, if c.toNat = 24 ∨ c.toNat = 26 ∨ c.toNat = 27 ∨ c.toNat = 127 then [] else [ctl c.toNat]) := by
  have e : takeS p c = anyS p c.toNat := by
    unfold takeS coreS
    rw [if_neg (by omega), if_neg (by omega), if_pos hc]
  have he : prints (endS p.dec) = [] := by rw [hd]; rfl
  have hp : { p with dec := .zero } = p := by rw [← hd]
  rw [e]
  unfold anyS
  rw [he, hp]
  by_cases h1 : c.toNat = 24 ∨ c.toNat = 26
  · have hq : c.toNat = 24 ∨ c.toNat = 26 ∨ c.toNat = 27 ∨ c.toNat = 127 := by omega
    rw [if_pos h1, if_pos h1, if_pos hq]
  · by_cases h2 : c.toNat = 27
    · have hq : c.toNat = 24 ∨ c.toNat = 26 ∨ c.toNat = 27 ∨ c.toNat = 127 := by omega
      rw [if_neg h1, if_pos h2, if_neg h1, if_pos h2, if_pos hq]
    · by_cases h3 : c.toNat = 127
      · have hq : c.toNat = 24 ∨ c.toNat = 26 ∨ c.toNat = 27 ∨ c.toNat = 127 := by omega
        rw [if_neg h1, if_neg h2, if_pos h3, if_neg h1, if_neg h2, if_pos hq]
      · have hq : ¬ (c.toNat = 24 ∨ c.toNat = 26 ∨ c.toNat = 27 ∨ c.toNat = 127) := by omega
        rw [if_neg h1, if_neg h2, if_neg h3, if_neg h1, if_neg h2, if_neg hq]
        rfl
theorem take_esc {c : UInt8} (hc : ¬ ctlB c.toNat) : takeS (fresh 1) c = escS c.toNat := by
  unfold takeS coreS
  rw [if_neg (by simp [fresh]), if_neg (by simp [fresh]), if_neg hc, if_pos (show (fresh 1).state = 1 from rfl)]
theorem take_skip {c : UInt8} (hc : ¬ ctlB c.toNat) : takeS (fresh 2) c = (if 48 ≤ c.toNat then fresh 0 else fresh 2, []) := by
  unfold takeS coreS skipS
  rw [if_neg (by simp [fresh]), if_neg (by simp [fresh]), if_neg hc, if_neg (by simp [fresh]), if_pos (show (fresh 2).state = 2 from rfl)]
/-- a title so far -/
def titP (body : List UInt8) : PS := { fresh 4 with text := body.take 200 }
theorem take_title (body : List UInt8) (c : UInt8) : takeS (titP body) c = (if c.toNat = 7 ∨ c.toNat = 24 ∨ c.toNat = 26 then fresh 0 else if c.toNat = 27 then { titP body with state := 5 } else titP (body ++ [c]), if c.toNat = 7 then overS (body.take 200) else []) := by
  unfold takeS coreS
  rw [if_neg (by simp [titP, fresh]), if_pos (show (titP body).state = 4 from rfl)]
  unfold titleS
  by_cases h1 : c.toNat = 7
  · have hq : c.toNat = 7 ∨ c.toNat = 24 ∨ c.toNat = 26 := .inl h1
    rw [if_pos h1, if_pos hq, if_pos h1]
    rfl
  · by_cases h2 : c.toNat = 24 ∨ c.toNat = 26
    · have hq : c.toNat = 7 ∨ c.toNat = 24 ∨ c.toNat = 26 := .inr h2
      rw [if_neg h1, if_pos h2, if_pos hq, if_neg h1]
    · have hq : ¬ (c.toNat = 7 ∨ c.toNat = 24 ∨ c.toNat = 26) := by omega
      by_cases h3 : c.toNat = 27
      · rw [if_neg h1, if_neg h2, if_pos h3, if_neg hq, if_pos h3, if_neg h1]
      · rw [if_neg h1, if_neg h2, if_neg h3, if_neg hq, if_neg h3, if_neg h1]
        congr 1
        show (if (body.take 200).length < 200 then _ else _) = _
        by_cases hl : body.length < 200
        · have hb : body.take 200 = body := List.take_of_length_le (by omega)
          rw [hb, if_pos hl]
          unfold titP
          rw [hb, List.take_of_length_le (by rw [List.length_append]; simp; omega)]
        · rw [if_neg (by rw [List.length_take]; omega)]
          unfold titP
          rw [List.take_append_of_le_length (by omega)]
theorem take_closed (body : List UInt8) {c : UInt8} (hc : c.toNat = 92) : takeS { titP body with state := 5 } c = (fresh 0, overS (body.take 200)) := by
  unfold takeS
  rw [if_pos (show ({ titP body with state := 5 } : PS).state = 5 from rfl), if_pos hc]
  rfl
/-- a command so far -/
theorem cmd_mid_state (p : PS) {c : UInt8} (h : midB c) : (cmdS p c.toNat).1.state = p.state ∧ (cmdS p c.toNat).1.dec = p.dec := by
  unfold cmdS
  unfold midB at h
  split
  · exact ⟨rfl, rfl⟩
  · split
    · exact ⟨rfl, rfl⟩
    · split
      · exact ⟨rfl, rfl⟩
      · exact ⟨rfl, rfl⟩
theorem fold_state : ∀ (s : List UInt8) (p : PS), (∀ c ∈ s, midB c) → (foldC p s).state = p.state ∧ (foldC p s).dec = p.dec
  | [], _, _ => ⟨rfl, rfl⟩
  | c :: s, p, h => by
    have h1 := cmd_mid_state p (h c (by simp))
    have h2 := fold_state s (cmdS p c.toNat).1 (fun x hx => h x (by simp [hx]))
    exact ⟨h2.1.trans h1.1, h2.2.trans h1.2⟩
theorem take_mid (body : List UInt8) (hm : ∀ c ∈ body, midB c) {c : UInt8} (hc : ¬ ctlB c.toNat) (hmid : midB c) : takeS (foldC (fresh 3) body) c = (foldC (fresh 3) (body ++ [c]), []) := by
  have hs : (foldC (fresh 3) body).state = 3 := (fold_state body (fresh 3) hm).1
  unfold takeS coreS
  rw [if_neg (by omega), if_neg (by omega), if_neg hc, if_neg (by omega), if_neg (by omega), if_pos hs, foldC_snoc]
  exact Prod.ext rfl (cmd_mid_none _ hmid)
theorem take_last (body : List UInt8) (hm : ∀ c ∈ body, midB c) {c : UInt8} (h1 : 64 ≤ c.toNat) (h2 : c.toNat < 127) : takeS (foldC (fresh 3) body) c = (fresh 0, ordS body c.toNat) := by
  have hs : (foldC (fresh 3) body).state = 3 := (fold_state body (fresh 3) hm).1
  unfold takeS coreS
  rw [if_neg (by omega), if_neg (by omega), if_neg (by unfold ctlB; omega), if_neg (by omega), if_neg (by omega), if_pos hs]
  unfold cmdS
  rw [if_neg (by omega), if_neg (by omega), if_neg (by omega), if_neg (by omega)]
  refine Prod.ext rfl ?_
  rw [fin_begun]
  exact order_eq c.toNat body hm
end Go.Proofs.YtfapmgecebcfaaaDoor.Q

/- An action of the document's that is built, boxed and put behind others: in one step of the walk. -/
namespace Go.Proofs.YtfapmgecebcfaaaDoor.Q
open Go.RowKit
open Go.Proofs.YtfapmgecebcfaaaDoor.W (OwnI OwnR IntsIn RunesIn)

theorem run_slice1 (w : World) (s : Say) (nv : Value) : (Instr.buildSlice 35 1 #[(0, .agg (xArr s nv))]).run Tryd.prog w = .ok (.slice (some ⟨w.heap.size, 0, none⟩) 1 1) (w.alloc (.cells (xArr s nv) 47)) := by
  unfold xArr strV
  have hz : ∀ w, (zeroValue 47).run Tryd.prog w = .ok (.agg #[.int .i64 0, .int .i64 0, .int .i64 0, .bool false, .slice none 0 0, .string ⟨#[]⟩]) w := fun w => by rfl
  simp only [Instr.buildSlice, Sem.run_bind, run_underlying Tryd.underlying35, Result.andThen_ok]
  obtain ⟨i0, hi, hz0, hz1, hz2⟩ := info_parts infoX
  have hsz : ∀ w, (sizeOf 47).run Tryd.prog w = .ok 6 w := fun w => by simp [sizeOf, typeInfo, hi, hz1]
  simp only [hsz, Result.andThen_ok, Nat.one_mul, Sem.run_bind, Sem.run_pure, hz, show ¬ (6 > 2 ^ 24) by decide, if_false, show ¬ (6 = 0) by decide]
  simp [Instr.fill, newRow, show Array.range 6 = #[0, 1, 2, 3, 4, 5] by decide, List.zipIdx, Value.cells]
theorem wpList_say {ops : Array Oper} {rest : List Oper} {z : Act} {w : World} {Q : Exit → Act → World → Prop} {d1 d2 : Option Tmp} {x a y : Operand} {t1 : TypeId} {p1 p2 : String} {f1 f2 : Array Edge}
    (base : Nat) (v : Value) (l : List Say) (s : Say) (hx : z.eval x = .agg (xArr s (.slice none 0 0)))
    (ha : (z.put d1 (.slice (some ⟨w.heap.size, 0, none⟩) 1 1)).eval a = v) (hy : (z.put d1 (.slice (some ⟨w.heap.size, 0, none⟩) 1 1)).eval y = .slice (some ⟨w.heap.size, 0, none⟩) 1 1)
    (hown : OwnX base v l w) (hn : s.nums = []) (hl : (l.length : Int) ≤ 1000000) (hbase : base ≤ w.heap.size)
    (hK : ∀ v' w', OwnX base v' (l ++ [s]) w' → (∀ w0, Below base w0 w → Below base w0 w') → base ≤ w'.heap.size → wpList Tryd.prog ops Q rest ((z.put d1 (.slice (some ⟨w.heap.size, 0, none⟩) 1 1)).put d2 v') w') :
    wpList Tryd.prog ops Q (⟨d1, .buildSlice 35 1 #[(0, x)], t1, p1, f1, none⟩ :: ⟨d2, .call { callee := .builtin .append, args := #[a, y], argTypes := #[35, 35] }, 35, p2, f2, none⟩ :: rest) z w :=
  wpList_plain rfl fun _ hK' => by
    unfold Oper.wp execOp
    simp only [List.map_toArray, List.map_cons, List.map_nil, hx, run_slice1, Sem.run_bind, Result.andThen_ok, Sem.run_pure]
    refine hK' _ _ ?_
    refine wpList_append_x rfl a y rfl rfl base v l w.heap.size (s, .slice none 0 0) ha hy (hown.alloc _) (x_one w s (.slice none 0 0) _) (by show OwnI base _ s.nums _; rw [hn]; exact OwnI.nil _ _) hl (by simp; omega) ?_
    intro v' w' h1 h2
    exact hK v' w' h1 (fun w0 hb => (hb.alloc hbase _).grown h2 (by simp; omega) (fun q hq => hown.ownBlock q hq)) (by have := h2.size; simp at this; omega)
end Go.Proofs.YtfapmgecebcfaaaDoor.Q
