/- The contracts of the document's own reader: Read, Raw, ReadText, End. -/
import Derived.Test.YtkggmcnocpgnbaaDoorMerged14
import Derived.Lib.QuietBelow
import Derived.BigQuiet
import Derived.Laws.ResultCell
import Derived.Test.YtkggmcnocpgnbaaDoorMerged17
import Derived.Test.YtkggmcnocpgnbaaDoorMerged1
import Derived.Test.YtkggmcnocpgnbaaDoorMerged15
import Derived.Test.YtkggmcnocpgnbaaDoorRelD
namespace Go.Proofs.YtkggmcnocpgnbaaDoor.I
open Go.RowKit

end Go.Proofs.YtkggmcnocpgnbaaDoor.I

/- The contract of the document's Read of a line. -/
namespace Go.Proofs.YtkggmcnocpgnbaaDoor.K
open Go.RowKit Go.Proofs.YtkggmcnocpgnbaaDoor.I

structure RdI (rb : Nat) (s : ByteArray) (e : Nat) (w wr : World) : Prop where
  below : Below rb w wr
  i : wr.heap[rb]? = some (.cells #[.string s, .int .i64 (e : Int)] 52 (0, 0))
  o : wr.heap[rb + 1]? = some (.cells #[.string ⟨#[]⟩, .int .i64 0] 52 (0, 0))
section
variable {rb : Nat} {s s' : ByteArray} {e e' : Nat} {w wr w' : World}
theorem RdI.size (h : RdI rb s e w wr) : rb + 2 ≤ wr.heap.size := (Array.getElem?_eq_some_iff.1 h.o).1
theorem RdI.more (h : RdI rb s e w wr) (hb : Below (rb + 2) wr w') : RdI rb s e w w' :=
  ⟨h.below.trans (hb.mono (by omega)), (hb.block rb (by omega)).trans h.i, (hb.block (rb + 1) (by omega)).trans h.o⟩
theorem RdI.set (h : RdI rb s e w wr) (s' : ByteArray) (e' : Nat) : RdI rb s' e' w ((wr.setCell ⟨rb, 0, none⟩ (.string s')).setCell ⟨rb, 1, none⟩ (.int .i64 (e' : Int))) := by
  refine ⟨(h.below.setCell (p := ⟨rb, 0, none⟩) (Nat.le_refl _) _).setCell (p := ⟨rb, 1, none⟩) (Nat.le_refl _) _, by simp [World.setCell, Array.getElem?_modify, h.i], ?_⟩
  rw [Below.heap_setCell _ _ _ _ (by show rb + 1 ≠ rb; omega), Below.heap_setCell _ _ _ _ (by show rb + 1 ≠ rb; omega)]
  exact h.o
end
theorem lineT : PairT .i64 31 63 16 := ⟨Tryd.underlying31, by kernel_rfl, by decide⟩
end Go.Proofs.YtkggmcnocpgnbaaDoor.K

/- The contract of the statements' Glyphs: are runes the document's? -/
namespace Go.Proofs.YtkggmcnocpgnbaaDoor.K
open Go.RowKit

set_option maxRecDepth 100000 in
set_option maxHeartbeats 8000000 in
theorem lawGlyphs_any (a1 : Option Addr) (n1 c1 : Nat) (l1 : List (Int × Int)) (a2 : Option Addr) (n2 c2 : Nat) (l2 : List (Int × Int)) (w : World) (h1 : PairsIn .i32 a1 n1 c1 l1 w) (h2 : PairsIn .i64 a2 n2 c2 l2 w) (hr : RngG l1) (hn : n1 ≤ 1000000) (hn2 : n2 ≤ 1000000) :
    Calls Tryd.prog 25 #[.slice a1 n1 c1, .slice a2 n2 c2] w fun e w' => e = .returned (.bool (decide (l1 = l2))) ∧ Below w.heap.size w w' := by
  obtain ⟨P, hP⟩ : ∃ P : Ending → World → Prop, (fun e w' => e = .returned (.bool (decide (l1 = l2))) ∧ Below w.heap.size w w') = P := ⟨_, rfl⟩
  rw [hP]
  have HP := Lib.hid hP
  have HL1 := Lib.hid h1.len
  have HL2 := Lib.hid h2.len
  have H1 := Lib.hid h1
  have H2 := Lib.hid h2
  have HR := Lib.hid hr
  have hnI : (n1 : Int) ≤ 1000000 := by omega
  clear hP h1 h2 hr
  by_cases hne : n1 = n2
  · subst hne
    have q0 : ((n1 : Int) != (n1 : Int)) = false := by simp
    go_enter Tryd.func25, Tryd.ntmps25
    go_wp2_with fail
    go_loopw [14] (fun i wr => ∃ j : Nat, i = .int .i64 (j : Int) ∧ j ≤ n1 ∧ Hid (l1.take j = l2.take j ∧ Below w.heap.size w wr)) (fun i _ => n1 - (intOf i).toNat)
    case atStart => exact ⟨0, rfl, Nat.zero_le _, Lib.hid ⟨rfl, Below.refl _ _⟩⟩
    case round =>
      obtain ⟨j, rfl, hj, HF⟩ := hrel
      by_cases hlt : j < n1
      · have hd : decide (j < n1) = true := decide_eq_true hlt
        have hjI : (j : Int) < n1 := by omega
        have hj1 : j < l1.length := by rw [← HL1.out]; exact hlt
        have hj2 : j < l2.length := by rw [← HL2.out]; exact hlt
        obtain ⟨b1, o1, rfl, hb1, hA1⟩ := H1.out.at_.resolve_left (by intro e; rw [e] at hj1; simp at hj1)
        obtain ⟨b2, o2, rfl, hb2, hA2⟩ := H2.out.at_.resolve_left (by intro e; rw [e] at hj2; simp at hj2)
        have hat1 := hA1 j l1[j] (List.getElem?_eq_getElem hj1)
        have hat2 := hA2 j l2[j] (List.getElem?_eq_getElem hj2)
        have hrg := HR.out l1[j] (List.getElem_mem hj1)
        have t1 := List.take_succ_eq_append_getElem hj1
        have t2 := List.take_succ_eq_append_getElem hj2
        have ne : l1[j] ≠ l2[j] → l1 ≠ l2 := fun hh e => hh (by subst e; rfl)
        obtain ⟨⟨x1, s1⟩, e1⟩ : ∃ g, l1[j] = g := ⟨_, rfl⟩
        obtain ⟨⟨x2, s2⟩, e2⟩ : ∃ g, l2[j] = g := ⟨_, rfl⟩
        rw [e1] at hat1 hrg t1 ne
        rw [e2] at hat2 t2 ne
        have k0 : wr.cell? ⟨b1, o1 + j * 2, none⟩ = some (.int .i32 x1) := (HF.out.2.cell (p := ⟨b1, o1 + j * 2, none⟩) hb1).trans hat1.1
        have k1 : wr.cell? ⟨b1, o1 + j * 2 + 1, none⟩ = some (.int .i64 s1) := (HF.out.2.cell (p := ⟨b1, o1 + j * 2 + 1, none⟩) hb1).trans hat1.2
        have k2 : wr.cell? ⟨b2, o2 + j * 2, none⟩ = some (.int .i64 x2) := (HF.out.2.cell (p := ⟨b2, o2 + j * 2, none⟩) hb2).trans hat2.1
        have k3 : wr.cell? ⟨b2, o2 + j * 2 + 1, none⟩ = some (.int .i64 s2) := (HF.out.2.cell (p := ⟨b2, o2 + j * 2 + 1, none⟩) hb2).trans hat2.2
        have hwr : IntKind.i64.wrap x1 = x1 := by rw [IntKind.wrap_i64]; have h1 := hrg.1; have h2 := hrg.2; simp only at h1 h2; omega
        obtain ⟨gb, hgb⟩ : ∃ gb, wr.heap.size = gb := ⟨_, rfl⟩
        obtain ⟨w5, hw5⟩ : ∃ w5, wr.alloc (.cells #[.int .i32 x1, .int .i64 s1] 61) = w5 := ⟨_, rfl⟩
        have hnew : w5.heap[gb]? = some (.cells #[.int .i32 x1, .int .i64 s1] 61 (0, 0)) := by rw [← hw5, ← hgb]; exact heap_alloc_new wr _
        have m0 : w5.cell? ⟨gb, 0, none⟩ = some (.int .i32 x1) := by rw [cell_block hnew]; rfl
        have m1 : w5.cell? ⟨gb, 1, none⟩ = some (.int .i64 s1) := by rw [cell_block hnew]; rfl
        have hb5 : Below wr.heap.size wr w5 := by rw [← hw5]; exact (Below.refl _ _).alloc (Nat.le_refl _) _
        have hlr : b2 < wr.heap.size := Nat.lt_of_lt_of_le hb2 HF.out.2.size
        have m2 : w5.cell? ⟨b2, o2 + j * 2, none⟩ = some (.int .i64 x2) := (hb5.cell (p := ⟨b2, o2 + j * 2, none⟩) hlr).trans k2
        have m3 : w5.cell? ⟨b2, o2 + j * 2 + 1, none⟩ = some (.int .i64 s2) := (hb5.cell (p := ⟨b2, o2 + j * 2 + 1, none⟩) hlr).trans k3
        have HB5 : Hid (Below w.heap.size w w5) := Lib.hid (HF.out.2.trans (hb5.mono HF.out.2.size))
        have HW5 := Lib.hid hw5
        have HGb := Lib.hid hgb
        have HT : Hid ((x1, s1) = (x2, s2) → l1.take (j + 1) = l2.take (j + 1)) := Lib.hid (fun e => by rw [t1, t2, HF.out.1, e])
        have HNe := Lib.hid ne
        clear hj1 hj2 hA1 hA2 hat1 hat2 hrg t1 t2 ne e1 e2 hb1 hb2 hgb hw5 hnew hb5 hlr HF
        go_upto_region 6 with fail
        rw [HW5.out, HGb.out]
        clear k0 k1 k2 k3
        have z0 := fun d os => cell_regrown m0 d os
        have z1' := fun d os => cell_regrown m1 d os
        have z2' := fun d os => cell_regrown m2 d os
        have z3 := fun d os => cell_regrown m3 d os
        clear m0 m1 m2 m3
        by_cases hx : x1 = x2
        · subst hx
          have q1 : (x1 != x1) = false := by simp
          by_cases hs : s1 = s2
          · subst hs
            have q2 : (s1 != s1) = false := by simp
            refine wp_region_quiet_below (by kernel_rfl) (by kernel_rfl) ?_
            repeat (go_big_quiet_step (fail))
            refine wpQuiet_nil ?_
            intro _ hw'
            obtain ⟨⟨dq, osq⟩, hw''⟩ := hw'
            have HE2 : Hid (Below w.heap.size w (Go.Sort.grow (redrawn w5 dq) osq)) := Lib.hid (HB5.out.trans ((below_regrown _ _ _).mono HB5.out.size))
            rw [hw'']
            simp only
            obtain ⟨w9, hw9⟩ : ∃ w9, Go.Sort.grow (redrawn w5 dq) osq = w9 := ⟨_, rfl⟩
            rw [hw9] at HE2 ⊢
            clear hw'' hw9 z0 z1' z2' z3
            have HE : Hid (l1.take (j + 1) = l2.take (j + 1) ∧ Below w.heap.size w w9) := Lib.hid ⟨HT.out rfl, HE2.out⟩
            go_wp2_with fail
            go_roundw
            case rel => exact ⟨j + 1, by go_num, by omega, HE⟩
            case measure => simp [intOf]; omega
          · have q2 : (s1 != s2) = true := by rw [bne_iff_ne]; exact hs
            refine wp_region_quiet_below (by kernel_rfl) (by kernel_rfl) ?_
            repeat (go_big_quiet_step (fail))
            refine wpQuiet_nil ?_
            intro _ hw'
            obtain ⟨⟨dq, osq⟩, hw''⟩ := hw'
            have HE2 : Hid (Below w.heap.size w (Go.Sort.grow (redrawn w5 dq) osq)) := Lib.hid (HB5.out.trans ((below_regrown _ _ _).mono HB5.out.size))
            rw [hw'']
            simp only
            obtain ⟨w9, hw9⟩ : ∃ w9, Go.Sort.grow (redrawn w5 dq) osq = w9 := ⟨_, rfl⟩
            rw [hw9] at HE2 ⊢
            clear hw'' hw9 z0 z1' z2' z3
            have hend : Hid (P (.returned (.bool false)) w9) := Lib.hid (by rw [← HP.out, decide_eq_false (HNe.out (fun e => hs (congrArg Prod.snd e)))]; exact ⟨rfl, HE2.out⟩)
            clear hs
            go_wp2_with fail
            exact hend.out
        · have q1 : (x1 != x2) = true := by rw [bne_iff_ne]; exact hx
          refine wp_region_quiet_below (by kernel_rfl) (by kernel_rfl) ?_
          repeat (go_big_quiet_step (fail))
          refine wpQuiet_nil ?_
          intro _ hw'
          obtain ⟨⟨dq, osq⟩, hw''⟩ := hw'
          have HE2 : Hid (Below w.heap.size w (Go.Sort.grow (redrawn w5 dq) osq)) := Lib.hid (HB5.out.trans ((below_regrown _ _ _).mono HB5.out.size))
          rw [hw'']
          simp only
          obtain ⟨w9, hw9⟩ : ∃ w9, Go.Sort.grow (redrawn w5 dq) osq = w9 := ⟨_, rfl⟩
          rw [hw9] at HE2 ⊢
          clear hw'' hw9 z0 z1' z2' z3
          have hend : Hid (P (.returned (.bool false)) w9) := Lib.hid (by rw [← HP.out, decide_eq_false (HNe.out (fun e => hx (congrArg Prod.fst e)))]; exact ⟨rfl, HE2.out⟩)
          clear hx
          go_wp2_with fail
          exact hend.out
      · obtain rfl : j = n1 := by omega
        have hd : decide (j < j) = false := by simp
        have he : l1 = l2 := by
          have h := HF.out.1
          rw [List.take_of_length_le (by rw [HL1.out]; exact Nat.le_refl _), List.take_of_length_le (by rw [HL2.out]; exact Nat.le_refl _)] at h
          exact h
        have hend : Hid (P (.returned (.bool true)) wr) := Lib.hid (by rw [← HP.out, decide_eq_true he]; exact ⟨rfl, HF.out.2⟩)
        clear he HF hlt
        go_wp2_with fail
        exact hend.out
  · have q0 : ((n1 : Int) != (n2 : Int)) = true := by rw [bne_iff_ne]; omega
    have hend : Hid (P (.returned (.bool false)) w) := Lib.hid (by
      rw [← HP.out, decide_eq_false (fun e => hne (by rw [HL1.out, HL2.out, e]))]
      exact ⟨rfl, Below.refl _ _⟩)
    clear hne
    go_enter Tryd.func25, Tryd.ntmps25
    go_wp2_with fail
    exact hend.out
end Go.Proofs.YtkggmcnocpgnbaaDoor.K

/- A region that draws its order, as in RelD; of each operation it is told besides which slots still hold what they held ahead of the region. -/
namespace Go.Proofs.YtkggmcnocpgnbaaDoor.R
open Go

section
variable {P : Program} {ops : Array Oper} {Q : Exit → Act → World → Prop}
/-- whatever writes the slot t waits for i -/
def keepsB (ops : Array Oper) (i t : Nat) : Bool := (List.range ops.size).all fun j => match ops[j]? with
  | none => true
  | some o => match o.dst with
    | none => true
    | some d => d != t || reachD ops ops.size j i
theorem keepsB_spec {i t : Nat} (h : keepsB ops i t = true) {j : Nat} {o : Oper} (ho : ops[j]? = some o) (hd : o.dst = some t) : reachD ops ops.size j i = true := by
  have h1 := List.all_eq_true.1 h j (List.mem_range.2 (Array.getElem?_eq_some_iff.1 ho).1)
  rw [ho] at h1
  simp only [hd, bne_self_eq_false, Bool.false_or] at h1
  exact h1
/-- EACH OPERATION's OWN STEP. -/
def OpStepE (P : Program) (ops : Array Oper) (Q : Exit → Act → World → Prop) (base : Act) (cs due : List Nat) (St : Nat → (Nat → Value) → World → Prop) (R : World → World → Prop) (Ok : Nat → Value → World → Prop) (i : Nat) (o : Oper) : Prop :=
  match cs.findIdx? (fun c => c == i) with
  | none => ∀ (k : Nat) (a : Act) (w : World), k ≤ due.getD i cs.length → St k (slot a) w → Agree ops base a → (∀ e ∈ o.after, Region.binds .any e = true → ∀ oj d, ops[e.on]? = some oj → oj.dst = some d → Ok e.on (a.tmps.getD d undef) w) → (∀ t, keepsB ops i t = true → a.tmps.getD t undef = base.tmps.getD t undef) →
    (Region.wanted o (yielded ops a.tmps) = true ∧ ∀ K : Act → World → Prop, (∀ v w', R w w' → Ok i v w' → St k (slot a) w' → K (a.put o.dst v) w') → o.wp P a w K Q) ∨
    (Region.wanted o (yielded ops a.tmps) = false ∧ R w w ∧ Ok i undef w)
  | some j => ∀ (a : Act) (w : World), St j (slot a) w → Agree ops base a → (∀ e ∈ o.after, Region.binds .any e = true → ∀ oj d, ops[e.on]? = some oj → oj.dst = some d → Ok e.on (a.tmps.getD d undef) w) → (∀ t, keepsB ops i t = true → a.tmps.getD t undef = base.tmps.getD t undef) →
    Region.wanted o (yielded ops a.tmps) = true ∧ ∀ K : Act → World → Prop, (∀ v w', R w w' → Ok i v w' → St (j + 1) (slot (a.put o.dst v)) w' → K (a.put o.dst v) w') → o.wp P a w K Q

theorem wp_region_kept {id : Nat} {base : Act} {w0 : World} (cs due : List Nat) (hm : P.follows .mixedOrders = true) (St : Nat → (Nat → Value) → World → Prop) (R : World → World → Prop) (Ok : Nat → Value → World → Prop)
    (hin : (ops.toList.all fun o => match o.dst with | some d => decide (d < base.tmps.size) | none => true) = true)
    (hdis : distinctB ops = true) (hordB : orderedN ops ops.size = true) (hch : chainB ops cs = true) (hdu : dueB ops cs due = true)
    (hcong : ∀ k f g w, (∀ s ∈ slotsP ops cs k, f s = g s) → St k f w → St k g w)
    (hOk : ∀ i v w w', Ok i v w → R w w' → Ok i v w')
    (hop : EachOp (OpStepE P ops Q base cs due St R Ok) 0 ops.toList)
    (hdone : ∀ a w, St cs.length (slot a) w → Agree ops base a → (∀ (i : Nat) (o : Oper) (d : Nat), ops[i]? = some o → o.dst = some d → Ok i (a.tmps.getD d undef) w) → Q .normal a w)
    (h0 : St 0 (slot base) w0.drew) : (Code.region id ops true).wp P Q base w0 := by
  -- the progress
  let C : (Nat → Bool) → Act → World → Prop := fun L a w => ∃ k, k ≤ cs.length ∧ (∀ j c, cs[j]? = some c → L c = decide (j < k)) ∧ (∀ c o, L c = true → ops[c]? = some o → ∀ e ∈ o.after, Region.binds .any e = true → L e.on = true) ∧ (∀ t, (∀ j o, ops[j]? = some o → o.dst = some t → L j = false) → slot a t = slot base t) ∧ St k (slot a) w
  have hdst : ∀ (L : Nat → Bool) (k i : Nat) (o : Oper) (d : Nat), ops[i]? = some o → o.dst = some d → L i = false → (∀ j c, cs[j]? = some c → L c = decide (j < k)) → (∀ j c o, j < k → cs[j]? = some c → ops[c]? = some o → ∀ e ∈ o.after, Region.binds .any e = true → L e.on = true) → ∀ s ∈ slotsP ops cs k, s ≠ d := by
    intro L k i o d ho hd hL h1 h2 s hs e
    subst e
    unfold slotsP at hs
    obtain ⟨c, hc, hs⟩ := List.mem_flatMap.1 hs
    obtain ⟨j, hjc⟩ := List.mem_iff_getElem?.1 hc
    rw [List.getElem?_take] at hjc
    split at hjc
    · rename_i hjk
      have hLc := h1 j c hjc
      rw [decide_eq_true hjk] at hLc
      cases ho' : ops[c]? with
      | none => rw [ho'] at hs; cases hs
      | some o' =>
        rw [ho'] at hs
        simp only at hs
        rcases List.mem_append.1 hs with hs | hs
        · cases hd' : o'.dst with
          | none => rw [hd'] at hs; cases hs
          | some d' =>
            rw [hd'] at hs
            obtain rfl : s = d' := by simpa using hs
            have := distinctB_spec (ops := ops) hdis i c o o' s ho ho' hd hd'
            rw [this] at hL
            rw [hL] at hLc
            cases hLc
        · obtain ⟨e, he, hs⟩ := List.mem_flatMap.1 hs
          obtain ⟨he, hb⟩ := List.mem_filter.1 he
          have hLe := h2 j c o' hjk hjc ho' e (by simpa using he) hb
          cases ho2 : ops[e.on]? with
          | none => rw [ho2] at hs; cases hs
          | some o2 =>
            rw [ho2] at hs
            simp only at hs
            cases hd2 : o2.dst with
            | none => rw [hd2] at hs; cases hs
            | some d2 =>
              rw [hd2] at hs
              obtain rfl : s = d2 := by simpa using hs
              have := distinctB_spec (ops := ops) hdis i e.on o o2 s ho ho2 hd hd2
              rw [this] at hL
              rw [hL] at hLe
              cases hLe
    · cases hjc
  refine wp_region_relA hm C R Ok hin hdis hordB hOk ?_ ?_ ⟨0, Nat.zero_le _, fun j c _ => by simp, (fun c o hc => by simp at hc), (fun _ _ => rfl), h0⟩
  · -- each step
    have key : ∀ i o, ops.toList[i]? = some o → OpStepA P ops Q base C R Ok i o := by
      intro i o hio
      have hio' : ops[i]? = some o := by simpa using hio
      have hstep := hop.at i o hio
      rw [Nat.zero_add] at hstep
      intro L a w hL hpre hC hag hdep
      obtain ⟨k, hk, h1, hcl, hfr, hst⟩ := hC
      have hfree : ∀ t, keepsB ops i t = true → a.tmps.getD t undef = base.tmps.getD t undef := fun t ht => hfr t (fun j oj hoj hdj => by
        cases hLj : L j with
        | false => rfl
        | true =>
          have h9 := reachD_spec hcl _ j i (keepsB_spec ht hoj hdj) hLj
          rw [hL] at h9
          cases h9)
      have hfr' : ∀ v : Value, ∀ t, (∀ j oj, ops[j]? = some oj → oj.dst = some t → upd L i j = false) → slot (a.put o.dst v) t = slot base t := fun v t ht => by
        have hne : o.dst ≠ some t := fun e => by
          have h9 := ht i o hio' e
          unfold upd at h9
          simp at h9
        have hL' : ∀ j oj, ops[j]? = some oj → oj.dst = some t → L j = false := fun j oj hoj hdj => by
          have h9 := ht j oj hoj hdj
          unfold upd at h9
          split at h9
          · cases h9
          · exact h9
        cases hd : o.dst with
        | none => exact hfr t hL'
        | some d =>
          rw [slot_put (fun e => hne (by rw [hd, e]))]
          exact hfr t hL'
      have h2 : ∀ j c o, j < k → cs[j]? = some c → ops[c]? = some o → ∀ e ∈ o.after, Region.binds .any e = true → L e.on = true := fun j c o hj hc => hcl c o (by rw [h1 j c hc, decide_eq_true hj])
      have hcl' : ∀ c o', upd L i c = true → ops[c]? = some o' → ∀ e ∈ o'.after, Region.binds .any e = true → upd L i e.on = true := fun c o' hc ho' e he hb => by
        have h6 : L e.on = true := by
          unfold upd at hc
          split at hc
          · rename_i hci
            subst hci
            rw [hio'] at ho'
            cases ho'
            exact hpre e he hb
          · exact hcl c o' hc ho' e he hb
        unfold upd
        split
        · rfl
        · exact h6
      unfold OpStepE at hstep
      cases hf : cs.findIdx? (fun c => c == i) with
      | none =>
        rw [hf] at hstep
        simp only at hstep
        have hni : ∀ j c, cs[j]? = some c → c ≠ i := fun j c hc e => by
          have := List.findIdx?_eq_none_iff.1 hf c (List.mem_of_getElem? hc)
          simp [e] at this
        have hC' : ∀ v w', St k (slot a) w' → C (upd L i) (a.put o.dst v) w' := fun v w' hs => by
          refine ⟨k, hk, fun j c hc => ?_, hcl', hfr' v, ?_⟩
          · unfold upd
            rw [if_neg (hni j c hc)]
            exact h1 j c hc
          · cases hd : o.dst with
            | none => exact hs
            | some d => exact hcong k _ _ w' (fun s hs' => (slot_put (hdst L k i o d hio' hd hL h1 h2 s hs')).symm) hs
        have hkd : k ≤ due.getD i cs.length := by
          have h7 := List.all_eq_true.1 hdu i (List.mem_range.2 (Array.getElem?_eq_some_iff.1 hio').1)
          rcases Bool.or_eq_true_iff.1 h7 with h7 | h7
          · have := List.findIdx?_eq_none_iff.1 hf i (by simpa using h7)
            simp at this
          · cases hc : cs[due.getD i cs.length]? with
            | none => have := List.getElem?_eq_none_iff.1 hc; omega
            | some c =>
              rw [hc] at h7
              simp only at h7
              rcases Nat.lt_or_ge (due.getD i cs.length) k with h8 | h8
              · have h9 := reachD_spec hcl _ c i h7 (by rw [h1 _ c hc, decide_eq_true h8])
                rw [hL] at h9
                cases h9
              · exact h8
        rcases hstep k a w hkd hst hag hdep hfree with ⟨h3, h4⟩ | ⟨h3, h4, h5⟩
        · exact .inl ⟨h3, fun K hK => h4 K (fun v w' hr ho hs => hK v w' hr ho (hC' v w' hs))⟩
        · exact .inr ⟨h3, h4, h5, hC' undef w hst⟩
      | some j =>
        rw [hf] at hstep
        simp only at hstep
        obtain ⟨hjl, hji, hjn⟩ := List.findIdx?_eq_some_iff_getElem.1 hf
        have hji' : cs[j] = i := by simpa using hji
        have hcj : cs[j]? = some i := by rw [List.getElem?_eq_getElem hjl, hji']
        obtain ⟨⟨o', ho', hpr⟩, hdup⟩ := chainB_spec (ops := ops) hch hcj
        rw [hio'] at ho'
        cases ho'
        have hkj : k = j := by
          have h3 := h1 j i hcj
          rw [hL] at h3
          have h4 : ¬ j < k := fun h => by rw [decide_eq_true h] at h3; cases h3
          cases j with
          | zero => omega
          | succ j' =>
            obtain ⟨c', hc', e, he, hb, hon⟩ := hpr j' rfl
            have h5 := hpre e he hb
            rw [hon, h1 j' c' hc'] at h5
            have := of_decide_eq_true h5
            omega
        subst hkj
        obtain ⟨h3, h4⟩ := hstep a w hst hag hdep hfree
        refine .inl ⟨h3, fun K hK => h4 K (fun v w' hr hov hs => hK v w' hr hov ⟨k + 1, hjl, fun j2 c hc => ?_, hcl', hfr' v, hs⟩)⟩
        · unfold upd
          by_cases hci : c = i
          · rw [if_pos hci]
            subst hci
            have : j2 = k := by
              rcases Nat.lt_trichotomy j2 k with h | h | h
              · exact absurd hc (hdup j2 h)
              · exact h
              · exact absurd hcj ((chainB_spec (ops := ops) hch hc).2 k h)
            subst this
            exact (decide_eq_true (by omega)).symm
          · rw [if_neg hci, h1 j2 c hc]
            have : j2 ≠ k := fun e => hci (by subst e; rw [hcj] at hc; cases hc; rfl)
            by_cases h : j2 < k
            · rw [decide_eq_true h, decide_eq_true (by omega)]
            · rw [decide_eq_false h, decide_eq_false (by omega)]
    have go : ∀ (l : List Oper) (k : Nat), (∀ i o, l[i]? = some o → OpStepA P ops Q base C R Ok (k + i) o) → EachOp (OpStepA P ops Q base C R Ok) k l := by
      intro l
      induction l with
      | nil => intro k _; trivial
      | cons o l ih =>
        intro k h
        exact ⟨h 0 o rfl, ih (k + 1) (fun i o' ho => by have := h (i + 1) o' (by simpa using ho); rwa [show k + (i + 1) = k + 1 + i by omega] at this)⟩
    exact go ops.toList 0 (fun i o h => by rw [Nat.zero_add]; exact key i o h)
  · intro a w hC hag hok
    obtain ⟨k, hk, h1, h2, -, hst⟩ := hC
    have hkl : k = cs.length := by
      rcases Nat.lt_or_ge k cs.length with h | h
      · have hck : cs[k]? = some cs[k] := List.getElem?_eq_getElem h
        have h3 := h1 k cs[k] hck
        obtain ⟨⟨o, ho, -⟩, -⟩ := chainB_spec (ops := ops) hch hck
        have hlt := (Array.getElem?_eq_some_iff.1 ho).1
        dsimp only at h3
        rw [decide_eq_true hlt, decide_eq_false (Nat.lt_irrefl k)] at h3
        cases h3
      · omega
    subst hkl
    exact hdone a w hst hag hok
end
end Go.Proofs.YtkggmcnocpgnbaaDoor.R
