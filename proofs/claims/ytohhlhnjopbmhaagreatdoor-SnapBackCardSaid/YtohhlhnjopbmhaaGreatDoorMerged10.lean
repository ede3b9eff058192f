/- The iterator of rows from the uppermost one: grid.downwards. -/
import Derived.Test.YtohhlhnjopbmhaaGreatDoorMerged9
import Derived.RangeFuncNested
import Derived.RangeFuncBound
import Derived.RangeFuncCalls
import Derived.RangeFuncLeaves
import Derived.RangeFuncBox
import Derived.Shelf.Abstract
import Derived.Shelf.RegionOpen
import Derived.OwnWalkIn
import Derived.TacticsInMore
import Derived.LoopNIn
import Derived.LoopIn
namespace Go.Proofs.YtohhlhnjopbmhaaGreatDoor.K
open Go.RowKit Go.Shelf

attribute [local go_sem] Oper.semAt_some

/-- these blocks are kept -/
def KeepL (l : List Nat) (A B : World) : Prop := A.heap.size ≤ B.heap.size ∧ ∀ b ∈ l, b < A.heap.size → B.heap[b]? = A.heap[b]?
theorem keepL_t {l : List Nat} {A B C : World} (h : KeepL l A B) (k : KeepL l B C) : KeepL l A C := ⟨Nat.le_trans h.1 k.1, fun b hb hlt => (k.2 b hb (Nat.lt_of_lt_of_le hlt h.1)).trans (h.2 b hb hlt)⟩
theorem keepL_b {l : List Nat} {w : World} (hl : ∀ b ∈ l, b < w.heap.size) (W : World) (i : Nat) (o o' : Obj) (hi : w.heap.size ≤ i) (_ : W.heap[i]? = some o) (_ : o.isCells = false) (_ : o.isWalk = false) : KeepL l W (W.putObj i o') :=
  ⟨by simp, fun b hb _ => World.putObj_heap_other (by have := hl b hb; omega)⟩
theorem KeepL.of_below {l : List Nat} {A B : World} {n : Nat} (h : Below n A B) (hl : ∀ b ∈ l, b < n) : KeepL l A B := ⟨h.size, fun b hb _ => h.block b (hl b hb)⟩
theorem KeepL.refl (l : List Nat) (A : World) : KeepL l A A := ⟨Nat.le_refl _, fun _ _ _ => rfl⟩
theorem grownBy_of_below {w w' : World} (h : Below w.heap.size w w') : w.grownBy w' none := ⟨h.os, h.tape, h.output, h.size, fun k hk _ => h.block k hk⟩
/-- a row that an iterator hands on -/
abbrev It (w : World) := { p : Rv × Ro // RowV .i32 p.1.val p.2 w ∧ p.2.l.length ≤ 1000 }
def It.u {w : World} (x : It w) : Rv := x.1.1
def It.r {w : World} (x : It w) : Ro := x.1.2
theorem its_of {us : List Rv} {rs : List Ro} {w : World} (h : RowsV .i32 us rs w) (hn : ∀ r ∈ rs, r.l.length ≤ 1000) : ∃ its : List (It w), its.map It.u = us ∧ its.map It.r = rs := by
  induction us generalizing rs with
  | nil =>
    have : rs = [] := List.eq_nil_of_length_eq_zero (by rw [← h.1]; rfl)
    exact ⟨[], rfl, by rw [this]; rfl⟩
  | cons u us ih =>
    match rs, h, hn with
    | [], h, _ => exact absurd h.1 (by simp)
    | r :: rs, h, hn =>
      obtain ⟨its, h1, h2⟩ := ih (rs := rs) ⟨by have := h.1; simpa using this, fun i v q hv hq => h.2 (i + 1) v q (by simpa using hv) (by simpa using hq)⟩ (fun q hq => hn q (List.mem_cons_of_mem _ hq))
      exact ⟨⟨(u, r), h.2 0 u r rfl rfl, hn r (by simp)⟩ :: its, by simp [It.u] at h1 ⊢; exact h1, by simp [It.r] at h2 ⊢; exact h2⟩
/-- the block of a slice of rows that is not empty -/
def blkV {α : Type} (a : Option Addr) (us : List α) : List Nat := match a, us with
  | some a, _ :: _ => [a.block]
  | _, _ => []
theorem blkV_some {α : Type} {a : Option Addr} {b off : Nat} {us : List α} (hz : us ≠ []) (e : a = some ⟨b, off, none⟩) : b ∈ blkV a us := by
  subst e
  cases us with
  | nil => exact absurd rfl hz
  | cons z zs => simp [blkV]
def lookV {α : Type} (B : Nat) (a : Option Addr) (us : List α) : List Nat := B :: blkV a us
structure LooksV (B : Nat) (a : Option Addr) (n c : Nat) (us : List Rv) (w : World) : Prop where
  bx : Boxed w B 22 (.slice a n c)
  rs : RvsIn a n c us w
  lt : ∀ b ∈ blkV a us, b < w.heap.size
theorem LooksV.keep {B : Nat} {a : Option Addr} {n c : Nat} {us : List Rv} {w w' : World} (h : LooksV B a n c us w) (hk : KeepL (lookV B a us) w w') : LooksV B a n c us w' := by
  refine ⟨(hk.2 B (by simp [lookV]) h.bx.lt).trans h.bx, ?_, fun b hb => Nat.lt_of_lt_of_le (h.lt b hb) hk.1⟩
  by_cases hu : us = []
  · exact ⟨h.rs.len, h.rs.fit, h.rs.top, .inl hu⟩
  · exact h.rs.blocks hk.1 (fun b off e hl => hk.2 b (List.mem_cons_of_mem _ (blkV_some hu e)) hl)
theorem LooksV.all {B : Nat} {a : Option Addr} {n c : Nat} {us : List Rv} {w : World} (h : LooksV B a n c us w) : ∀ b ∈ lookV B a us, b < w.heap.size := by
  intro b hb
  rcases List.mem_cons.1 hb with rfl | hb
  · exact h.bx.lt
  · exact h.lt b hb
theorem LooksV.below {B : Nat} {a : Option Addr} {n c : Nat} {us : List Rv} {w w' : World} (h : LooksV B a n c us w) (hb : Below w.heap.size w w') : LooksV B a n c us w' := h.keep (KeepL.of_below hb h.all)
theorem RvsIn.lt {a : Option Addr} {n c : Nat} {us : List Rv} {w : World} (h : RvsIn a n c us w) : ∀ b ∈ blkV a us, b < w.heap.size := by
  intro b hb
  rcases h.at_ with e | ⟨b', off, rfl, hl, _⟩
  · subst e; cases a <;> cases hb
  · cases us with
    | nil => cases hb
    | cons u us =>
      obtain rfl : b = b' := by simpa [blkV] using hb
      exact hl
theorem looksV_new {a : Option Addr} {n c : Nat} {us : List Rv} {w : World} (h : RvsIn a n c us w) : LooksV w.heap.size a n c us (w.alloc (.cells #[.slice a n c] 22)) := by
  have hb : Below w.heap.size w (w.alloc (.cells #[.slice a n c] 22)) := (Below.refl _ _).alloc (Nat.le_refl _) _
  have h' := h.belowAll hb
  exact ⟨Boxed.new w 22 _, h', h'.lt⟩

theorem down_in (n : Nat) (a : Option Addr) (len cap : Nat) (w : World) :
    CallsIn Fence.wide n Tryz.prog 80 #[.slice a len cap] w fun e w' => e = .returned (.func (.func 97) #[] #[.pointer (some ⟨w.heap.size, 0, none⟩)]) ∧ w' = w.alloc (.cells #[.slice a len cap] 22) := by
  refine callsIn_of_wp Tryz.func80 rfl trivial ?_ rfl
  simp only [Tryz.ntmps80, List.size_toArray, List.length_cons, List.length_nil, Nat.reduceAdd, Nat.reduceSub, Array.replicate_succ, Array.replicate_zero, List.push_toArray, List.append_toArray, List.nil_append, List.cons_append]
  gi_wp2
  go_ret
  exact ⟨rfl, rfl⟩
theorem down_any (a : Option Addr) (len cap : Nat) (w : World) :
    Calls Tryz.prog 80 #[.slice a len cap] w fun e w' => e = .returned (.func (.func 97) #[] #[.pointer (some ⟨w.heap.size, 0, none⟩)]) ∧ w' = w.alloc (.cells #[.slice a len cap] 22) :=
  (callsIn_wide (n := 2)).1 (down_in 2 a len cap w)
theorem takeL_snoc {α : Type} (l : List α) (j : Nat) (h : j < l.length) : l.take (j + 1) = l.take j ++ [l[j]] := by
  rw [List.take_add_one, List.getElem?_eq_getElem h]; rfl

set_option maxRecDepth 100000 in
set_option maxHeartbeats 2000000 in
theorem down1_in {α : Type} (f : α → Rv) (n : Nat) (hn : 2 ≤ n) (l B : Nat) (a : Option Addr) (len cap : Nat) (its : List α) (hlen : (its.length : Int) ≤ 1000000) (J Jx : List α → World → Prop) (W : World) (hJ : AbidesFrom W.heap.size J)
    (hY : ∀ pre x W, J pre W → pre.length < its.length → YieldAt Fence.wide (n - 1) Tryz.prog l #[(f x).val] W fun e W' =>
      (e = .returned (.bool true) ∧ J (pre ++ [x]) W' ∧ KeepL (lookV B a its) W W') ∨ (e = .returned (.bool false) ∧ Jx (pre ++ [x]) W'))
    (hL : LooksV B a len cap (its.map f) W) (h0 : J [] W) :
    CallsIn Fence.wide n Tryz.prog 97 #[.func (.yield l) #[] #[], .pointer (some ⟨B, 0, none⟩)] W fun e W' => (∃ v, e = .returned v) ∧
      ((∃ ys, ys = its ∧ J ys W') ∨ (∃ pre, (∃ j, j ≤ its.length ∧ pre = its.take j) ∧ Jx pre W')) := by
  obtain ⟨N, hN⟩ : ∃ N, its.length = N := ⟨_, rfl⟩
  rw [hN] at hlen
  have hl : len = N := by rw [hL.rs.len, List.length_map, hN]
  subst hl
  have hlk : ∀ V V', KeepL (lookV B a its) V V' → KeepL (lookV B a (its.map f)) V V' := by
    intro V V' h
    refine ⟨h.1, fun b hb hlt => h.2 b ?_ hlt⟩
    cases a <;> cases its <;> exact hb
  have HLk := Lib.hid hlk
  have HN := Lib.hid hN
  have HY := Lib.hid hY
  have HJ := Lib.hid hJ
  have HL := Lib.hid hL
  have hs := hL.bx.cell
  obtain ⟨base, hbase⟩ : ∃ base, W.heap.size = base := ⟨_, rfl⟩
  have hszb : base ≤ W.heap.size := by omega
  rw [hbase] at HJ
  clear hY hJ hL hN hbase hlk
  refine callsIn_of_wp Tryz.func97 rfl trivial ?_ rfl
  simp only [Tryz.ntmps97, List.size_toArray, List.length_cons, List.length_nil, Nat.reduceAdd, Nat.reduceSub, Array.replicate_succ, Array.replicate_zero, List.push_toArray, List.append_toArray, List.nil_append, List.cons_append]
  gi_wp2
  gi_loopw [7] (fun i wr => ∃ j : Nat, i = .int .i64 (j : Int) ∧ j ≤ len ∧ base ≤ wr.heap.size ∧ Hid (LooksV B a len cap (its.map f) wr ∧ J (its.take j) wr)) (fun i _ => len - (intOf i).toNat)
  case atStart => exact ⟨0, rfl, by omega, hszb, Lib.hid ⟨HL.out, h0⟩⟩
  case round =>
    rename_i wr
    obtain ⟨j, rfl, hj, hbw, HF⟩ := hrel
    clear hs
    by_cases hlt : j < len
    · have hjl : j < its.length := by rw [HN.out]; exact hlt
      have hjm : (its.map f)[j]? = some (f its[j]) := by rw [List.getElem?_map, List.getElem?_eq_getElem hjl]; rfl
      obtain ⟨b, off, rfl, hbl, hI⟩ := HF.out.1.rs.at_.resolve_left (by intro e; rw [e] at hjm; simp at hjm)
      obtain ⟨hc0, hc1⟩ := hI j _ hjm
      have HT := Lib.hid (takeL_snoc its j hjl)
      obtain ⟨x, hx⟩ : ∃ x, its[j] = x := ⟨_, rfl⟩
      rw [hx] at hc0 hc1 HT
      obtain ⟨w1, hw1⟩ : ∃ w1, wr.alloc (.cells #[.slice (f x).a (f x).n (f x).c, .bool (f x).b] 54) = w1 := ⟨_, rfl⟩
      have hb1 : Below wr.heap.size wr w1 := by rw [← hw1]; exact (Below.refl _ _).alloc (Nat.le_refl _) _
      have hL1 := HF.out.1.below hb1
      have hJ1 := HJ.out (its.take j) wr w1 none HF.out.2 (grownBy_of_below hb1) (fun r e => by cases e)
      have hb1' : base ≤ w1.heap.size := Nat.le_trans hbw hb1.size
      obtain ⟨nb, hnb⟩ : ∃ nb, wr.heap.size = nb := ⟨_, rfl⟩
      have hblk : w1.heap[nb]? = some (.cells #[.slice (f x).a (f x).n (f x).c, .bool (f x).b] 54 (0, 0)) := by rw [← hw1, ← hnb]; exact World.alloc_heap_new _ _
      have e0 : w1.cell? ⟨nb, 0, none⟩ = some (.slice (f x).a (f x).n (f x).c) := by simp [World.cell?, hblk]
      have e1 : w1.cell? ⟨nb, 1, none⟩ = some (.bool (f x).b) := by simp [World.cell?, hblk]
      obtain ⟨fn, tmps, assign, body, hy, hR⟩ := HY.out (its.take j) x w1 hJ1 (by rw [List.length_take, HN.out]; omega)
      rw [← HT.out] at hR
      unfold Rv.val at hy
      have HR := Lib.hid hR
      have HL1 := Lib.hid hL1
      obtain ⟨ua, un, uc, ub, hu⟩ : ∃ ua un uc ub, f x = ⟨ua, un, uc, ub⟩ := ⟨_, _, _, _, rfl⟩
      rw [hu] at hc0 hc1 hw1 e0 e1 hy
      simp only at hc0 hc1 hw1 e0 e1 hy
      have HW1 := Lib.hid hw1
      have HNb := Lib.hid hnb
      clear hI hjl hbl hjm hb1 hL1 hJ1 hR hblk hw1 hnb hx hu
      gi_wp2_with fail
      rw [HW1.out, HNb.out, hy]
      gi_wp2_with fail
      refine ⟨fun _ => by omega, HR.out.mono ?_⟩
      rintro e W' (⟨rfl, hJ', hk⟩ | ⟨rfl, hJx'⟩)
      · have hb' : base ≤ W'.heap.size := Nat.le_trans hb1' hk.1
        have HF' := Lib.hid (And.intro (HL1.out.keep (HLk.out _ _ hk)) hJ')
        clear hJ' hk
        gi_wp2
        go_roundw
        case rel => exact ⟨j + 1, by go_num, by omega, hb', HF'⟩
        case measure => simp [intOf]; omega
      · gi_wp2
        refine bodyPost_ret (results_none rfl _ _ _) rfl ?_
        exact ⟨⟨_, rfl⟩, .inr ⟨_, ⟨j + 1, by rw [HN.out]; omega, rfl⟩, hJx'⟩⟩
    · obtain rfl : j = len := by omega
      have hfin : its.take j = its := by rw [← HN.out]; exact List.take_length
      have HFin := Lib.hid hfin
      clear hfin
      gi_wp2
      go_end0
      exact ⟨⟨_, rfl⟩, .inl ⟨_, rfl, by have h := HF.out.2; rwa [HFin.out] at h⟩⟩
theorem down_stopsG {α : Type} (f : α → Rv) (n : Nat) (hn : 2 ≤ n) (B : Nat) (a : Option Addr) (len cap : Nat) (its : List α) (hlen : (its.length : Int) ≤ 1000000) (w : World) (hL : LooksV B a len cap (its.map f) w) :
    SeqStopsK Fence.wide n Tryz.prog 97 #[.pointer (some ⟨B, 0, none⟩)] (fun x : α => #[(f x).val]) (KeepL (lookV B a its)) (fun ys => ys = its) (fun pre => ∃ j, j ≤ its.length ∧ pre = its.take j) its.length w := fun l J Jx W hW hJ _ hY h0 =>
  down1_in f n hn l B a len cap its hlen J Jx W hJ hY (hL.keep (KeepL.of_below hW (by
    have h := hL.all
    intro b hb
    exact h b hb))) h0
theorem down_stops (w0 : World) (n : Nat) (hn : 2 ≤ n) (B : Nat) (a : Option Addr) (len cap : Nat) (its : List (It w0)) (hlen : (its.length : Int) ≤ 1000000) (w : World) (hL : LooksV B a len cap (its.map It.u) w) :
    SeqStopsK Fence.wide n Tryz.prog 97 #[.pointer (some ⟨B, 0, none⟩)] (fun x : It w0 => #[x.u.val]) (KeepL (lookV B a its)) (fun ys => ys = its) (fun pre => ∃ j, j ≤ its.length ∧ pre = its.take j) its.length w := down_stopsG It.u n hn B a len cap its hlen w hL
end Go.Proofs.YtohhlhnjopbmhaaGreatDoor.K

/- A range over an iterator that itself ranges over another one: what a round keeps, said of the blocks by their kind; the loop's law for bodies that always go on. -/
namespace Go.Proofs.YtohhlhnjopbmhaaGreatDoor.K
open Go.RowKit Go.Shelf

attribute [local go_sem] Oper.semAt_some

/-- what lies below m is kept, and beyond m each block of cells that holds no rows -/
def KpU (m : Nat) (W W' : World) : Prop := W.heap.size ≤ W'.heap.size ∧ (∀ i, i < m → i < W.heap.size → W'.heap[i]? = W.heap[i]?) ∧
  ∀ i cs T fr, W.heap[i]? = some (.cells cs T fr) → m < i → T ≠ 54 → W'.heap[i]? = W.heap[i]?
theorem KpU.refl (m : Nat) (W : World) : KpU m W W := ⟨Nat.le_refl _, fun _ _ _ => rfl, fun _ _ _ _ _ _ _ => rfl⟩
theorem KpU.trans {m : Nat} {A B C : World} (h : KpU m A B) (k : KpU m B C) : KpU m A C :=
  ⟨Nat.le_trans h.1 k.1, fun i hi hl => (k.2.1 i hi (Nat.lt_of_lt_of_le hl h.1)).trans (h.2.1 i hi hl), fun i cs T fr hc hi hT => by
    have h1 := h.2.2 i cs T fr hc hi hT
    exact (k.2.2 i cs T fr (h1.trans hc) hi hT).trans h1⟩
theorem KpU.putObj {m l : Nat} {W : World} {o : Obj} (o' : Obj) (hl : m ≤ l) (h : W.heap[l]? = some o) (ho : o.isCells = false) : KpU m W (W.putObj l o') :=
  ⟨by simp, fun i hi _ => World.putObj_heap_other (by omega), fun i cs T fr hc _ _ => World.putObj_heap_other (fun e => by rw [e, h] at hc; cases hc; cases ho)⟩
theorem KpU.of_below {m : Nat} {W W' : World} (h : Below W.heap.size W W') : KpU m W W' := ⟨h.size, fun i _ hl => h.block i hl, fun i cs T fr hc _ _ => h.block i (Array.getElem?_eq_some_iff.1 hc).1⟩
/-- and what is no cells, from B on -/
def KeepX (m B : Nat) (W W' : World) : Prop := KpU m W W' ∧ ∀ i o, B ≤ i → W.heap[i]? = some o → o.isCells = false → W'.heap[i]? = some o
theorem KeepX.trans {m B : Nat} {W1 W2 W3 : World} (h : KeepX m B W1 W2) (k : KeepX m B W2 W3) : KeepX m B W1 W3 := ⟨h.1.trans k.1, fun i o hi ho hc => k.2 i o hi (h.2 i o hi ho hc) hc⟩
theorem KeepX.of_below {m B : Nat} {W W' : World} (h : Below W.heap.size W W') : KeepX m B W W' := ⟨KpU.of_below h, fun i o _ ho _ => (h.block i (Array.getElem?_eq_some_iff.1 ho).1).trans ho⟩
theorem KeepX.mono {m B B' : Nat} {W W' : World} (h : KeepX m B W W') (hB : B ≤ B') : KeepX m B' W W' := ⟨h.1, fun i o hi => h.2 i o (Nat.le_trans hB hi)⟩
/-- an iterator that hands on a list of these, whatever the rounds are, as long as they always go on -/
def SeqOwn {α : Type} (n : Nat) (g : Nat) (lb : Array Value) (encs : α → Array Value) (its : List α) (m : Nat) (w : World) : Prop :=
  ∀ (l : Nat) (J : List α → World → Prop) (W : World), Below w.heap.size w W → m < W.heap.size → OwnFrom W.heap.size J →
    (∀ pre x W1, J pre W1 → pre.length < its.length → YieldAt Fence.wide (n - 1) Tryz.prog l (encs x) W1 fun e W' => e = .returned (.bool true) ∧ J (pre ++ [x]) W' ∧ KeepX m W.heap.size W1 W') →
    J [] W → CallsIn Fence.wide n Tryz.prog g (#[.func (.yield l) #[] #[]] ++ lb) W fun e W' => (∃ v, e = .returned v) ∧ J its W'
/-- the loop's law -/
theorem own_range {α : Type} {n gf : Nat} {lb : Array Value} {g : Operand} {ps : Array Tmp} {assign body : Code} {Q : Exit → Act → World → Prop} {a : Act} {w w0 : World} {encs : α → Array Value} {its : List α} {m : Nat}
    (h1 : 1 ≤ n) (hg : a.eval g = .func (.func gf) #[] lb) (eg : ∀ args w, (callFunc gf args).run Tryz.prog w = .ok (.enter gf args) w) (hseq : SeqOwn (n - 1) gf lb encs its m w0) (hb0 : Below w0.heap.size w0 w) (hm : m < w.heap.size) (hps : ∀ x, (encs x).size = ps.size)
    (I : List α → World → Prop) (hI : OwnFrom w.heap.size I) (h0 : I [] w) (Ax : α → Act → World → Prop) (hAx : ∀ x a', OwnFrom w.heap.size (fun (_ : Unit) W => Ax x a' W))
    (hassign : ∀ (l : Nat) (pre : List α) (x : α) (W : World) (K : Act → World → Prop), I pre W → (∀ a' W', KeepX m w.heap.size W W' → I pre W' → Ax x a' W' → K a' W') →
      assign.wpIn (Fence.wide.inRound l) (n - 1 - 1) Tryz.prog (Exit.then K (fun _ _ _ => False)) { tmps := (ps.zip (encs x)).foldl (fun t (p, v) => t.setIfInBounds p v) a.tmps, defers := [] } W)
    (hbody : ∀ (l : Nat) (pre : List α) (x : α) (a' : Act) (W : World), I pre W → Ax x a' W → pre.length < its.length → body.wpIn (Fence.wide.inRound l) (n - 1 - 1) Tryz.prog (fun e _ W' => e = .normal ∧ KeepX m w.heap.size W W' ∧ I (pre ++ [x]) W') a' W)
    (hdone : ∀ (D : Nat) (W : World), w.heap.size ≤ D → I its W → W.heap[D]? = some (.deferred (some [])) → Q .normal { a with defers := { target := .collected D, args := #[] } :: a.defers } W) :
    (Code.rangeFunc g ps assign body).wpIn Fence.wide n Tryz.prog Q a w := by
  refine wpIn_rangeFunc fun fn hfn => ?_
  -- the record of the loop, by its state
  let rec' : LoopState → Loop := fun st => { state := st, pending := none, fn, tmps := a.tmps, params := ps, assign, body, defers := w.heap.size }
  obtain ⟨D, hD⟩ : ∃ D, w.heap.size = D := ⟨_, rfl⟩
  obtain ⟨W1, hW1⟩ : ∃ W1, (w.alloc (.deferred (some []))).alloc (.loop (rec' .ready)) = W1 := ⟨_, rfl⟩
  have hz1 : W1.heap.size = D + 2 := by rw [← hW1, World.size_alloc, World.size_alloc, hD]
  have hrec1 : W1.heap[D + 1]? = some (.loop (rec' .ready)) := by
    have h := World.alloc_heap_new (w.alloc (.deferred (some []))) (.loop (rec' .ready))
    rw [World.size_alloc, hD, hW1] at h
    exact h
  have hdef1 : W1.heap[D]? = some (.deferred (some [])) := by
    rw [← hW1, ← hD]
    exact (Below.heap_alloc _ _ _ (by simp)).trans (World.alloc_heap_new w _)
  have hbel : Below w.heap.size w W1 := by rw [← hW1]; exact ((Below.refl _ w).alloc (Nat.le_refl _) _).alloc (by simp) _
  have hI1 : I [] W1 := by rw [← hW1]; exact hI.alloc _ (hI.alloc _ h0)
  have hstart := run_enterLoop_outer (P := Tryz.prog) (w := w) fn a.tmps ps assign body
  rw [hD] at hI hAx hdone hassign hbody
  refine ⟨D + 1, [{ target := .collected D, args := #[] }], W1, { target := .fn (.func gf) lb, args := #[.func (.yield (D + 1)) #[] #[]] }, W1, gf, #[.func (.yield (D + 1)) #[] #[]] ++ lb, W1, ?_, ?_, fun _ _ => trivial, ?_, fun _ => h1, ?_⟩
  · rw [← hD, ← hW1]
    exact hstart
  · simp only [resolve, hg]; simp [go_sem]
  · simp [invoke, go_sem, eg]
  -- the two blocks of the loop lie beside what the caller says
  let J : List α → World → Prop := fun pre W => I pre W ∧ W.heap[D + 1]? = some (.loop (rec' .ready)) ∧ W.heap[D]? = some (.deferred (some []))
  have hJ : OwnFrom W1.heap.size J := fun pre X Y row hs hgr hr => by
    have hne : ∀ i, i < D + 2 → row ≠ some i := fun i hi e => by have := (hr i e).1; omega
    refine ⟨hI pre X Y row hs.1 hgr (fun r e => ⟨by have := (hr r e).1; omega, (hr r e).2⟩), ?_, ?_⟩
    · exact (hgr.block (D + 1) (Array.getElem?_eq_some_iff.1 hs.2.1).1 (hne _ (by omega)).symm).trans hs.2.1
    · exact (hgr.block D (Array.getElem?_eq_some_iff.1 hs.2.2).1 (hne _ (by omega)).symm).trans hs.2.2
  have hround : ∀ pre x V, J pre V → pre.length < its.length → YieldAt Fence.wide (n - 1 - 1) Tryz.prog (D + 1) (encs x) V fun e V' => e = .returned (.bool true) ∧ J (pre ++ [x]) V' ∧ KeepX m W1.heap.size V V' := by
    rintro pre x V ⟨hi, hl, hk⟩ hlen
    refine ⟨fn, _, assign, body, run_yield hl (hps x), roundIn_of_wpIn hfn (hassign (D + 1) pre x V _ hi fun a' Va hka hia hax => ?_)⟩
    have hla := hka.2 _ _ (by omega) hl rfl
    have hda := hka.2 _ _ (Nat.le_refl _) hk rfl
    refine ⟨_, run_beginRound hla rfl, ?_⟩
    obtain ⟨Vb, hVb⟩ : ∃ Vb, Va.putObj (D + 1) (.loop { rec' .ready with state := .busy }) = Vb := ⟨_, rfl⟩
    have hlb : Vb.heap[D + 1]? = some (.loop { rec' .ready with state := .busy }) := by rw [← hVb]; exact World.putObj_heap_same (Array.getElem?_eq_some_iff.1 hla).1
    have hdb : Vb.heap[D]? = some (.deferred (some [])) := by rw [← hVb]; exact (World.putObj_heap_other (by omega)).trans hda
    have kab : KeepX m W1.heap.size Va Vb := by
      rw [← hVb]
      exact ⟨KpU.putObj _ (by omega) hla rfl, fun i o hi ho _ => (World.putObj_heap_other (by omega)).trans ho⟩
    have hib : I pre Vb := by rw [← hVb]; exact hI.putObj _ hia (by omega) hla rfl
    have haxb : Ax x a' Vb := by rw [← hVb]; exact (hAx x a').putObj (s := ()) _ hax (by omega) hla rfl
    rw [hVb]
    refine wpIn_mono (hbody (D + 1) pre x a' Vb hib haxb hlen) fun e ax Vc hp => ?_
    obtain ⟨rfl, hkc, hic⟩ := hp
    have hlc := hkc.2 _ _ (by omega) hlb rfl
    have hdc := hkc.2 _ _ (Nat.le_refl _) hdb rfl
    have hend := run_endRound (P := Tryz.prog) none hlc
    refine ⟨_, _, hend, rfl, ⟨hI.putObj _ hic (by omega) hlc rfl, World.putObj_heap_same (Array.getElem?_eq_some_iff.1 hlc).1, (World.putObj_heap_other (by omega)).trans hdc⟩, ?_⟩
    have kcd : KeepX m W1.heap.size Vc (Vc.putObj (D + 1) (.loop (rec' .ready))) := ⟨KpU.putObj _ (by omega) hlc rfl, fun i o hi ho _ => (World.putObj_heap_other (by omega)).trans ho⟩
    exact (((hka.mono (by omega)).trans kab).trans (hkc.mono (by omega))).trans kcd
  refine (hseq (D + 1) J W1 (hb0.trans (hbel.mono hb0.size)) (by omega) hJ hround ⟨hI1, hrec1, hdef1⟩).mono ?_
  rintro e V ⟨⟨v, rfl⟩, hi, hl, hk⟩
  exact ⟨none, _, run_endLoop (P := Tryz.prog) hl (fun e => by cases e), hdone D _ (Nat.le_refl _) (hI.putObj _ hi (by omega) hl rfl) ((World.putObj_heap_other (by omega)).trans hk)⟩
theorem down_own (w0 : World) (n : Nat) (hn : 2 ≤ n) (m B : Nat) (a : Option Addr) (len cap : Nat) (its : List (It w0)) (hlen : (its.length : Int) ≤ 1000000) (w : World) (hL : LooksV B a len cap (its.map It.u) w) (hm : ∀ b ∈ lookV B a its, b < m) :
    SeqOwn n 97 #[.pointer (some ⟨B, 0, none⟩)] (fun x : It w0 => #[x.u.val]) its m w := fun l J W hW _ hJ hY h0 => by
  have h := down_stops w0 n hn B a len cap its hlen w hL l J (fun _ _ => False) W hW (fun s X Y row hs hg hr => hJ s X Y row hs hg (fun r e => ⟨(hr r e).1, (hr r e).2.choose, (hr r e).2.choose_spec.1, Obj.not_cells_of_walk (hr r e).2.choose_spec.2⟩)) (fun s X Y row hs _ _ => hs)
    (fun pre x W1 h1 h2 => (hY pre x W1 h1 h2).mono (fun e W' h => .inl ⟨h.1, h.2.1, h.2.2.1.1, fun b hb hlt => h.2.2.1.2.1 b (hm b hb) hlt⟩)) h0
  refine h.mono ?_
  rintro e W' ⟨hv, (⟨ys, rfl, hj⟩ | ⟨pre, _, hf⟩)⟩
  · exact ⟨hv, hj⟩
  · exact hf.elim
end Go.Proofs.YtohhlhnjopbmhaaGreatDoor.K
