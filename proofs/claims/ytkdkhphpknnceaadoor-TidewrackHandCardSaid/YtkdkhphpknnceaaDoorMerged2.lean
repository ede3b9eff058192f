/- The iterator wide.columns hands on how many columns each of the runes has, one behind the other. -/
import Derived.Test.YtkdkhphpknnceaaDoorMerged1
import Derived.Test.YtkdkhphpknnceaaDoorWBase
import Derived.RangeFuncNested
import Derived.RangeFuncBound
import Derived.RangeFuncCalls
import Derived.RangeFuncLeaves
import Derived.RangeFuncBox
import Derived.Shelf.Abstract
import Derived.Shelf.RegionOpen
import Derived.OwnWalkIn
import Derived.TacticsInMore
import Derived.LoopNIn
import Derived.LoopIn
namespace Go.Proofs.YtkdkhphpknnceaaDoor.W
open Go.RowKit Go.Shelf

attribute [local go_sem] Oper.semAt_some

theorem Tab.kept {w w' : World} (h : Tab w) (hk : w'.heap[0]? = w.heap[0]?) : Tab w' := fun k hlt =>
  ⟨(World.cell?_of_block (a := ⟨0, k * 3, none⟩) hk).trans (h k hlt).1, (World.cell?_of_block (a := ⟨0, k * 3 + 1, none⟩) hk).trans (h k hlt).2.1, (World.cell?_of_block (a := ⟨0, k * 3 + 2, none⟩) hk).trans (h k hlt).2.2⟩
/-- what the iterator looks at: its box, the spans, the runes -/
def lookL (B : Nat) (a : Option Addr) (zs : List Int) : List Nat := B :: 0 :: blkOf a zs
structure Looks (B : Nat) (a : Option Addr) (len cap : Nat) (zs : List Int) (w : World) : Prop where
  bx : Boxed w B 55 (.slice a len cap)
  rs : RunesIn a len zs w
  tb : Tab w
  lt : ∀ b ∈ blkOf a zs, b < w.heap.size
theorem Looks.keep {B : Nat} {a : Option Addr} {len cap : Nat} {zs : List Int} {w w' : World} (h : Looks B a len cap zs w) (hk : KeepL (lookL B a zs) w w') : Looks B a len cap zs w' :=
  ⟨(hk.2 B (by simp [lookL]) h.bx.lt).trans h.bx, h.rs.kept hk.1 (fun b off hz e hl => hk.2 b (List.mem_cons_of_mem _ (List.mem_cons_of_mem _ (blkOf_some hz e))) hl), h.tb.kept (hk.2 0 (by simp [lookL]) h.tb.pos), fun b hb => Nat.lt_of_lt_of_le (h.lt b hb) hk.1⟩
theorem Looks.all {B : Nat} {a : Option Addr} {len cap : Nat} {zs : List Int} {w : World} (h : Looks B a len cap zs w) : ∀ b ∈ lookL B a zs, b < w.heap.size := by
  intro b hb
  rcases List.mem_cons.1 hb with rfl | hb
  · exact h.bx.lt
  rcases List.mem_cons.1 hb with rfl | hb
  · exact h.tb.pos
  · exact h.lt b hb
theorem Looks.below {B : Nat} {a : Option Addr} {len cap : Nat} {zs : List Int} {w w' : World} (h : Looks B a len cap zs w) (hb : Below w.heap.size w w') : Looks B a len cap zs w' := h.keep (KeepL.of_below hb h.all)

set_option maxRecDepth 100000 in
set_option maxHeartbeats 2000000 in
theorem cols1_in (n : Nat) (hn : 2 ≤ n) (l B : Nat) (a : Option Addr) (len cap : Nat) (zs : List Int) (hlen : (zs.length : Int) ≤ 1000000) (J Jx : List Int → World → Prop) (W : World) (hJ : AbidesFrom W.heap.size J)
    (hY : ∀ pre x W, J pre W → pre.length < zs.length → YieldAt Fence.wide (n - 1) Tryd.prog l #[.int .i64 (ofS x : Int)] W fun e W' =>
      (e = .returned (.bool true) ∧ J (pre ++ [x]) W' ∧ KeepL (lookL B a zs) W W') ∨ (e = .returned (.bool false) ∧ Jx (pre ++ [x]) W'))
    (hL : Looks B a len cap zs W) (h0 : J [] W) :
    CallsIn Fence.wide n Tryd.prog 58 #[.func (.yield l) #[] #[], .pointer (some ⟨B, 0, none⟩)] W fun e W' => (∃ v, e = .returned v) ∧
      ((∃ ys, ys = zs ∧ J ys W') ∨ (∃ pre, (∃ j, j ≤ zs.length ∧ pre = zs.take j) ∧ Jx pre W')) := by
  obtain ⟨N, hN⟩ : ∃ N, zs.length = N := ⟨_, rfl⟩
  rw [hN] at hlen
  have hl : len = N := by rw [hL.rs.1, hN]
  subst hl
  have HN := Lib.hid hN
  have HY := Lib.hid hY
  have HJ := Lib.hid hJ
  have HL := Lib.hid hL
  have hs := hL.bx.cell
  obtain ⟨base, hbase⟩ : ∃ base, W.heap.size = base := ⟨_, rfl⟩
  have hszb : base ≤ W.heap.size := by omega
  rw [hbase] at HJ
  clear hY hJ hL hN hbase
  refine callsIn_of_wp Tryd.func58 rfl trivial ?_ rfl
  simp only [Tryd.ntmps58, List.size_toArray, List.length_cons, List.length_nil, Nat.reduceAdd, Nat.reduceSub, Array.replicate_succ, Array.replicate_zero, List.push_toArray, List.append_toArray, List.nil_append, List.cons_append]
  gi_wp2
  gi_loopw [7] (fun i wr => ∃ j : Nat, i = .int .i64 (j : Int) ∧ j ≤ len ∧ base ≤ wr.heap.size ∧ Hid (Looks B a len cap zs wr ∧ J (zs.take j) wr)) (fun i _ => len - (intOf i).toNat)
  case atStart => exact ⟨0, rfl, by omega, hszb, Lib.hid ⟨HL.out, h0⟩⟩
  case round =>
    rename_i wr
    obtain ⟨j, rfl, hj, hbw, HF⟩ := hrel
    clear hs
    by_cases hlt : j < len
    · have hjl : j < zs.length := by rw [HN.out]; exact hlt
      obtain ⟨b, off, rfl, hbl, hI⟩ := HF.out.1.rs.2.resolve_left (by intro e; rw [e] at hjl; simp at hjl)
      have hc := hI j hjl
      have HT := Lib.hid (take_snoc zs j hjl)
      obtain ⟨z, hz⟩ : ∃ z, zs.getD j 0 = z := ⟨_, rfl⟩
      rw [hz] at hc HT
      have HO := Lib.hid (of_any z wr HF.out.1.tb)
      clear hz hI hjl hbl
      gi_wp2_with fail
      refine ⟨by first | trivial | omega, fun _ => by omega, ?_⟩
      refine (callsIn_wide.2 HO.out).mono ?_
      rintro e w1 ⟨rfl, hb1⟩
      have hL1 := HF.out.1.below hb1
      have hJ1 := HJ.out (zs.take j) wr w1 none HF.out.2 (grownBy_of_below hb1) (fun r e => by cases e)
      have hb1' : base ≤ w1.heap.size := Nat.le_trans hbw hb1.size
      have hs := hL1.bx.cell
      obtain ⟨fn, tmps, assign, body, hy, hR⟩ := HY.out (zs.take j) z w1 hJ1 (by rw [List.length_take, HN.out]; omega)
      rw [← HT.out] at hR
      have HR := Lib.hid hR
      have HL1 := Lib.hid hL1
      clear hb1 hL1 hJ1 hR hc
      gi_wp2
      refine ⟨fun _ => by omega, HR.out.mono ?_⟩
      rintro e W' (⟨rfl, hJ', hk⟩ | ⟨rfl, hJx'⟩)
      · have hb' : base ≤ W'.heap.size := Nat.le_trans hb1' hk.1
        have HF' := Lib.hid (And.intro (HL1.out.keep hk) hJ')
        clear hJ' hk
        gi_wp2
        go_roundw
        case rel => exact ⟨j + 1, by go_num, by omega, hb', HF'⟩
        case measure => simp [intOf]; omega
      · gi_wp2
        refine bodyPost_ret (results_none rfl _ _ _) rfl ?_
        exact ⟨⟨_, rfl⟩, .inr ⟨_, ⟨j + 1, by rw [HN.out]; omega, rfl⟩, hJx'⟩⟩
    · obtain rfl : j = len := by omega
      have hfin : zs.take j = zs := by rw [← HN.out]; exact List.take_length
      have HFin := Lib.hid hfin
      clear hfin
      gi_wp2
      go_end0
      exact ⟨⟨_, rfl⟩, .inl ⟨_, rfl, by have h := HF.out.2; rwa [HFin.out] at h⟩⟩
end Go.Proofs.YtkdkhphpknnceaaDoor.W

/- The contract of wide.Sum: of any runes, all their columns together. -/
namespace Go.Proofs.YtkdkhphpknnceaaDoor.W
open Go.RowKit Go.Shelf

attribute [local go_sem] Oper.semAt_some

theorem columns_in (n : Nat) (a : Option Addr) (len cap : Nat) (w : World) :
    CallsIn Fence.wide n Tryd.prog 45 #[.slice a len cap] w fun e w' => e = .returned (.func (.func 58) #[] #[.pointer (some ⟨w.heap.size, 0, none⟩)]) ∧ w' = w.alloc (.cells #[.slice a len cap] 55) := by
  refine callsIn_of_wp Tryd.func45 rfl trivial ?_ rfl
  simp only [Tryd.ntmps45, List.size_toArray, List.length_cons, List.length_nil, Nat.reduceAdd, Nat.reduceSub, Array.replicate_succ, Array.replicate_zero, List.push_toArray, List.append_toArray, List.nil_append, List.cons_append]
  gi_wp2
  go_ret
  exact ⟨rfl, rfl⟩
/-- What a slice of runes in a world with the spans is. -/
structure Rn (a : Option Addr) (len : Nat) (zs : List Int) (w : World) : Prop where
  rs : RunesIn a len zs w
  tb : Tab w
  lt : ∀ b ∈ blkOf a zs, b < w.heap.size
  few : (zs.length : Int) ≤ 1000000
theorem Rn.belowAll {a : Option Addr} {len : Nat} {zs : List Int} {w w' : World} (h : Rn a len zs w) (hb : Below w.heap.size w w') : Rn a len zs w' := ⟨h.rs.belowAll hb, h.tb.belowAll hb, fun b hm => Nat.lt_of_lt_of_le (h.lt b hm) hb.size, h.few⟩
theorem looks_new {a : Option Addr} {len cap : Nat} {zs : List Int} {w : World} (h : Rn a len zs w) : Looks w.heap.size a len cap zs (w.alloc (.cells #[.slice a len cap] 55)) := by
  have hb : Below w.heap.size w (w.alloc (.cells #[.slice a len cap] 55)) := (Below.refl _ _).alloc (Nat.le_refl _) _
  have h' := h.belowAll hb
  exact ⟨Boxed.new w 55 _, h'.rs, h'.tb, h'.lt⟩
theorem cols_stops (n : Nat) (hn : 2 ≤ n) (B : Nat) (a : Option Addr) (len cap : Nat) (zs : List Int) (hlen : (zs.length : Int) ≤ 1000000) (w : World) (hL : Looks B a len cap zs w) :
    SeqStopsK Fence.wide n Tryd.prog 58 #[.pointer (some ⟨B, 0, none⟩)] (fun x : Int => #[Value.int .i64 (ofS x : Int)]) (KeepL (lookL B a zs)) (fun ys => ys = zs) (fun pre => ∃ j, j ≤ zs.length ∧ pre = zs.take j) zs.length w := fun l J Jx W hW hJ _ hY h0 =>
  cols1_in n hn l B a len cap zs hlen J Jx W hJ hY (hL.keep (KeepL.of_below hW hL.all)) h0
end Go.Proofs.YtkdkhphpknnceaaDoor.W
