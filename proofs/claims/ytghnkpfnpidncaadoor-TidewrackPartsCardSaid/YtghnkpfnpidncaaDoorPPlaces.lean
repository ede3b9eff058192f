/- The iterator (*Slot).places hands on just the indexes of the parts that are there, or of those that aren't; Have and Lacks. -/
import Derived.Test.YtghnkpfnpidncaaDoorPSlot
namespace Go.Proofs.YtghnkpfnpidncaaDoor.P
open Go.RowKit Go.Shelf

attribute [local go_sem] Oper.semAt_some

/-- the indexes with a part, or without -/
def whichS (L : PL) (there : Bool) : List Nat := (List.range L.length).filter fun i => (L.getD i none).isSome == there
def whichTo (L : PL) (there : Bool) (k : Nat) : List Nat := (List.range k).filter fun i => (L.getD i none).isSome == there
/-- an index with a part, or without -/
abbrev Ix (L : PL) (there : Bool) := { i : Nat // i < L.length ∧ ((L.getD i none).isSome == there) = true }
theorem whichTo_yes {L : PL} {there : Bool} {k : Nat} (h : ((L.getD k none).isSome == there) = true) : whichTo L there (k + 1) = whichTo L there k ++ [k] := by
  unfold whichTo
  rw [List.range_succ, List.filter_append, List.filter_cons, h]
  rfl
theorem whichTo_no {L : PL} {there : Bool} {k : Nat} (h : ((L.getD k none).isSome == there) = false) : whichTo L there (k + 1) = whichTo L there k := by
  unfold whichTo
  rw [List.range_succ, List.filter_append, List.filter_cons, h]
  simp
theorem whichTo_len (L : PL) (there : Bool) (k : Nat) : (whichTo L there k).length ≤ k := by
  unfold whichTo
  exact Nat.le_trans (List.length_filter_le _ _) (by simp)
/-- these blocks are kept -/
def KeepL (l : List Nat) (A B : World) : Prop := A.heap.size ≤ B.heap.size ∧ ∀ b ∈ l, b < A.heap.size → B.heap[b]? = A.heap[b]?
theorem keepL_t {l : List Nat} {A B C : World} (h : KeepL l A B) (k : KeepL l B C) : KeepL l A C := ⟨Nat.le_trans h.1 k.1, fun b hb hlt => (k.2 b hb (Nat.lt_of_lt_of_le hlt h.1)).trans (h.2 b hb hlt)⟩
theorem keepL_b {l : List Nat} {w : World} (hl : ∀ b ∈ l, b < w.heap.size) (W : World) (i : Nat) (o o' : Obj) (hi : w.heap.size ≤ i) (_ : W.heap[i]? = some o) (_ : o.isCells = false) (_ : o.isWalk = false) : KeepL l W (W.putObj i o') :=
  ⟨by simp, fun b hb _ => World.putObj_heap_other (by have := hl b hb; omega)⟩
theorem KeepL.of_below {l : List Nat} {A B : World} {n : Nat} (h : Below n A B) (hl : ∀ b ∈ l, b < n) : KeepL l A B := ⟨h.size, fun b hb _ => h.block b (hl b hb)⟩
theorem KeepL.refl (l : List Nat) (A : World) : KeepL l A A := ⟨Nat.le_refl _, fun _ _ _ => rfl⟩
/-- what the iterator looks at: two boxes, the slot, its map -/
def lookL (Bs Bt p : Nat) (mo : Option Nat) : List Nat := Bs :: Bt :: p :: mo.toList
structure Looks (Bs Bt p : Nat) (mo : Option Nat) (k : Int) (L : PL) (there : Bool) (w : World) : Prop where
  bs : Boxed w Bs 86 (.pointer (some ⟨p, 0, none⟩))
  bt : Boxed w Bt 4 (.bool there)
  slot : SlotAt p mo k L w
theorem Looks.keep {Bs Bt p : Nat} {mo : Option Nat} {k : Int} {L : PL} {there : Bool} {w w' : World} (h : Looks Bs Bt p mo k L there w) (hk : KeepL (lookL Bs Bt p mo) w w') : Looks Bs Bt p mo k L there w' :=
  ⟨(hk.2 Bs (by simp [lookL]) h.bs.lt).trans h.bs, (hk.2 Bt (by simp [lookL]) h.bt.lt).trans h.bt, h.slot.kept (hk.2 p (by simp [lookL]) h.slot.lt) (fun b e => hk.2 b (by simp [lookL, e]) (h.slot.mlt b e))⟩
theorem Looks.alloc {Bs Bt p : Nat} {mo : Option Nat} {k : Int} {L : PL} {there : Bool} {w : World} (h : Looks Bs Bt p mo k L there w) (o : Obj) : Looks Bs Bt p mo k L there (w.alloc o) :=
  ⟨h.bs.alloc _, h.bt.alloc _, h.slot.belowAll ((Below.refl _ _).alloc (Nat.le_refl _) _)⟩
theorem Looks.lt {Bs Bt p : Nat} {mo : Option Nat} {k : Int} {L : PL} {there : Bool} {w : World} (h : Looks Bs Bt p mo k L there w) : ∀ b ∈ lookL Bs Bt p mo, b < w.heap.size := by
  intro b hb
  rcases List.mem_cons.1 hb with rfl | hb
  · exact h.bs.lt
  rcases List.mem_cons.1 hb with rfl | hb
  · exact h.bt.lt
  rcases List.mem_cons.1 hb with rfl | hb
  · exact h.slot.lt
  · exact h.slot.mlt b (by simpa using hb)

set_option maxRecDepth 100000 in
set_option maxHeartbeats 2000000 in
theorem places1_in (n : Nat) (hn : 1 ≤ n) (l Bs Bt p : Nat) (mo : Option Nat) (k : Int) (L : PL) (there : Bool) (J Jx : List (Ix L there) → World → Prop) (W : World) (hJ : AbidesFrom W.heap.size J)
    (hY : ∀ pre x W, J pre W → pre.length < L.length → YieldAt Fence.wide (n - 1) Tryd.prog l #[.int .i64 (x.1 : Int)] W fun e W' =>
      (e = .returned (.bool true) ∧ J (pre ++ [x]) W' ∧ KeepL (lookL Bs Bt p mo) W W') ∨ (e = .returned (.bool false) ∧ Jx (pre ++ [x]) W'))
    (hL : Looks Bs Bt p mo k L there W) (h0 : J [] W) :
    CallsIn Fence.wide n Tryd.prog 66 #[.func (.yield l) #[] #[], .pointer (some ⟨Bs, 0, none⟩), .pointer (some ⟨Bt, 0, none⟩)] W fun e W' => (∃ v, e = .returned v) ∧
      ((∃ ys : List (Ix L there), ys.map (·.1) = whichS L there ∧ J ys W') ∨ (∃ pre, True ∧ Jx pre W')) := by
  have hlen : (L.length : Int) ≤ 4096 := by have := hL.slot.len_le; omega
  obtain ⟨N, hN⟩ : ∃ N, L.length = N := ⟨_, rfl⟩
  rw [hN] at hlen
  have HN := Lib.hid hN
  have HY := Lib.hid hY
  have HJ := Lib.hid hJ
  have HL := Lib.hid hL
  have hs := hL.bs.cell
  have hc1 := hL.slot.cells.2.1
  rw [hN] at hc1
  obtain ⟨base, hbase⟩ : ∃ base, W.heap.size = base := ⟨_, rfl⟩
  have hszb : base ≤ W.heap.size := by omega
  rw [hbase] at HJ
  clear hY hJ hL hN hbase
  refine callsIn_of_wp Tryd.func66 rfl trivial ?_ rfl
  simp only [Tryd.ntmps66, List.size_toArray, List.length_cons, List.length_nil, Nat.reduceAdd, Nat.reduceSub, Array.replicate_succ, Array.replicate_zero, List.push_toArray, List.append_toArray, List.nil_append, List.cons_append]
  gi_wp2
  gi_loopw [11] (fun i wr => ∃ (j : Nat) (pre : List (Ix L there)), i = .int .i64 (j : Int) ∧ j ≤ N ∧ base ≤ wr.heap.size ∧ Hid (Looks Bs Bt p mo k L there wr ∧ J pre wr ∧ pre.map (·.1) = whichTo L there j)) (fun i _ => N - (intOf i).toNat)
  case atStart => exact ⟨0, [], rfl, by omega, hszb, Lib.hid ⟨HL.out, h0, rfl⟩⟩
  case round =>
    rename_i wr
    obtain ⟨j, pre, rfl, hj, hbw, HF⟩ := hrel
    clear hs hc1
    by_cases hlt : j < N
    · obtain ⟨b, rfl⟩ : ∃ b, mo = some b := by
        cases mo with
        | some b => exact ⟨b, rfl⟩
        | none =>
          have h := HF.out.1.slot.2.2
          simp only at h
          have hn := HN.out
          rw [h] at hn
          simp at hn
          omega
      have hjl : j < L.length := by rw [HN.out]; exact hlt
      obtain ⟨s, hrun, hbs⟩ := HF.out.1.slot.2.2.2.look2 hjl HF.out.1.slot.len_le
      have hs := HF.out.1.bs.cell
      have hc2 := HF.out.1.slot.cells.2.2
      have hab : Below wr.heap.size wr (wr.alloc (.cells #[.string s] 88)) := (Below.refl _ _).alloc (Nat.le_refl _) _
      have HLa := Lib.hid (HF.out.1.alloc (.cells #[.string s] 88))
      have HJa := Lib.hid (HJ.out pre wr (wr.alloc (.cells #[.string s] 88)) none HF.out.2.1 (World.grownBy_alloc wr _ none) (fun r e => by cases e))
      have ht := HLa.out.bt.cell
      have hlen2 := whichTo_len L there j
      have hpl : pre.length = (whichTo L there j).length := by rw [← HF.out.2.2, List.length_map]
      obtain ⟨is, his⟩ : ∃ is, (L.getD j none).isSome = is := ⟨_, rfl⟩
      rw [his] at hrun
      clear hbs hab
      cases hit : (is == there) with
      | true =>
        have hw := whichTo_yes (by rw [his]; exact hit : ((L.getD j none).isSome == there) = true)
        obtain ⟨ix, hix⟩ : ∃ ix : Ix L there, ix.1 = j := ⟨⟨j, hjl, by rw [his]; exact hit⟩, rfl⟩
        obtain ⟨fn, tmps, assign, body, hy, hR⟩ := HY.out pre ix _ HJa.out (by omega)
        rw [hix] at hy
        have hisT : is = there := by simpa using hit
        subst hisT
        have HW : Hid ((pre ++ [ix]).map (fun x : Ix L is => x.1) = whichTo L is (j + 1)) := Lib.hid (by rw [hw, List.map_append, HF.out.2.2, List.map_cons, List.map_nil, hix])
        have HR := Lib.hid hR
        clear hw hR hit hlen2 hpl hix his
        gi_wp2
        refine HR.out.mono ?_
        rintro e W' (⟨rfl, hJ', hk⟩ | ⟨rfl, hJx'⟩)
        · have hb' : base ≤ W'.heap.size := Nat.le_trans (by simp; omega) hk.1
          have HF' := Lib.hid (And.intro (HLa.out.keep hk) (And.intro hJ' HW.out))
          clear hJ' hk
          gi_wp2
          go_roundw
          case rel => exact ⟨j + 1, _, by go_num, by omega, hb', HF'⟩
          case measure => simp [intOf]; omega
        · gi_wp2
          refine bodyPost_ret (results_none rfl _ _ _) rfl ?_
          exact ⟨⟨_, rfl⟩, .inr ⟨_, trivial, hJx'⟩⟩
      | false =>
        have hw := whichTo_no (by rw [his]; exact hit : ((L.getD j none).isSome == there) = false)
        have HF' := Lib.hid (And.intro HLa.out (And.intro HJa.out (HF.out.2.2.trans hw.symm)))
        clear hw his hlen2 hpl
        gi_wp2
        refine ⟨(fun f hf => by cases hf), ?_⟩
        gi_wp2
        go_roundw
        case rel => exact ⟨j + 1, _, by go_num, by omega, by simp; omega, HF'⟩
        case measure => simp [intOf]; omega
    · obtain rfl : j = N := by omega
      have hfin : whichTo L there j = whichS L there := by unfold whichS whichTo; rw [HN.out]
      gi_wp2
      go_end0
      exact ⟨⟨_, rfl⟩, .inl ⟨_, HF.out.2.2.trans hfin, HF.out.2.1⟩⟩
theorem places_in (n p : Nat) (there : Bool) (w : World) :
    CallsIn Fence.wide n Tryd.prog 47 #[.pointer (some ⟨p, 0, none⟩), .bool there] w fun e w' => e = .returned (.func (.func 66) #[] #[.pointer (some ⟨w.heap.size, 0, none⟩), .pointer (some ⟨w.heap.size + 1, 0, none⟩)]) ∧ w' = (w.alloc (.cells #[.pointer (some ⟨p, 0, none⟩)] 86)).alloc (.cells #[.bool there] 4) := by
  refine callsIn_of_wp Tryd.func47 rfl trivial ?_ rfl
  simp only [Tryd.ntmps47, List.size_toArray, List.length_cons, List.length_nil, Nat.reduceAdd, Nat.reduceSub, Array.replicate_succ, Array.replicate_zero, List.push_toArray, List.append_toArray, List.nil_append, List.cons_append]
  gi_wp2
  go_ret
  exact ⟨rfl, rfl⟩
theorem looks_new {p : Nat} {mo : Option Nat} {k : Int} {L : PL} {w : World} (h : SlotAt p mo k L w) (there : Bool) :
    Looks w.heap.size (w.heap.size + 1) p mo k L there ((w.alloc (.cells #[.pointer (some ⟨p, 0, none⟩)] 86)).alloc (.cells #[.bool there] 4)) := by
  have b1 := Boxed.new w 86 (.pointer (some ⟨p, 0, none⟩))
  have b2 := Boxed.new (w.alloc (.cells #[.pointer (some ⟨p, 0, none⟩)] 86)) 4 (.bool there)
  rw [World.size_alloc] at b2
  exact ⟨b1.alloc _, b2, h.belowAll (((Below.refl _ _).alloc (Nat.le_refl _) _).alloc (by simp) _)⟩
theorem places_stops (n : Nat) (hn : 1 ≤ n) (Bs Bt p : Nat) (mo : Option Nat) (k : Int) (L : PL) (there : Bool) (w : World) (hL : Looks Bs Bt p mo k L there w) :
    SeqStopsK Fence.wide n Tryd.prog 66 #[.pointer (some ⟨Bs, 0, none⟩), .pointer (some ⟨Bt, 0, none⟩)] (fun x : Ix L there => #[Value.int .i64 (x.1 : Int)]) (KeepL (lookL Bs Bt p mo)) (fun ys => ys.map (·.1) = whichS L there) (fun _ => True) L.length w := fun l J Jx W hW hJ _ hY h0 =>
  places1_in n hn l Bs Bt p mo k L there J Jx W hJ hY (hL.keep (KeepL.of_below hW hL.lt)) h0
theorem stops_mono {α : Type} {F : Fence} {n : Nat} {P : Program} {g : Nat} {lb : Array Value} {encs : α → Array Value} {Kp Kq : World → World → Prop} {S Sp : List α → Prop} {N : Nat} {w : World}
    (h : SeqStopsK F n P g lb encs Kp S Sp N w) (hk : ∀ A B, Kq A B → Kp A B) : SeqStopsK F n P g lb encs Kq S Sp N w := fun l J Jx W hW hJ hJx hY h0 =>
  h l J Jx W hW hJ hJx (fun pre x W1 hj hlt => (hY pre x W1 hj hlt).mono (fun e w' hr => by
    rcases hr with ⟨h1, h2, h3⟩ | h4
    · exact .inl ⟨h1, h2, hk _ _ h3⟩
    · exact .inr h4)) h0
/-- Where Have and Lacks are left. -/
def WhichPost (L : PL) (there : Bool) (w : World) (e : Ending) (w' : World) : Prop := ∃ v : Value, e = .returned v ∧ w'.ownsRow w.heap.size 3 1 v (whichS L there).length ((whichS L there).map fun x : Nat => Value.int .i64 (x : Int)) ∧ Below w.heap.size w w'
theorem collect_places (n : Nat) (hn : 4 ≤ n) (p : Nat) (mo : Option Nat) (k : Int) (L : PL) (there : Bool) (w : World) (h : SlotAt p mo k L w) :
    CallsIn Fence.wide n Tryd.prog 50 #[.func (.func 66) #[] #[.pointer (some ⟨w.heap.size, 0, none⟩), .pointer (some ⟨w.heap.size + 1, 0, none⟩)]] ((w.alloc (.cells #[.pointer (some ⟨p, 0, none⟩)] 86)).alloc (.cells #[.bool there] 4)) (WhichPost L there w) := by
  have hL := looks_new h there
  have hlen := h.len_le
  refine (colI_in (fun x : Ix L there => x.1) n (by omega) 66 _ (enters_of Tryd.func66 (by kernel_rfl) rfl) _ _ L.length (by omega) _ (stops_mono (places_stops (n - 1 - 1) (by omega) w.heap.size (w.heap.size + 1) p mo k L there _ hL) (fun A B hb => KeepL.of_below hb hL.lt))).mono ?_
  rintro e w' ⟨v, ss, rfl, hss, hrow, hb⟩
  have e1 : (whichS L there).map (fun x : Nat => Value.int .i64 (x : Int)) = ss.map (fun x => Value.int .i64 (x.1 : Int)) := by rw [← hss, List.map_map]; rfl
  have e2 : (whichS L there).length = ss.length := by rw [← hss, List.length_map]
  exact ⟨v, rfl, by rw [e1, e2]; exact ownsRow_mono hrow (by simp; omega), (((Below.refl _ w).alloc (Nat.le_refl _) _).alloc (by simp) _).trans (hb.mono (by simp; omega))⟩
end Go.Proofs.YtghnkpfnpidncaaDoor.P
