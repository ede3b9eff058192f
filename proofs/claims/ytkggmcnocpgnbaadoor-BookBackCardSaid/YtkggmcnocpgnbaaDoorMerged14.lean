/- The contracts of num.Of and of In's methods Fail, Num, End, Err, Left. -/
import Derived.Test.YtkggmcnocpgnbaaDoorMerged13
import Derived.RangeFuncBox
import Derived.OwnWalk
import Derived.Maps.AppendAt
namespace Go.Proofs.YtkggmcnocpgnbaaDoor.I
open Go.RowKit

/-- Block p is an In: what is left, and the first error. -/
def InBlk (p : Nat) (s : ByteArray) (e : Nat) (w : World) : Prop := w.heap[p]? = some (.cells #[.string s, .int .i64 e] 112 (0, 0))
theorem InBlk.lt {p : Nat} {s : ByteArray} {e : Nat} {w : World} (h : InBlk p s e w) : p < w.heap.size := (Array.getElem?_eq_some_iff.1 h).1
theorem InBlk.c0 {p : Nat} {s : ByteArray} {e : Nat} {w : World} (h : InBlk p s e w) : w.cell? ⟨p, 0, none⟩ = some (.string s) := by simp [World.cell?, show w.heap[p]? = _ from h]
theorem InBlk.c1 {p : Nat} {s : ByteArray} {e : Nat} {w : World} (h : InBlk p s e w) : w.cell? ⟨p, 1, none⟩ = some (.int .i64 e) := by simp [World.cell?, show w.heap[p]? = _ from h]
theorem InBlk.fr {p : Nat} {s : ByteArray} {e : Nat} {w : World} (h : InBlk p s e w) (o : Nat) : w.frozen? ⟨p, o, none⟩ = false := by simp [World.frozen?, show w.heap[p]? = _ from h]
theorem InBlk.set0 {p : Nat} {s : ByteArray} {e : Nat} {w : World} (h : InBlk p s e w) (s' : ByteArray) : InBlk p s' e (w.setCell ⟨p, 0, none⟩ (.string s')) := by
  unfold InBlk at *
  simp [World.setCell, Array.getElem?_modify, h]
theorem InBlk.set1 {p : Nat} {s : ByteArray} {e : Nat} {w : World} (h : InBlk p s e w) (e' : Nat) : InBlk p s e' (w.setCell ⟨p, 1, none⟩ (.int .i64 e')) := by
  unfold InBlk at *
  simp [World.setCell, Array.getElem?_modify, h]
theorem grown_set (w : World) (p o : Nat) (v : Value) : w.grownBy (w.setCell ⟨p, o, none⟩ v) (some p) :=
  ⟨rfl, rfl, rfl, (KeepsWalks.setCell w _ v).size, fun k _ hk => Below.heap_setCell w ⟨p, o, none⟩ v k (fun e => hk (by rw [e]))⟩
theorem grown_trans {a b c : World} {p : Nat} (h : a.grownBy b (some p)) (k : b.grownBy c (some p)) : a.grownBy c (some p) :=
  ⟨k.os.trans h.os, k.tape.trans h.tape, k.output.trans h.output, Nat.le_trans h.size k.size, fun i hi hn => (k.block i (Nat.lt_of_lt_of_le hi h.size) hn).trans (h.block i hi hn)⟩
theorem grown_refl (w : World) (p : Nat) : w.grownBy w (some p) := ⟨rfl, rfl, rfl, Nat.le_refl _, fun _ _ _ => rfl⟩
/-- The In at block p: these bytes are left, this is the error. -/
def InSt (p : Nat) (l : List UInt8) (e : Nat) (w : World) : Prop := ∃ s : ByteArray, InBlk p s e w ∧ s.data.toList = l ∧ (s.size : Int) ≤ 1000000
theorem inst_len {l : List UInt8} {s : ByteArray} (h : s.data.toList = l) : s.size = l.length := by rw [← h]; rfl

theorem of_any (s : ByteArray) (hs : (s.size : Int) ≤ 1000000) (w : World) : Calls Tryd.prog 22 #[.string s] w fun e w' => e = .returned (.pointer (some ⟨w.heap.size, 0, none⟩)) ∧ InSt w.heap.size s.data.toList 0 w' ∧ w' = w.alloc (.cells #[.string s, .int .i64 0] 112) := by
  go_enter Tryd.func22, Tryd.ntmps22
  go_wp2
  go_ret
  exact ⟨rfl, ⟨s, World.alloc_heap_new _ _, rfl, hs⟩, rfl⟩

/-- What Fail does. -/
def failS (l : List UInt8) (e er : Nat) : List UInt8 × Nat := if e ≠ 0 ∨ er = 0 then (l, e) else ([], er)
/-- A method's answer, the In behind it, and all else as it was. -/
def Took (p : Nat) (v : Value) (st : List UInt8 × Nat) (w : World) (e : Ending) (w' : World) : Prop := e = .returned v ∧ InSt p st.1 st.2 w' ∧ w.grownBy w' (some p)
theorem fail_any (p : Nat) (l : List UInt8) (e er : Nat) (w : World) (h : InSt p l e w) : Calls Tryd.prog 89 #[.pointer (some ⟨p, 0, none⟩), .int .i64 er] w (Took p (.tuple #[]) (failS l e er) w) := by
  obtain ⟨s, hb, hl, hs⟩ := h
  have c0 := hb.c0
  have c1 := hb.c1
  have f0 := hb.fr 0
  have f1 := hb.fr 1
  have HB := Lib.hid hb
  have HL := Lib.hid hl
  clear hb hl
  by_cases he : e = 0
  · subst he
    by_cases her : er = 0
    · subst her
      have hf : failS l 0 0 = (l, 0) := by simp [failS]
      rw [hf]
      clear hf
      go_enter Tryd.func89, Tryd.ntmps89
      go_wp2
      go_end0
      exact ⟨rfl, ⟨s, HB.out, HL.out, hs⟩, grown_refl _ _⟩
    · have hf : failS l 0 er = ([], er) := by simp [failS, her]
      have ht : ((er : Int) == 0) = false := by rw [beq_eq_false_iff_ne]; omega
      rw [hf]
      clear hf her
      go_enter Tryd.func89, Tryd.ntmps89
      go_wp2
      go_end0
      exact ⟨rfl, ⟨⟨#[]⟩, (HB.out.set1 er).set0 _, rfl, by decide⟩, grown_trans (grown_set _ _ _ _) (grown_set _ _ _ _)⟩
  · have hf : failS l e er = (l, e) := by simp [failS, he]
    have ht : ((e : Int) == 0) = false := by rw [beq_eq_false_iff_ne]; omega
    have ht2 : ((e : Int) != 0) = true := by rw [bne_iff_ne]; omega
    rw [hf]
    clear hf he
    go_enter Tryd.func89, Tryd.ntmps89
    go_wp2
    go_end0
    exact ⟨rfl, ⟨s, HB.out, HL.out, hs⟩, grown_refl _ _⟩
/-- What Num does. -/
def numS (l : List UInt8) (e : Nat) : (List UInt8 × Nat) × Nat := if (firstS l).2.2 = 0 then ((l.drop (firstS l).2.1, e), (firstS l).1) else (failS l e (firstS l).2.2, 0)
set_option maxHeartbeats 400000 in
theorem innum_any (p : Nat) (l : List UInt8) (e : Nat) (w : World) (h : InSt p l e w) : Calls Tryd.prog 88 #[.pointer (some ⟨p, 0, none⟩)] w (Took p (.int .i64 (numS l e).2) (numS l e).1 w) := by
  have hst := h
  obtain ⟨s, hb, hl, hs⟩ := h
  have c0 := hb.c0
  have f0 := hb.fr 0
  obtain ⟨v, sz, er, hfs⟩ : ∃ v sz er, firstS l = (v, sz, er) := ⟨_, _, _, rfl⟩
  have H1 := Lib.hid (first_any s hs v sz er (by rw [hl]; exact hfs) w)
  have HB := Lib.hid hb
  have HL := Lib.hid hl
  by_cases her : er = 0
  · subst her
    have hle := (first_only hfs).2.2.2
    have hsz : (sz : Int) ≤ s.size := by rw [inst_len hl]; omega
    have hn : numS l e = ((l.drop sz, e), v) := by simp [numS, hfs]
    rw [hn]
    clear hn hfs hle hb hl hst
    go_enter Tryd.func88, Tryd.ntmps88
    go_wp2_with (go_at_call 111; refine H1.out.mono ?_; rintro en w' ⟨rfl, rfl⟩)
    go_ret
    refine ⟨rfl, ⟨s.extract sz s.size, HB.out.set0 _, ?_, by simp; omega⟩, grown_set _ _ _ _⟩
    rw [ByteArray.data_extract]
    simp
    rw [HL.out, List.take_of_length_le (by simp [inst_len HL.out])]
  · have hn : numS l e = (failS l e er, 0) := by simp [numS, hfs, her]
    have ht : ((er : Int) == 0) = false := by rw [beq_eq_false_iff_ne]; omega
    have ht2 : ((er : Int) != 0) = true := by rw [bne_iff_ne]; omega
    have H2 := Lib.hid (fail_any p l e er w hst)
    rw [hn]
    clear hn hfs hb hl hst her
    go_enter Tryd.func88, Tryd.ntmps88
    go_wp2_with (first | (go_at_call 111; refine H1.out.mono ?_; rintro en w' ⟨rfl, rfl⟩) | (go_at_call 89; refine H2.out.mono ?_; rintro en w2 ⟨rfl, hi2, hg2⟩; have HI2 := Lib.hid hi2; have HG2 := Lib.hid hg2; clear hi2 hg2))
    go_ret
    exact ⟨rfl, HI2.out, HG2.out⟩
theorem err_any (p : Nat) (l : List UInt8) (e : Nat) (w : World) (h : InSt p l e w) : Calls Tryd.prog 27 #[.pointer (some ⟨p, 0, none⟩)] w fun en w' => en = .returned (.int .i64 e) ∧ w = w' := by
  obtain ⟨s, hb, hl, hs⟩ := h
  have c1 := hb.c1
  clear hb hl
  go_enter Tryd.func27, Tryd.ntmps27
  go_wp2
  go_ret
  exact ⟨rfl, rfl⟩
/-- What End answers. -/
def endS (l : List UInt8) (e : Nat) : Nat := if e = 0 ∧ l ≠ [] then 1 else e
theorem end_any (p : Nat) (l : List UInt8) (e : Nat) (w : World) (h : InSt p l e w) : Calls Tryd.prog 30 #[.pointer (some ⟨p, 0, none⟩)] w fun en w' => en = .returned (.int .i64 (endS l e : Nat)) ∧ w = w' := by
  obtain ⟨s, hb, hl, hs⟩ := h
  have c0 := hb.c0
  have c1 := hb.c1
  have hsl : s.toList = l := by rw [ByteArray.toList_eq, hl]
  clear hb hl
  by_cases he : e = 0
  · subst he
    by_cases hn : l = []
    · have hr : endS l 0 = 0 := by simp [endS, hn]
      have h1 : s.toList = [] := by rw [hsl, hn]
      have h2 : (!s.toList.isEmpty) = false := by rw [h1]; rfl
      have h3 : s.toList.isEmpty = true := by rw [h1]; rfl
      rw [hr]
      clear hr hn hsl
      go_enter Tryd.func30, Tryd.ntmps30
      go_wp2
      go_ret
      exact ⟨rfl, rfl⟩
    · have hr : endS l 0 = 1 := by simp [endS, hn]
      have h3 : s.toList.isEmpty = false := by rw [hsl]; cases l <;> simp_all
      rw [hr]
      clear hr hn hsl
      go_enter Tryd.func30, Tryd.ntmps30
      go_wp2
      go_ret
      exact ⟨rfl, rfl⟩
  · have hr : endS l e = e := by simp [endS, he]
    have ht : ((e : Int) == 0) = false := by rw [beq_eq_false_iff_ne]; omega
    rw [hr]
    clear hr he hsl
    go_enter Tryd.func30, Tryd.ntmps30
    go_wp2
    go_ret
    exact ⟨rfl, rfl⟩
end Go.Proofs.YtkggmcnocpgnbaaDoor.I

/- The fixed fact of the statements of layer 1; and what an Out and an In keep of each other. -/
namespace Go.Proofs.YtkggmcnocpgnbaaDoor.I
open Go.RowKit

theorem InSt.keeps {B p : Nat} {l : List UInt8} {e : Nat} {w w' : World} (h : InSt p l e w) (hk : Keeps B w w') (hne : p ≠ B) : InSt p l e w' := by
  obtain ⟨s, hb, hl, hs⟩ := h
  exact ⟨s, hk.block p _ hb hne (fun cur fr ee => by cases ee), hl, hs⟩
theorem InSt.alloc {p : Nat} {l : List UInt8} {e : Nat} {w : World} (h : InSt p l e w) (o : Obj) : InSt p l e (w.alloc o) := by
  obtain ⟨s, hb, hl, hs⟩ := h
  exact ⟨s, (Below.heap_alloc w o p (Array.getElem?_eq_some_iff.1 hb).1).trans hb, hl, hs⟩
theorem below_of_grown {base p : Nat} {w w' w0 : World} (h : Below base w0 w) (hg : w.grownBy w' (some p)) (hb : base ≤ w.heap.size) (hp : base ≤ p) : Below base w0 w' := h.grown hg hb (fun k e => by cases e; exact hp)
/-- A new Out. -/
theorem out_new (base : Nat) (w : World) : OutAt base w.heap.size [] (w.alloc (.cells #[.slice none 0 0] 118)) := ⟨_, Boxed.new _ _ _, World.ownsRow_nil _ _ _ _⟩
end Go.Proofs.YtkggmcnocpgnbaaDoor.I

/- The contracts of In's Raw and Text, of Few, and of Out.Text at a list that is empty. -/
namespace Go.Proofs.YtkggmcnocpgnbaaDoor.I
open Go.RowKit

theorem beq_lists {a b : ByteArray} (h : a.data.toList = b.data.toList) : (a.toList == b.toList) = true := by
  rw [ByteArray.toList_eq, ByteArray.toList_eq, h]; simp
theorem InSt.grown {p : Nat} {l : List UInt8} {e : Nat} {w w' : World} {row : Option Nat} (h : InSt p l e w) (hg : w.grownBy w' row) (hne : some p ≠ row) : InSt p l e w' := by
  obtain ⟨s, hb, hl, hs⟩ := h
  exact ⟨s, (hg.block p hb.lt hne).trans hb, hl, hs⟩

end Go.Proofs.YtkggmcnocpgnbaaDoor.I
