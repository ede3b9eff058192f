/- The contracts of Out's other methods: Raw, Text, Bytes; and of Num as callers meet it. -/
import Derived.Test.YtkggmcnocpgnbaaDoorIOutNum
import Derived.Lib.AppendStr
import Derived.Lib.BufferRead
import Derived.Laws.IdiomStrings
import Derived.Test.YtkggmcnocpgnbaaDoorMerged11
import Derived.Laws.BitsLemmas
import Derived.Test.YtkggmcnocpgnbaaDoorRows
import Derived.WalkKit
import Derived.WalkLawsBesides
import Derived.WalkSpells
import Derived.Outline
import Derived.Lib.Hide
import Derived.Below
import Derived.IntWalk
import Derived.OwnWalk
import Derived.RangeFuncBox
import Derived.Maps.AppendAt
import Derived.Lib.QuietBelow
import Derived.BigQuiet
import Derived.Deep.AppendLies
import Derived.Laws.ResultCell
namespace Go.Proofs.YtkggmcnocpgnbaaDoor.I
open Go.RowKit

/-- The cells hold texts. -/
def Strs (w : World) (b off : Nat) (ss : List ByteArray) : Prop := ∀ i, i < ss.length → w.cell? ⟨b, off + i, none⟩ = some (.string (ss.getD i ByteArray.empty))
def bytesOf (ss : List ByteArray) : List UInt8 := ss.flatMap fun s => s.data.toList
theorem bytesOf_snoc (ss : List ByteArray) (k : Nat) (h : k < ss.length) : bytesOf (ss.take (k + 1)) = bytesOf (ss.take k) ++ (ss.getD k ByteArray.empty).data.toList := by
  unfold bytesOf
  rw [List.take_succ_eq_append_getElem h, List.flatMap_append]
  simp [h]
/-- Where an Out is left: the same Out, with these bytes; all else as it was. -/
def Wrote (base B : Nat) (bs : List UInt8) (w : World) (e : Ending) (w' : World) : Prop := e = .returned (.pointer (some ⟨B, 0, none⟩)) ∧ OutAt base B bs w' ∧ Below base w w' ∧ Keeps B w w'
theorem num_any (base B bl off cap : Nat) (zs : List Int) (bs : List UInt8) (w : World) (hsz : (bs.length : Int) + 10 * zs.length ≤ 1000000) (hbase : base ≤ B)
    (hO : OutAt base B bs w) (hI : ∀ w', Below base w w' → Keeps B w w' → Ints w' bl off zs) (hbw : base ≤ w.heap.size) :
    Calls Tryd.prog 55 #[.pointer (some ⟨B, 0, none⟩), .slice (some ⟨bl, off, none⟩) zs.length cap] w (Wrote base B (bs ++ numsOf zs) w) :=
  (callsIn_wide (n := 4)).1 (outnum_in 4 (Nat.le_refl _) base B bl off zs.length cap zs bs w rfl hsz hbase hO hI hbw)

theorem cell_alloc_new (w : World) (cs : Array Value) (t : TypeId) (j : Nat) : (w.alloc (.cells cs t)).cell? ⟨w.heap.size, j, none⟩ = cs[j]? := World.cell?_alloc_new ..
/-- What lies in a new block of another type is kept. -/
theorem cell_keeps {B b o : Nat} {w w' : World} {cs : Array Value} {t : TypeId} {fr : Nat × Nat} (hk : Keeps B w w') (hb : w.heap[b]? = some (.cells cs t fr)) (ht : t ≠ 5) (hne : b ≠ B) : w'.cell? ⟨b, o, none⟩ = w.cell? ⟨b, o, none⟩ := by
  have h := hk.block b _ hb hne (fun cur fr' e => by cases e; exact ht rfl)
  exact World.cell?_of_block (a := ⟨b, o, none⟩) (h.trans hb.symm)
theorem block_new (w : World) (o : Obj) : (w.alloc o).heap[w.heap.size]? = some o := World.alloc_heap_new w o
theorem OutAt.lt {base B : Nat} {bs : List UInt8} {w : World} (h : OutAt base B bs w) : B < w.heap.size := by
  obtain ⟨v, h1, _⟩ := h
  exact h1.lt
theorem OutAt.alloc {base B : Nat} {bs : List UInt8} {w : World} (h : OutAt base B bs w) (o : Obj) : OutAt base B bs (w.alloc o) := by
  obtain ⟨v, h1, h2⟩ := h
  exact ⟨v, h1.alloc _, h2.alloc _⟩
/-- One number, in a new slice. -/
theorem num_one (base B : Nat) (z : Int) (bs : List UInt8) (w : World) (hsz : (bs.length : Int) ≤ 999990) (hbase : base ≤ B) (hO : OutAt base B bs w) (hbw : base ≤ w.heap.size) :
    Calls Tryd.prog 55 #[.pointer (some ⟨B, 0, none⟩), .slice (some ⟨w.heap.size, 0, none⟩) 1 1] (w.alloc (.cells #[.int .i64 z] 3)) (Wrote base B (bs ++ digs (clipN z)) (w.alloc (.cells #[.int .i64 z] 3))) := by
  have h := num_any base B w.heap.size 0 1 [z] bs (w.alloc (.cells #[.int .i64 z] 3)) (by simp; omega) hbase (hO.alloc _) (fun w' _ hk i hi => by
    obtain rfl : i = 0 := by simpa using hi
    rw [cell_keeps hk (block_new w _) (by decide) (by have := hO.lt; omega), cell_alloc_new]; rfl) (by simp; omega)
  simpa [numsOf] using h

theorem bytes_any (base B : Nat) (bs : List UInt8) (w : World) (hO : OutAt base B bs w) :
    Calls Tryd.prog 56 #[.pointer (some ⟨B, 0, none⟩)] w fun e w' => e = .returned (.string ⟨bs.toArray⟩) ∧ w = w' := by
  obtain ⟨v, hv, hr⟩ := hO
  have hcB := hv.cell
  have hcells := @World.ownsRow.cells _ _ _ _ _ _ _ hr
  rcases hr.2 with ⟨rfl, h0⟩ | ⟨g, cap, cur, rfl, _⟩
  · have hconv := Lib.run_convert_nil_bytes (P := Tryd.prog) w 116 9 5 0 Tryd.underlying116 Tryd.underlying5 Tryd.underlying9
    have hb0 : bs = [] := List.length_eq_zero_iff.1 h0
    subst hb0
    clear hr hcells hv h0
    go_enter Tryd.func56, Tryd.ntmps56
    go_wp2
    go_ret
    exact ⟨rfl, rfl⟩
  · have hconv := run_convert_bytes_back (P := Tryd.prog) w 116 9 5 ⟨g, 0, none⟩ cap bs Tryd.underlying116 Tryd.underlying5 Tryd.underlying9 (fun j hj => hcells (g := g) rfl j _ (by simp [c5, hj]))
    obtain ⟨u, hu⟩ : ∃ u : ByteArray, (⟨bs.toArray⟩ : ByteArray) = u := ⟨_, rfl⟩
    rw [hu] at hconv ⊢
    obtain ⟨m, hm⟩ : ∃ m, bs.length = m := ⟨_, rfl⟩
    rw [hm] at hconv hcB
    clear hr hcells hv hu hm
    go_enter Tryd.func56, Tryd.ntmps56
    go_wp2
    go_ret
    exact ⟨rfl, rfl⟩

end Go.Proofs.YtkggmcnocpgnbaaDoor.I

/- Plain facts on reading a number: what was written is read, and what is read was written so. No Go here. -/
namespace Go.Proofs.YtkggmcnocpgnbaaDoor.I

end Go.Proofs.YtkggmcnocpgnbaaDoor.I

/- The contracts of num.first and of In's methods. -/
namespace Go.Proofs.YtkggmcnocpgnbaaDoor.I
open Go.RowKit

end Go.Proofs.YtkggmcnocpgnbaaDoor.I

/- The contracts of num.Of and of In's methods Fail, Num, End, Err, Left. -/
namespace Go.Proofs.YtkggmcnocpgnbaaDoor.I
open Go.RowKit

/-- Block p is an In: what is left, and the first error. -/
def InBlk (p : Nat) (s : ByteArray) (e : Nat) (w : World) : Prop := w.heap[p]? = some (.cells #[.string s, .int .i64 e] 112 (0, 0))
theorem InBlk.lt {p : Nat} {s : ByteArray} {e : Nat} {w : World} (h : InBlk p s e w) : p < w.heap.size := (Array.getElem?_eq_some_iff.1 h).1
theorem InBlk.c0 {p : Nat} {s : ByteArray} {e : Nat} {w : World} (h : InBlk p s e w) : w.cell? ⟨p, 0, none⟩ = some (.string s) := by simp [World.cell?, show w.heap[p]? = _ from h]
theorem InBlk.c1 {p : Nat} {s : ByteArray} {e : Nat} {w : World} (h : InBlk p s e w) : w.cell? ⟨p, 1, none⟩ = some (.int .i64 e) := by simp [World.cell?, show w.heap[p]? = _ from h]
theorem InBlk.fr {p : Nat} {s : ByteArray} {e : Nat} {w : World} (h : InBlk p s e w) (o : Nat) : w.frozen? ⟨p, o, none⟩ = false := by simp [World.frozen?, show w.heap[p]? = _ from h]
theorem InBlk.set0 {p : Nat} {s : ByteArray} {e : Nat} {w : World} (h : InBlk p s e w) (s' : ByteArray) : InBlk p s' e (w.setCell ⟨p, 0, none⟩ (.string s')) := by
  unfold InBlk at *
  simp [World.setCell, Array.getElem?_modify, h]
theorem InBlk.set1 {p : Nat} {s : ByteArray} {e : Nat} {w : World} (h : InBlk p s e w) (e' : Nat) : InBlk p s e' (w.setCell ⟨p, 1, none⟩ (.int .i64 e')) := by
  unfold InBlk at *
  simp [World.setCell, Array.getElem?_modify, h]
/-- The In at block p: these bytes are left, this is the error. -/
def InSt (p : Nat) (l : List UInt8) (e : Nat) (w : World) : Prop := ∃ s : ByteArray, InBlk p s e w ∧ s.data.toList = l ∧ (s.size : Int) ≤ 1000000
theorem of_any (s : ByteArray) (hs : (s.size : Int) ≤ 1000000) (w : World) : Calls Tryd.prog 22 #[.string s] w fun e w' => e = .returned (.pointer (some ⟨w.heap.size, 0, none⟩)) ∧ InSt w.heap.size s.data.toList 0 w' ∧ w' = w.alloc (.cells #[.string s, .int .i64 0] 112) := by
  go_enter Tryd.func22, Tryd.ntmps22
  go_wp2
  go_ret
  exact ⟨rfl, ⟨s, World.alloc_heap_new _ _, rfl, hs⟩, rfl⟩

end Go.Proofs.YtkggmcnocpgnbaaDoor.I

/- The fixed fact of the statements of layer 1; and what an Out and an In keep of each other. -/
namespace Go.Proofs.YtkggmcnocpgnbaaDoor.I
open Go.RowKit

theorem InSt.keeps {B p : Nat} {l : List UInt8} {e : Nat} {w w' : World} (h : InSt p l e w) (hk : Keeps B w w') (hne : p ≠ B) : InSt p l e w' := by
  obtain ⟨s, hb, hl, hs⟩ := h
  exact ⟨s, hk.block p _ hb hne (fun cur fr ee => by cases ee), hl, hs⟩
theorem InSt.alloc {p : Nat} {l : List UInt8} {e : Nat} {w : World} (h : InSt p l e w) (o : Obj) : InSt p l e (w.alloc o) := by
  obtain ⟨s, hb, hl, hs⟩ := h
  exact ⟨s, (Below.heap_alloc w o p (Array.getElem?_eq_some_iff.1 hb).1).trans hb, hl, hs⟩
/-- A new Out. -/
theorem out_new (base : Nat) (w : World) : OutAt base w.heap.size [] (w.alloc (.cells #[.slice none 0 0] 118)) := ⟨_, Boxed.new _ _ _, World.ownsRow_nil _ _ _ _⟩
end Go.Proofs.YtkggmcnocpgnbaaDoor.I

/- The contracts of In's Raw and Text, of Few, and of Out.Text at a list that is empty. -/
namespace Go.Proofs.YtkggmcnocpgnbaaDoor.I
open Go.RowKit

theorem InSt.grown {p : Nat} {l : List UInt8} {e : Nat} {w w' : World} {row : Option Nat} (h : InSt p l e w) (hg : w.grownBy w' row) (hne : some p ≠ row) : InSt p l e w' := by
  obtain ⟨s, hb, hl, hs⟩ := h
  exact ⟨s, (hg.block p hb.lt hne).trans hb, hl, hs⟩

end Go.Proofs.YtkggmcnocpgnbaaDoor.I

/- The document's own numbers and texts as bytes; two values written at once. -/
namespace Go.Proofs.YtkggmcnocpgnbaaDoor.I
open Go.RowKit

theorem num_two (base B : Nat) (z y : Int) (bs : List UInt8) (w : World) (hsz : (bs.length : Int) ≤ 999900) (hbase : base ≤ B) (hO : OutAt base B bs w) (hbw : base ≤ w.heap.size) :
    Calls Tryd.prog 55 #[.pointer (some ⟨B, 0, none⟩), .slice (some ⟨w.heap.size, 0, none⟩) 2 2] (w.alloc (.cells #[.int .i64 z, .int .i64 y] 3)) (Wrote base B (bs ++ (digs (clipN z) ++ digs (clipN y))) (w.alloc (.cells #[.int .i64 z, .int .i64 y] 3))) := by
  have h := num_any base B w.heap.size 0 2 [z, y] bs (w.alloc (.cells #[.int .i64 z, .int .i64 y] 3)) (by simp; omega) hbase (hO.alloc _) (fun w' _ hk i hi => by
    rw [cell_keeps hk (block_new w _) (by decide) (by have := hO.lt; omega), cell_alloc_new]
    match i, hi with
    | 0, _ => rfl
    | 1, _ => rfl
    | i + 2, hi => simp at hi; omega) (by simp; omega)
  simpa [numsOf] using h
end Go.Proofs.YtkggmcnocpgnbaaDoor.I
