/- The contracts of Out's other methods: Raw, Text, Bytes; and of Num as callers meet it. -/
import Derived.Test.YtkggmcnocpgnbaaDoorIOutNum
import Derived.Lib.AppendStr
import Derived.Lib.BufferRead
import Derived.Laws.IdiomStrings
import Derived.Test.YtkggmcnocpgnbaaDoorMerged11
import Derived.Laws.BitsLemmas
import Derived.Test.YtkggmcnocpgnbaaDoorRows
import Derived.WalkKit
import Derived.WalkLawsBesides
import Derived.WalkSpells
import Derived.Outline
import Derived.Lib.Hide
import Derived.Below
import Derived.IntWalk
import Derived.OwnWalk
import Derived.RangeFuncBox
import Derived.Maps.AppendAt
import Derived.Lib.QuietBelow
import Derived.BigQuiet
import Derived.Deep.AppendLies
import Derived.Laws.ResultCell
import Derived.Test.YtkggmcnocpgnbaaDoorMerged12
import Derived.Deep.RegionWith
namespace Go.Proofs.YtkggmcnocpgnbaaDoor.I
open Go.RowKit

/-- The cells hold texts. -/
def Strs (w : World) (b off : Nat) (ss : List ByteArray) : Prop := ∀ i, i < ss.length → w.cell? ⟨b, off + i, none⟩ = some (.string (ss.getD i ByteArray.empty))
def bytesOf (ss : List ByteArray) : List UInt8 := ss.flatMap fun s => s.data.toList
theorem bytesOf_snoc (ss : List ByteArray) (k : Nat) (h : k < ss.length) : bytesOf (ss.take (k + 1)) = bytesOf (ss.take k) ++ (ss.getD k ByteArray.empty).data.toList := by
  unfold bytesOf
  rw [List.take_succ_eq_append_getElem h, List.flatMap_append]
  simp [h]
/-- Where an Out is left: the same Out, with these bytes; all else as it was. -/
def Wrote (base B : Nat) (bs : List UInt8) (w : World) (e : Ending) (w' : World) : Prop := e = .returned (.pointer (some ⟨B, 0, none⟩)) ∧ OutAt base B bs w' ∧ Below base w w' ∧ Keeps B w w'
theorem num_any (base B bl off cap : Nat) (zs : List Int) (bs : List UInt8) (w : World) (hsz : (bs.length : Int) + 10 * zs.length ≤ 1000000) (hbase : base ≤ B)
    (hO : OutAt base B bs w) (hI : ∀ w', Below base w w' → Keeps B w w' → Ints w' bl off zs) (hbw : base ≤ w.heap.size) :
    Calls Tryd.prog 55 #[.pointer (some ⟨B, 0, none⟩), .slice (some ⟨bl, off, none⟩) zs.length cap] w (Wrote base B (bs ++ numsOf zs) w) :=
  (callsIn_wide (n := 4)).1 (outnum_in 4 (Nat.le_refl _) base B bl off zs.length cap zs bs w rfl hsz hbase hO hI hbw)

theorem cell_alloc_new (w : World) (cs : Array Value) (t : TypeId) (j : Nat) : (w.alloc (.cells cs t)).cell? ⟨w.heap.size, j, none⟩ = cs[j]? := World.cell?_alloc_new ..
/-- What lies in a new block of another type is kept. -/
theorem cell_keeps {B b o : Nat} {w w' : World} {cs : Array Value} {t : TypeId} {fr : Nat × Nat} (hk : Keeps B w w') (hb : w.heap[b]? = some (.cells cs t fr)) (ht : t ≠ 5) (hne : b ≠ B) : w'.cell? ⟨b, o, none⟩ = w.cell? ⟨b, o, none⟩ := by
  have h := hk.block b _ hb hne (fun cur fr' e => by cases e; exact ht rfl)
  exact World.cell?_of_block (a := ⟨b, o, none⟩) (h.trans hb.symm)
theorem block_new (w : World) (o : Obj) : (w.alloc o).heap[w.heap.size]? = some o := World.alloc_heap_new w o
theorem OutAt.lt {base B : Nat} {bs : List UInt8} {w : World} (h : OutAt base B bs w) : B < w.heap.size := by
  obtain ⟨v, h1, _⟩ := h
  exact h1.lt
theorem OutAt.alloc {base B : Nat} {bs : List UInt8} {w : World} (h : OutAt base B bs w) (o : Obj) : OutAt base B bs (w.alloc o) := by
  obtain ⟨v, h1, h2⟩ := h
  exact ⟨v, h1.alloc _, h2.alloc _⟩
/-- One number, in a new slice. -/
theorem num_one (base B : Nat) (z : Int) (bs : List UInt8) (w : World) (hsz : (bs.length : Int) ≤ 999990) (hbase : base ≤ B) (hO : OutAt base B bs w) (hbw : base ≤ w.heap.size) :
    Calls Tryd.prog 55 #[.pointer (some ⟨B, 0, none⟩), .slice (some ⟨w.heap.size, 0, none⟩) 1 1] (w.alloc (.cells #[.int .i64 z] 3)) (Wrote base B (bs ++ digs (clipN z)) (w.alloc (.cells #[.int .i64 z] 3))) := by
  have h := num_any base B w.heap.size 0 1 [z] bs (w.alloc (.cells #[.int .i64 z] 3)) (by simp; omega) hbase (hO.alloc _) (fun w' _ hk i hi => by
    obtain rfl : i = 0 := by simpa using hi
    rw [cell_keeps hk (block_new w _) (by decide) (by have := hO.lt; omega), cell_alloc_new]; rfl) (by simp; omega)
  simpa [numsOf] using h

theorem bytes_any (base B : Nat) (bs : List UInt8) (w : World) (hO : OutAt base B bs w) :
    Calls Tryd.prog 56 #[.pointer (some ⟨B, 0, none⟩)] w fun e w' => e = .returned (.string ⟨bs.toArray⟩) ∧ w = w' := by
  obtain ⟨v, hv, hr⟩ := hO
  have hcB := hv.cell
  have hcells := @World.ownsRow.cells _ _ _ _ _ _ _ hr
  rcases hr.2 with ⟨rfl, h0⟩ | ⟨g, cap, cur, rfl, _⟩
  · have hconv := Lib.run_convert_nil_bytes (P := Tryd.prog) w 116 9 5 0 Tryd.underlying116 Tryd.underlying5 Tryd.underlying9
    have hb0 : bs = [] := List.length_eq_zero_iff.1 h0
    subst hb0
    clear hr hcells hv h0
    go_enter Tryd.func56, Tryd.ntmps56
    go_wp2
    go_ret
    exact ⟨rfl, rfl⟩
  · have hconv := run_convert_bytes_back (P := Tryd.prog) w 116 9 5 ⟨g, 0, none⟩ cap bs Tryd.underlying116 Tryd.underlying5 Tryd.underlying9 (fun j hj => hcells (g := g) rfl j _ (by simp [c5, hj]))
    obtain ⟨u, hu⟩ : ∃ u : ByteArray, (⟨bs.toArray⟩ : ByteArray) = u := ⟨_, rfl⟩
    rw [hu] at hconv ⊢
    obtain ⟨m, hm⟩ : ∃ m, bs.length = m := ⟨_, rfl⟩
    rw [hm] at hconv hcB
    clear hr hcells hv hu hm
    go_enter Tryd.func56, Tryd.ntmps56
    go_wp2
    go_ret
    exact ⟨rfl, rfl⟩

end Go.Proofs.YtkggmcnocpgnbaaDoor.I

/- Plain facts on reading a number: what was written is read, and what is read was written so. No Go here. -/
namespace Go.Proofs.YtkggmcnocpgnbaaDoor.I

end Go.Proofs.YtkggmcnocpgnbaaDoor.I

/- The contracts of num.first and of In's methods. -/
namespace Go.Proofs.YtkggmcnocpgnbaaDoor.I
open Go.RowKit

end Go.Proofs.YtkggmcnocpgnbaaDoor.I

/- The contracts of num.Of and of In's methods Fail, Num, End, Err, Left. -/
namespace Go.Proofs.YtkggmcnocpgnbaaDoor.I
open Go.RowKit

/-- Block p is an In: what is left, and the first error. -/
def InBlk (p : Nat) (s : ByteArray) (e : Nat) (w : World) : Prop := w.heap[p]? = some (.cells #[.string s, .int .i64 e] 112 (0, 0))
theorem InBlk.lt {p : Nat} {s : ByteArray} {e : Nat} {w : World} (h : InBlk p s e w) : p < w.heap.size := (Array.getElem?_eq_some_iff.1 h).1
theorem InBlk.c0 {p : Nat} {s : ByteArray} {e : Nat} {w : World} (h : InBlk p s e w) : w.cell? ⟨p, 0, none⟩ = some (.string s) := by simp [World.cell?, show w.heap[p]? = _ from h]
theorem InBlk.c1 {p : Nat} {s : ByteArray} {e : Nat} {w : World} (h : InBlk p s e w) : w.cell? ⟨p, 1, none⟩ = some (.int .i64 e) := by simp [World.cell?, show w.heap[p]? = _ from h]
theorem InBlk.fr {p : Nat} {s : ByteArray} {e : Nat} {w : World} (h : InBlk p s e w) (o : Nat) : w.frozen? ⟨p, o, none⟩ = false := by simp [World.frozen?, show w.heap[p]? = _ from h]
theorem InBlk.set0 {p : Nat} {s : ByteArray} {e : Nat} {w : World} (h : InBlk p s e w) (s' : ByteArray) : InBlk p s' e (w.setCell ⟨p, 0, none⟩ (.string s')) := by
  unfold InBlk at *
  simp [World.setCell, Array.getElem?_modify, h]
theorem InBlk.set1 {p : Nat} {s : ByteArray} {e : Nat} {w : World} (h : InBlk p s e w) (e' : Nat) : InBlk p s e' (w.setCell ⟨p, 1, none⟩ (.int .i64 e')) := by
  unfold InBlk at *
  simp [World.setCell, Array.getElem?_modify, h]
/-- The In at block p: these bytes are left, this is the error. -/
def InSt (p : Nat) (l : List UInt8) (e : Nat) (w : World) : Prop := ∃ s : ByteArray, InBlk p s e w ∧ s.data.toList = l ∧ (s.size : Int) ≤ 1000000
theorem of_any (s : ByteArray) (hs : (s.size : Int) ≤ 1000000) (w : World) : Calls Tryd.prog 22 #[.string s] w fun e w' => e = .returned (.pointer (some ⟨w.heap.size, 0, none⟩)) ∧ InSt w.heap.size s.data.toList 0 w' ∧ w' = w.alloc (.cells #[.string s, .int .i64 0] 112) := by
  go_enter Tryd.func22, Tryd.ntmps22
  go_wp2
  go_ret
  exact ⟨rfl, ⟨s, World.alloc_heap_new _ _, rfl, hs⟩, rfl⟩

end Go.Proofs.YtkggmcnocpgnbaaDoor.I

/- The fixed fact of the statements of layer 1; and what an Out and an In keep of each other. -/
namespace Go.Proofs.YtkggmcnocpgnbaaDoor.I
open Go.RowKit

theorem InSt.keeps {B p : Nat} {l : List UInt8} {e : Nat} {w w' : World} (h : InSt p l e w) (hk : Keeps B w w') (hne : p ≠ B) : InSt p l e w' := by
  obtain ⟨s, hb, hl, hs⟩ := h
  exact ⟨s, hk.block p _ hb hne (fun cur fr ee => by cases ee), hl, hs⟩
theorem InSt.alloc {p : Nat} {l : List UInt8} {e : Nat} {w : World} (h : InSt p l e w) (o : Obj) : InSt p l e (w.alloc o) := by
  obtain ⟨s, hb, hl, hs⟩ := h
  exact ⟨s, (Below.heap_alloc w o p (Array.getElem?_eq_some_iff.1 hb).1).trans hb, hl, hs⟩
/-- A new Out. -/
theorem out_new (base : Nat) (w : World) : OutAt base w.heap.size [] (w.alloc (.cells #[.slice none 0 0] 118)) := ⟨_, Boxed.new _ _ _, World.ownsRow_nil _ _ _ _⟩
end Go.Proofs.YtkggmcnocpgnbaaDoor.I

/- The contracts of In's Raw and Text, of Few, and of Out.Text at a list that is empty. -/
namespace Go.Proofs.YtkggmcnocpgnbaaDoor.I
open Go.RowKit

theorem InSt.grown {p : Nat} {l : List UInt8} {e : Nat} {w w' : World} {row : Option Nat} (h : InSt p l e w) (hg : w.grownBy w' row) (hne : some p ≠ row) : InSt p l e w' := by
  obtain ⟨s, hb, hl, hs⟩ := h
  exact ⟨s, (hg.block p hb.lt hne).trans hb, hl, hs⟩

end Go.Proofs.YtkggmcnocpgnbaaDoor.I

/- The document's own numbers and texts as bytes; two values written at once. -/
namespace Go.Proofs.YtkggmcnocpgnbaaDoor.I
open Go.RowKit

theorem num_two (base B : Nat) (z y : Int) (bs : List UInt8) (w : World) (hsz : (bs.length : Int) ≤ 999900) (hbase : base ≤ B) (hO : OutAt base B bs w) (hbw : base ≤ w.heap.size) :
    Calls Tryd.prog 55 #[.pointer (some ⟨B, 0, none⟩), .slice (some ⟨w.heap.size, 0, none⟩) 2 2] (w.alloc (.cells #[.int .i64 z, .int .i64 y] 3)) (Wrote base B (bs ++ (digs (clipN z) ++ digs (clipN y))) (w.alloc (.cells #[.int .i64 z, .int .i64 y] 3))) := by
  have h := num_any base B w.heap.size 0 2 [z, y] bs (w.alloc (.cells #[.int .i64 z, .int .i64 y] 3)) (by simp; omega) hbase (hO.alloc _) (fun w' _ hk i hi => by
    rw [cell_keeps hk (block_new w _) (by decide) (by have := hO.lt; omega), cell_alloc_new]
    match i, hi with
    | 0, _ => rfl
    | 1, _ => rfl
    | i + 2, hi => simp at hi; omega) (by simp; omega)
  simpa [numsOf] using h
end Go.Proofs.YtkggmcnocpgnbaaDoor.I

/- The contract of book.Pack: a line's bytes. -/
namespace Go.Proofs.YtkggmcnocpgnbaaDoor.K
open Go.RowKit

/-- runes have 32 bits -/
def RngG (l : List (Int × Int)) : Prop := ∀ g ∈ l, -2147483648 ≤ g.1 ∧ g.1 ≤ 2147483647
theorem rngG_glyphs {r : Ro} (h : AllC Rng r.l) : RngG (glyphs r) := by
  intro g hg
  rw [glyphs_glF] at hg
  unfold glF at hg
  obtain ⟨c, hc, rfl⟩ := List.mem_map.1 hg
  have hc2 : c ∈ trimS r := (List.mem_filter.1 hc).1
  have hsub : ∀ l : List Cel, ∀ c ∈ trimG l, c ∈ l := by
    intro l
    induction l with
    | nil => intro c hc; exact hc
    | cons d l ih =>
      intro c hc
      unfold trimG at hc
      split at hc
      · exact List.mem_cons_of_mem _ (ih c hc)
      · exact hc
  have hm : c ∈ r.l := by
    unfold trimS at hc2
    split at hc2
    · exact hc2
    · exact List.mem_reverse.1 (hsub _ c (List.mem_reverse.1 hc2))
  exact h c hm
def PackPost (l : List (Int × Int)) (w : World) (e : Ending) (w' : World) : Prop := ∃ t : ByteArray, e = .returned (.string t) ∧ t.data.toList = packG l ∧ Below w.heap.size w w'
set_option maxRecDepth 100000 in
set_option maxHeartbeats 8000000 in
theorem pack_any (a : Option Addr) (n c : Nat) (l : List (Int × Int)) (w : World) (hI : PairsIn .i32 a n c l w) (hr : RngG l) (hn : n ≤ 1024) :
    Calls Tryd.prog 28 #[.slice a n c] w (PackPost l w) := by
  obtain ⟨rb, hrb⟩ : ∃ rb, w.heap.size = rb := ⟨_, rfl⟩
  obtain ⟨P, hP⟩ : ∃ P, PackPost l w = P := ⟨_, rfl⟩
  rw [hP]
  have HP := Lib.hid hP
  have HRb := Lib.hid hrb
  have HLn := Lib.hid hI.len
  have HI := Lib.hid hI
  have HRg := Lib.hid hr
  have hO := I.out_new rb w
  obtain ⟨w1, hw1⟩ : ∃ w1, w.alloc (.cells #[.slice none 0 0] 118) = w1 := ⟨_, rfl⟩
  rw [hw1, hrb] at hO
  have hs1 : w1.heap.size = rb + 1 := by rw [← hw1, World.size_alloc, hrb]
  have hb1 : Below rb w w1 := by rw [← hw1]; exact (Below.refl _ _).alloc (by omega) _
  have HW1 := Lib.hid hw1
  have HB1 := Lib.hid hb1
  have HN := Lib.hid (I.num_one rb rb (n : Int) [] w1 (by simp) (Nat.le_refl _) hO (by omega))
  have hnI : (n : Int) ≤ 1024 := by omega
  have hS1 := Lib.hid hs1
  clear hP hrb hI hr hO hw1 hs1 hb1
  go_enter Tryd.func28, Tryd.ntmps28
  go_upto_region 2 with fail
  rw [HW1.out, HRb.out]
  go_wp2_with fail
  refine HN.out.mono ?_
  rintro e w2 ⟨rfl, hO2, hb2, -⟩
  have HO2 := Lib.hid hO2
  have HB2 : Hid (Below rb w w2) := Lib.hid (HB1.out.trans ((((Below.refl _ _).alloc (by have := hS1.out; omega) _ : Below rb w1 _)).trans hb2))
  have HS2 : Hid (rb < w2.heap.size) := Lib.hid hO2.lt
  clear hO2 hb2 HN
  go_wp2_with fail
  go_loopw [12] (fun i wr => ∃ j : Nat, i = .int .i64 (j : Int) ∧ j ≤ n ∧ Hid (I.OutAt rb rb ([] ++ I.digs (I.clipN (n : Int)) ++ (l.take j).flatMap gBytes) wr ∧ Below rb w wr ∧ rb < wr.heap.size)) (fun i _ => n - (intOf i).toNat)
  case atStart => exact ⟨0, rfl, Nat.zero_le _, Lib.hid ⟨by simpa using HO2.out, HB2.out, HS2.out⟩⟩
  case round =>
    obtain ⟨j, rfl, hj, HF⟩ := hrel
    clear HO2 HB2 HS2
    by_cases hlt : j < n
    · have hd : decide (j < n) = true := decide_eq_true hlt
      have hjI : (j : Int) < n := by omega
      have hjl : j < l.length := by rw [← HLn.out]; exact hlt
      obtain ⟨b, off, rfl, hbl, hAt⟩ := HI.out.at_.resolve_left (by intro e; rw [e] at hjl; simp at hjl)
      have hat := hAt j l[j] (List.getElem?_eq_getElem hjl)
      have hrg := HRg.out l[j] (List.getElem_mem hjl)
      have hsn := flat_snoc l j hjl
      obtain ⟨⟨x, s⟩, hx⟩ : ∃ g, l[j] = g := ⟨_, rfl⟩
      rw [hx] at hat hrg hsn
      have hbr : b < rb := by rw [← HRb.out]; exact hbl
      have k0 : wr.cell? ⟨b, off + j * 2, none⟩ = some (.int .i32 x) := (HF.out.2.1.cell (p := ⟨b, off + j * 2, none⟩) hbr).trans hat.1
      have k1 : wr.cell? ⟨b, off + j * 2 + 1, none⟩ = some (.int .i64 s) := (HF.out.2.1.cell (p := ⟨b, off + j * 2 + 1, none⟩) hbr).trans hat.2
      have hwr : IntKind.i64.wrap x = x := by rw [IntKind.wrap_i64]; have h1 := hrg.1; have h2 := hrg.2; simp only at h1 h2; omega
      obtain ⟨gb, hgb⟩ : ∃ gb, wr.heap.size = gb := ⟨_, rfl⟩
      obtain ⟨w5, hw5⟩ : ∃ w5, wr.alloc (.cells #[.int .i32 x, .int .i64 s] 61) = w5 := ⟨_, rfl⟩
      have hnew : w5.heap[gb]? = some (.cells #[.int .i32 x, .int .i64 s] 61 (0, 0)) := by rw [← hw5, ← hgb]; exact heap_alloc_new wr _
      have m0 : w5.cell? ⟨gb, 0, none⟩ = some (.int .i32 x) := by rw [cell_block hnew]; rfl
      have m1 : w5.cell? ⟨gb, 1, none⟩ = some (.int .i64 s) := by rw [cell_block hnew]; rfl
      have hs5 : w5.heap.size = gb + 1 := by rw [← hw5, World.size_alloc, hgb]
      have hb5 : Below rb w w5 := by rw [← hw5]; exact HF.out.2.1.alloc (by have := HF.out.2.2; omega) _
      have hO5 : I.OutAt rb rb ([] ++ I.digs (I.clipN (n : Int)) ++ (l.take j).flatMap gBytes) w5 := by rw [← hw5]; exact HF.out.1.alloc _
      have hlen : (([] ++ I.digs (I.clipN (n : Int)) ++ (l.take j).flatMap gBytes).length : Int) ≤ 999900 := by
        have h1 := I.digs_nine (I.clipN (n : Int)) (by unfold I.clipN; exact Nat.min_le_right _ _)
        have h2 := flat_gBytes_len (l.take j)
        have h3 : (l.take j).length ≤ 1024 := by rw [List.length_take]; omega
        rw [List.length_append, List.nil_append]
        omega
      have HN := Lib.hid (I.num_two rb rb x s _ w5 hlen (Nat.le_refl _) hO5 (by have := HF.out.2.2; omega))
      have HSn := Lib.hid hsn
      have HGb := Lib.hid hgb
      have HW5 := Lib.hid hw5
      have HB5 := Lib.hid hb5
      have HS5 := Lib.hid hs5
      have HG5 : Hid (rb < gb) := Lib.hid (by have := HF.out.2.2; omega)
      clear hjl hAt hat hrg hsn hx hbl hgb hw5 hnew hs5 hb5 hO5 hlen
      go_upto_region 6 with fail
      rw [HW5.out, HGb.out]
      clear HF k0 k1
      go_wp2_with fail
      refine HN.out.mono ?_
      rintro e w6 ⟨rfl, hO6, hb6, -⟩
      have HE : Hid (I.OutAt rb rb ([] ++ I.digs (I.clipN (n : Int)) ++ (l.take (j + 1)).flatMap gBytes) w6 ∧ Below rb w w6 ∧ rb < w6.heap.size) := Lib.hid ⟨by
        rw [HSn.out, ← List.append_assoc]; exact hO6, HB5.out.trans ((((Below.refl _ _).alloc (by have := HS5.out; have := HG5.out; omega) _ : Below rb w5 _)).trans hb6), hO6.lt⟩
      clear hO6 hb6 HN
      go_wp2_with fail
      go_roundw
      case rel => exact ⟨j + 1, by go_num, by omega, HE⟩
      case measure => simp [intOf]; omega
    · obtain rfl : j = n := by omega
      have hd : decide (j < j) = false := by simp
      have HBy := Lib.hid (I.bytes_any rb rb _ wr HF.out.1)
      have hbl : [] ++ I.digs (I.clipN (j : Int)) ++ (l.take j).flatMap gBytes = packG l := by
        unfold packG
        rw [List.nil_append, ← HLn.out, List.take_of_length_le (by rw [HLn.out]; exact Nat.le_refl _)]
      rw [hbl] at HBy
      have HBw : Hid (Below rb w wr) := Lib.hid HF.out.2.1
      clear HF hbl hlt
      go_wp2_with fail
      refine HBy.out.mono ?_
      rintro e w7 ⟨rfl, rfl⟩
      have hend : Hid (P (.returned (.string ⟨(packG l).toArray⟩)) wr) := Lib.hid (by rw [← HP.out]; exact ⟨_, rfl, by simp, by rw [HRb.out]; exact HBw.out⟩)
      go_wp2_with fail
      exact hend.out
end Go.Proofs.YtkggmcnocpgnbaaDoor.K

/- The contract of sum.Of: of any texts, in a world that holds the table, it returns the sum of all of them and changes nothing. -/
namespace Go.Proofs.YtkggmcnocpgnbaaDoor.S
open Go.RowKit

/-- The world holds the table. -/
def Tab (w : World) : Prop := ∀ j, j < 16 → w.cell? ⟨1, j, none⟩ = some (.int .u32 (tbl j : Int))
/-- The cells hold texts. -/
def Strs (w : World) (b off : Nat) (ss : List ByteArray) : Prop := ∀ i, i < ss.length → w.cell? ⟨b, off + i, none⟩ = some (.string (ss.getD i ByteArray.empty))
def bytesOf (ss : List ByteArray) : List UInt8 := ss.flatMap fun s => s.data.toList

theorem bytesOf_snoc (ss : List ByteArray) (k : Nat) (h : k < ss.length) : bytesOf (ss.take (k + 1)) = bytesOf (ss.take k) ++ (ss.getD k ByteArray.empty).data.toList := by
  unfold bytesOf
  rw [List.take_succ_eq_append_getElem h, List.flatMap_append]
  simp [h]

theorem tbl_lt : ∀ j, j < 16 → tbl j < 4294967296 := by decide

theorem byte_xor (C : Nat) (b : UInt8) (h : C < 4294967296) : ∃ X : Nat, bits .xor .u32 (C : Int) ((b.toNat : Int) % 4294967296) = (X : Int) ∧ X < 4294967296 ∧ X = C ^^^ b.toNat := by
  have hb := b.toNat_lt
  refine ⟨C ^^^ b.toNat, ?_, Nat.xor_lt_two_pow (n := 32) h (by omega), rfl⟩
  rw [show ((b.toNat : Int) % 4294967296) = (b.toNat : Int) from by omega]
  exact u32_xor_nat C b.toNat h (by omega)
theorem half_step (X : Nat) (h : X < 4294967296) : ∃ j T Y : Nat, bits .and .u32 (X : Int) 15 = (j : Int) ∧ j < 16 ∧ T = tbl j ∧ bits .xor .u32 ((X : Int) / 16) (T : Int) = (Y : Int) ∧ Y < 4294967296 ∧ Y = hstep X := by
  have ht := tbl_lt (X % 16) (by omega)
  refine ⟨X % 16, tbl (X % 16), hstep X, ?_, by omega, rfl, ?_, hstep_lt h, rfl⟩
  · rw [show (15 : Int) = ((15 : Nat) : Int) from rfl, u32_and_nat X 15 h (by decide)]
    congr 1
    exact Nat.and_two_pow_sub_one_eq_mod X 4
  · rw [show ((X : Int) / 16) = ((X / 16 : Nat) : Int) from by omega]
    exact u32_xor_nat (X / 16) _ (by omega) ht

theorem str_snoc (s : ByteArray) (k : Nat) (h : k < s.size) : s.data.toList.take (k + 1) = s.data.toList.take k ++ [s[k]] := by
  rw [List.take_succ_eq_append_getElem (by simpa using h)]; rfl

theorem take_all (s : ByteArray) : s.data.toList.take s.size = s.data.toList := List.take_of_length_le (Nat.le_refl _)
theorem not_u32 (C : Nat) (h : C < 4294967296) : bits .xor .u32 IntKind.u32.max (C : Int) = ((C ^^^ 4294967295 : Nat) : Int) := by
  rw [show IntKind.u32.max = ((4294967295 : Nat) : Int) from rfl, u32_xor_nat _ C (by decide) h, Nat.xor_comm]

set_option maxHeartbeats 1000000 in
theorem of_some (ss : List ByteArray) (b off cap : Nat) (w : World) (hlen : (ss.length : Int) ≤ 9223372036854775807) (hsz : ∀ i, ((ss.getD i ByteArray.empty).size : Int) ≤ 9223372036854775807)
    (hcell : Strs w b off ss) (hT : Tab w) :
    Calls Tryd.prog 110 #[.slice (some ⟨b, off, none⟩) ss.length cap] w fun e w' => e = .returned (.int .u32 (sumOf (bytesOf ss) : Nat)) ∧ w = w' := by
  have HC := Lib.hid hcell
  have HT := Lib.hid hT
  have HZ := Lib.hid hsz
  clear hcell hT hsz
  go_enter Tryd.func110, Tryd.ntmps110
  go_wp2
  go_loop [3, 9] (fun c i => ∃ k C : Nat, k ≤ ss.length ∧ i = .int .i64 k ∧ c = .int .u32 C ∧ C < 4294967296 ∧ Hid (C = crc 4294967295 (bytesOf (ss.take k)))) (fun _ i => ss.length - (intOf i).toNat)
  case atStart => exact ⟨0, 4294967295, by omega, rfl, rfl, by omega, Lib.hid (by simp [bytesOf, crc])⟩
  case round =>
    obtain ⟨k, C, hk, rfl, rfl, hC, HCk⟩ := hrel
    by_cases hlt : k < ss.length
    · have hc := HC.out k hlt
      have hz := HZ.out k
      obtain ⟨s, hs⟩ : ∃ s, ss.getD k ByteArray.empty = s := ⟨_, rfl⟩
      rw [hs] at hc hz
      have HS := Lib.hid hs
      clear hs
      go_wp2
      go_loop [3, 6, 15] (fun c _ i => ∃ m D : Nat, m ≤ s.size ∧ i = .int .i64 m ∧ c = .int .u32 D ∧ D < 4294967296 ∧ Hid (D = crc (crc 4294967295 (bytesOf (ss.take k))) (s.data.toList.take m))) (fun _ _ i => s.size - (intOf i).toNat)
      case atStart => exact ⟨0, C, by omega, rfl, rfl, hC, Lib.hid (by rw [HCk.out]; simp [crc])⟩
      case round =>
        obtain ⟨m, D, hm, rfl, rfl, hD, HDm⟩ := hrel
        by_cases hlt' : m < s.size
        · obtain ⟨X, e1, hX, xX⟩ := byte_xor D s[m] hD
          obtain ⟨j, T, Y, e2, hj, tT, e3, hY, yY⟩ := half_step X hX
          obtain ⟨j', T', Z, e4, hj', tT', e5, hZ, zZ⟩ := half_step Y hY
          have c1 := HT.out j hj
          have c2 := HT.out j' hj'
          rw [← tT] at c1
          rw [← tT'] at c2
          have HX := Lib.hid xX
          have HY := Lib.hid yY
          have HZ' := Lib.hid zZ
          clear xX yY zZ tT tT'
          go_wp2
          go_round
          case rel => exact ⟨m + 1, Z, by omega, by go_num, rfl, hZ, Lib.hid (by rw [str_snoc s m hlt', crc_snoc, ← HDm.out, HZ'.out, HY.out, HX.out]; rfl)⟩
          case measure => simp [intOf]; omega
        · go_wp2
          go_round
          case rel =>
            obtain rfl : m = s.size := by omega
            exact ⟨k + 1, D, by omega, by go_num, rfl, hD, Lib.hid (by rw [bytesOf_snoc ss k hlt, HS.out, crc_append, HDm.out, take_all])⟩
          case measure => simp [intOf]; omega
    · go_wp2
      go_ret
      obtain rfl : k = ss.length := by omega
      have h := HCk.out
      rw [List.take_length] at h
      exact ⟨congrArg (fun x => Ending.returned (.int .u32 x)) (by rw [not_u32 C hC, sumOf, ← h]), rfl⟩
end Go.Proofs.YtkggmcnocpgnbaaDoor.S

/- Contracts of sum.tail, Cut, sum.Seal and sum.Open, in a world that holds the table. -/
namespace Go.Proofs.YtkggmcnocpgnbaaDoor.S
open Go.RowKit

theorem cell_alloc_new (w : World) (cs : Array Value) (t : TypeId) (j : Nat) : (w.alloc (.cells cs t)).cell? ⟨w.heap.size, j, none⟩ = cs[j]? := World.cell?_alloc_new ..

theorem tab_of {w w' : World} (h : Tab w) (hb : Below w.heap.size w w') : Tab w' := fun j hj => by
  have hc := h j hj
  have hl := World.block_lt_of_cell? w _ hc
  exact (hb.cell (p := ⟨1, j, none⟩) hl).trans hc


/-- One text in a new block. -/
theorem of_one (s : ByteArray) (b c : Nat) (w : World) (hc : w.cell? ⟨b, 0, none⟩ = some (.string s)) (hs : (s.size : Int) ≤ 9223372036854775807) (hT : Tab w) :
    Calls Tryd.prog 110 #[.slice (some ⟨b, 0, none⟩) 1 c] w fun e w' => e = .returned (.int .u32 (sumOf s.data.toList : Nat)) ∧ w = w' := by
  have h := of_some [s] b 0 c w (by simp) (fun i => by
    match i with
    | 0 => exact hs
    | i + 1 => simp) (fun i hi => by
    obtain rfl : i = 0 := by simpa using hi
    simpa using hc) hT
  simpa [bytesOf] using h


end Go.Proofs.YtkggmcnocpgnbaaDoor.S
