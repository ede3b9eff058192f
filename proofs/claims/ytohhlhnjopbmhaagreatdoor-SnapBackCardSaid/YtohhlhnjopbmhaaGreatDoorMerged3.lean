/- The contracts of Out's other methods: Raw, Text, Bytes; and of Num as callers meet it. -/
import Derived.Test.YtohhlhnjopbmhaaGreatDoorIOutNum
import Derived.Lib.AppendStr
import Derived.Lib.BufferRead
import Derived.Laws.IdiomStrings
import Derived.Test.YtohhlhnjopbmhaaGreatDoorMerged1
import Derived.OwnWalk
import Derived.Maps.AppendAt
namespace Go.Proofs.YtohhlhnjopbmhaaGreatDoor.I
open Go.RowKit

/-- The cells hold texts. -/
def Strs (w : World) (b off : Nat) (ss : List ByteArray) : Prop := ∀ i, i < ss.length → w.cell? ⟨b, off + i, none⟩ = some (.string (ss.getD i ByteArray.empty))
def bytesOf (ss : List ByteArray) : List UInt8 := ss.flatMap fun s => s.data.toList
theorem bytesOf_snoc (ss : List ByteArray) (k : Nat) (h : k < ss.length) : bytesOf (ss.take (k + 1)) = bytesOf (ss.take k) ++ (ss.getD k ByteArray.empty).data.toList := by
  unfold bytesOf
  rw [List.take_succ_eq_append_getElem h, List.flatMap_append]
  simp [h]
/-- Where an Out is left: the same Out, with these bytes; all else as it was. -/
def Wrote (base B : Nat) (bs : List UInt8) (w : World) (e : Ending) (w' : World) : Prop := e = .returned (.pointer (some ⟨B, 0, none⟩)) ∧ OutAt base B bs w' ∧ Below base w w' ∧ Keeps B w w'
theorem slice_shape {w : World} {base e size n : Nat} {v : Value} {xs : List Value} (h : w.ownsRow base e size v n xs) : ∃ a c, v = .slice a n c := by
  rcases h.2 with ⟨rfl, rfl⟩ | ⟨g, cap, cur, rfl, _⟩
  · exact ⟨_, _, rfl⟩
  · exact ⟨_, _, rfl⟩
theorem strCells_c5 (s : ByteArray) : Lib.strCells s = s.data.toList.map c5 := rfl

set_option maxRecDepth 100000 in
set_option maxHeartbeats 1000000 in
theorem raw_any (base B bl off cap : Nat) (ss : List ByteArray) (bs : List UInt8) (w : World) (hlen : (ss.length : Int) ≤ 10000) (hsz : ∀ k, k ≤ ss.length → ((bs ++ bytesOf (ss.take k)).length : Int) ≤ 100000000) (hbase : base ≤ B)
    (hO : OutAt base B bs w) (hS : ∀ w', Below base w w' → Keeps B w w' → Strs w' bl off ss) (hbw : base ≤ w.heap.size) :
    Calls Tryz.prog 27 #[.pointer (some ⟨B, 0, none⟩), .slice (some ⟨bl, off, none⟩) ss.length cap] w (Wrote base B (bs ++ bytesOf ss) w) := by
  obtain ⟨n, hn⟩ : ∃ n, ss.length = n := ⟨_, rfl⟩
  rw [hn] at hlen hsz ⊢
  have HN := Lib.hid hn
  have HSZ := Lib.hid hsz
  have HBase := Lib.hid hbase
  have HO := Lib.hid hO
  have HS := Lib.hid hS
  have HBW := Lib.hid hbw
  clear hn hsz hbase hO hS hbw
  obtain ⟨i0, hi, hz0, hz1, hz2⟩ := info_parts info5
  go_enter Tryz.func27, Tryz.ntmps27
  go_wp2
  go_loopw [6, 11] (fun _ i wr => ∃ k : Nat, k ≤ n ∧ i = .int .i64 k ∧ Hid (OutAt base B (bs ++ bytesOf (ss.take k)) wr ∧ Below base w wr ∧ Keeps B w wr)) (fun _ i _ => n - (intOf i).toNat)
  case atStart => exact ⟨0, by omega, rfl, Lib.hid ⟨by simpa [bytesOf] using HO.out, Below.refl _ _, Keeps.refl _ _⟩⟩
  case round =>
    obtain ⟨k, hk, rfl, hF⟩ := hrel
    by_cases hlt : k < n
    · obtain ⟨⟨v, hv, hrow⟩, hB, hKp⟩ := hF.out
      have hc := HS.out wr hB hKp k (by rw [HN.out]; exact hlt)
      obtain ⟨s, hs⟩ : ∃ s, ss.getD k ByteArray.empty = s := ⟨_, rfl⟩
      rw [hs] at hc
      have hnext := bytesOf_snoc ss k (by rw [HN.out]; exact hlt)
      rw [hs] at hnext
      obtain ⟨cur, hcur⟩ : ∃ cur, bs ++ bytesOf (ss.take k) = cur := ⟨_, rfl⟩
      have hlen2 : ((cur.length + s.size : Nat) : Int) ≤ 100000000 := by
        have h := HSZ.out (k + 1) (by omega)
        rw [hnext, ← List.append_assoc, hcur, List.length_append] at h
        exact h
      rw [hcur] at hrow
      have HNext : Hid (bs ++ bytesOf (ss.take (k + 1)) = cur ++ s.data.toList) := Lib.hid (by rw [hnext, ← List.append_assoc, hcur])
      obtain ⟨m, hm⟩ : ∃ m, cur.length = m := ⟨_, rfl⟩
      obtain ⟨X, hX⟩ : ∃ X, cur.map c5 = X := ⟨_, rfl⟩
      rw [hm] at hlen2 hrow
      rw [hX] at hrow
      have HM := Lib.hid hm
      have HX := Lib.hid hX
      have hbws := Nat.le_trans HBW.out hB.size
      have hcB := hv.cell
      have hneB : some B ≠ v.ownBlock := hv.not_row (by decide) hrow
      have HB := Lib.hid hB
      have HKp := Lib.hid hKp
      have HV := Lib.hid hv
      have HNe := Lib.hid hneB
      clear hF hB hKp hs hnext hcur hm hX hv hneB
      go_wp2_with (at_builtin; refine Lib.wpList_append_own_string wr rfl _ _ 61 9 rfl base 5 i0 Tryz.underlying61 Tryz.underlying9 hi hz0 hz1 hz2 v m X rfl hrow s rfl ?c1 ?c2 hbws ?_)
      case c1 => unfold maxLen; omega
      case c2 => omega
      intro v' w1 hown' hgrow _
      obtain ⟨a', c', rfl⟩ := slice_shape hown'
      have b1 : Boxed w1 B 63 v := HV.out.kept hgrow HNe.out
      have hc1 := b1.cell
      have hf1 := b1.frozen
      have HB1 := Lib.hid b1
      have HR := Lib.hid hown'
      have HBl : Hid (Below base w w1) := Lib.hid (HB.out.grown hgrow hbws (fun q hq => (hrow.lt q hq).1))
      have HKe : Hid (Keeps B w w1) := Lib.hid (HKp.out.grown hrow hgrow)
      clear hown' hgrow b1 hrow
      go_wp2
      go_roundw
      case rel =>
        refine ⟨k + 1, by omega, by go_num, Lib.hid ⟨?_, HBl.out.setCell (p := ⟨B, 0, none⟩) HBase.out _, HKe.out.trans (Keeps.setCell _ _ _ _)⟩⟩
        rw [HNext.out]
        refine ⟨_, HB1.out.set _, ?_⟩
        have h := HR.out.kept (grownBy_setCell' w1 B (.slice a' (m + s.size) c')) (.inr (HB1.out.not_row (by decide) HR.out).symm)
        rw [← HX.out, ← HM.out, strCells_c5, ← List.map_append] at h
        rw [← HM.out, List.length_append]
        exact h
      case measure => simp [intOf]; omega
    · obtain rfl : k = n := by omega
      obtain ⟨hOut, hB, hKp⟩ := hF.out
      have hfull : ss.take k = ss := by rw [← HN.out, List.take_length]
      rw [hfull] at hOut
      have HOut := Lib.hid hOut
      have HB := Lib.hid hB
      have HKp := Lib.hid hKp
      clear hOut hB hKp hF hfull
      go_wp2
      go_ret
      exact ⟨rfl, HOut.out, HB.out, HKp.out⟩

theorem num_any (base B bl off cap : Nat) (zs : List Int) (bs : List UInt8) (w : World) (hsz : (bs.length : Int) + 10 * zs.length ≤ 1000000) (hbase : base ≤ B)
    (hO : OutAt base B bs w) (hI : ∀ w', Below base w w' → Keeps B w w' → Ints w' bl off zs) (hbw : base ≤ w.heap.size) :
    Calls Tryz.prog 25 #[.pointer (some ⟨B, 0, none⟩), .slice (some ⟨bl, off, none⟩) zs.length cap] w (Wrote base B (bs ++ numsOf zs) w) :=
  (callsIn_wide (n := 4)).1 (outnum_in 4 (Nat.le_refl _) base B bl off zs.length cap zs bs w rfl hsz hbase hO hI hbw)

theorem cell_alloc_new (w : World) (cs : Array Value) (t : TypeId) (j : Nat) : (w.alloc (.cells cs t)).cell? ⟨w.heap.size, j, none⟩ = cs[j]? := World.cell?_alloc_new ..
/-- What lies in a new block of another type is kept. -/
theorem cell_keeps {B b o : Nat} {w w' : World} {cs : Array Value} {t : TypeId} {fr : Nat × Nat} (hk : Keeps B w w') (hb : w.heap[b]? = some (.cells cs t fr)) (ht : t ≠ 5) (hne : b ≠ B) : w'.cell? ⟨b, o, none⟩ = w.cell? ⟨b, o, none⟩ := by
  have h := hk.block b _ hb hne (fun cur fr' e => by cases e; exact ht rfl)
  exact World.cell?_of_block (a := ⟨b, o, none⟩) (h.trans hb.symm)
theorem block_new (w : World) (o : Obj) : (w.alloc o).heap[w.heap.size]? = some o := World.alloc_heap_new w o
theorem OutAt.lt {base B : Nat} {bs : List UInt8} {w : World} (h : OutAt base B bs w) : B < w.heap.size := by
  obtain ⟨v, h1, _⟩ := h
  exact h1.lt
theorem OutAt.alloc {base B : Nat} {bs : List UInt8} {w : World} (h : OutAt base B bs w) (o : Obj) : OutAt base B bs (w.alloc o) := by
  obtain ⟨v, h1, h2⟩ := h
  exact ⟨v, h1.alloc _, h2.alloc _⟩
/-- One number, in a new slice. -/
theorem num_one (base B : Nat) (z : Int) (bs : List UInt8) (w : World) (hsz : (bs.length : Int) ≤ 999990) (hbase : base ≤ B) (hO : OutAt base B bs w) (hbw : base ≤ w.heap.size) :
    Calls Tryz.prog 25 #[.pointer (some ⟨B, 0, none⟩), .slice (some ⟨w.heap.size, 0, none⟩) 1 1] (w.alloc (.cells #[.int .i64 z] 3)) (Wrote base B (bs ++ digs (clipN z)) (w.alloc (.cells #[.int .i64 z] 3))) := by
  have h := num_any base B w.heap.size 0 1 [z] bs (w.alloc (.cells #[.int .i64 z] 3)) (by simp; omega) hbase (hO.alloc _) (fun w' _ hk i hi => by
    obtain rfl : i = 0 := by simpa using hi
    rw [cell_keeps hk (block_new w _) (by decide) (by have := hO.lt; omega), cell_alloc_new]; rfl) (by simp; omega)
  simpa [numsOf] using h
theorem raw_one (base B : Nat) (s : ByteArray) (bs : List UInt8) (w : World) (hsz : ((bs.length + s.size : Nat) : Int) ≤ 100000000) (hbase : base ≤ B) (hO : OutAt base B bs w) (hbw : base ≤ w.heap.size) :
    Calls Tryz.prog 27 #[.pointer (some ⟨B, 0, none⟩), .slice (some ⟨w.heap.size, 0, none⟩) 1 1] (w.alloc (.cells #[.string s] 9)) (Wrote base B (bs ++ s.data.toList) (w.alloc (.cells #[.string s] 9))) := by
  have hsl : s.data.toList.length = s.size := rfl
  have h := raw_any base B w.heap.size 0 1 [s] bs (w.alloc (.cells #[.string s] 9)) (by simp) (fun k hk => by
    match k, hk with
    | 0, _ => simp [bytesOf]; omega
    | 1, _ => simp [bytesOf]; omega
    | k + 2, hk => simp at hk) hbase (hO.alloc _) (fun w' _ hk i hi => by
    obtain rfl : i = 0 := by simpa using hi
    rw [cell_keeps hk (block_new w _) (by decide) (by have := hO.lt; omega), cell_alloc_new]; rfl) (by simp; omega)
  simpa [bytesOf] using h

theorem bytes_any (base B : Nat) (bs : List UInt8) (w : World) (hO : OutAt base B bs w) :
    Calls Tryz.prog 30 #[.pointer (some ⟨B, 0, none⟩)] w fun e w' => e = .returned (.string ⟨bs.toArray⟩) ∧ w = w' := by
  obtain ⟨v, hv, hr⟩ := hO
  have hcB := hv.cell
  have hcells := @World.ownsRow.cells _ _ _ _ _ _ _ hr
  rcases hr.2 with ⟨rfl, h0⟩ | ⟨g, cap, cur, rfl, _⟩
  · have hconv := Lib.run_convert_nil_bytes (P := Tryz.prog) w 61 9 5 0 Tryz.underlying61 Tryz.underlying5 Tryz.underlying9
    have hb0 : bs = [] := List.length_eq_zero_iff.1 h0
    subst hb0
    clear hr hcells hv h0
    go_enter Tryz.func30, Tryz.ntmps30
    go_wp2
    go_ret
    exact ⟨rfl, rfl⟩
  · have hconv := run_convert_bytes_back (P := Tryz.prog) w 61 9 5 ⟨g, 0, none⟩ cap bs Tryz.underlying61 Tryz.underlying5 Tryz.underlying9 (fun j hj => hcells (g := g) rfl j _ (by simp [c5, hj]))
    obtain ⟨u, hu⟩ : ∃ u : ByteArray, (⟨bs.toArray⟩ : ByteArray) = u := ⟨_, rfl⟩
    rw [hu] at hconv ⊢
    obtain ⟨m, hm⟩ : ∃ m, bs.length = m := ⟨_, rfl⟩
    rw [hm] at hconv hcB
    clear hr hcells hv hu hm
    go_enter Tryz.func30, Tryz.ntmps30
    go_wp2
    go_ret
    exact ⟨rfl, rfl⟩

/-- A text's bytes. -/
def textB (s : ByteArray) : List UInt8 := digs (clipN s.size) ++ s.data.toList
def textsOf (ss : List ByteArray) : List UInt8 := ss.flatMap textB
theorem textsOf_snoc (ss : List ByteArray) (k : Nat) (h : k < ss.length) : textsOf (ss.take (k + 1)) = textsOf (ss.take k) ++ textB (ss.getD k ByteArray.empty) := by
  unfold textsOf
  rw [List.take_succ_eq_append_getElem h, List.flatMap_append]
  simp [h]
set_option maxRecDepth 100000 in
set_option maxHeartbeats 1000000 in
theorem text_any (base B bl off cap : Nat) (ss : List ByteArray) (bs : List UInt8) (w : World) (hlen : (ss.length : Int) ≤ 10000) (hsz : ∀ k, k ≤ ss.length → ((bs ++ textsOf (ss.take k)).length : Int) ≤ 900000) (hbase : base ≤ B)
    (hO : OutAt base B bs w) (hS : ∀ w', Below base w w' → Keeps B w w' → Strs w' bl off ss) (hbw : base ≤ w.heap.size) :
    Calls Tryz.prog 26 #[.pointer (some ⟨B, 0, none⟩), .slice (some ⟨bl, off, none⟩) ss.length cap] w (Wrote base B (bs ++ textsOf ss) w) := by
  obtain ⟨n, hn⟩ : ∃ n, ss.length = n := ⟨_, rfl⟩
  rw [hn] at hlen hsz ⊢
  have HN := Lib.hid hn
  have HSZ := Lib.hid hsz
  have HBase := Lib.hid hbase
  have HO := Lib.hid hO
  have HS := Lib.hid hS
  have HBW := Lib.hid hbw
  clear hn hsz hbase hO hS hbw
  go_enter Tryz.func26, Tryz.ntmps26
  go_wp2
  go_loopw [6, 9] (fun _ i wr => ∃ k : Nat, k ≤ n ∧ i = .int .i64 k ∧ Hid (OutAt base B (bs ++ textsOf (ss.take k)) wr ∧ Below base w wr ∧ Keeps B w wr)) (fun _ i _ => n - (intOf i).toNat)
  case atStart => exact ⟨0, by omega, rfl, Lib.hid ⟨by simpa [textsOf] using HO.out, Below.refl _ _, Keeps.refl _ _⟩⟩
  case round =>
    obtain ⟨k, hk, rfl, hF⟩ := hrel
    by_cases hlt : k < n
    · obtain ⟨hOut, hB, hKp⟩ := hF.out
      have hc := HS.out wr hB hKp k (by rw [HN.out]; exact hlt)
      obtain ⟨s, hs⟩ : ∃ s, ss.getD k ByteArray.empty = s := ⟨_, rfl⟩
      rw [hs] at hc
      have hnext := textsOf_snoc ss k (by rw [HN.out]; exact hlt)
      rw [hs] at hnext
      obtain ⟨cur, hcur⟩ : ∃ cur, bs ++ textsOf (ss.take k) = cur := ⟨_, rfl⟩
      rw [hcur] at hOut
      have hlen2 := HSZ.out (k + 1) (by omega)
      rw [hnext, ← List.append_assoc, hcur] at hlen2
      unfold textB at hlen2
      simp only [List.length_append] at hlen2
      have hsl : s.data.toList.length = s.size := rfl
      have hbws := Nat.le_trans HBW.out hB.size
      have HNext : Hid (bs ++ textsOf (ss.take (k + 1)) = cur ++ textB s) := Lib.hid (by rw [hnext, ← List.append_assoc, hcur])
      have HC1 := Lib.hid (num_one base B s.size cur wr (by omega) HBase.out hOut hbws)
      have HLen := Lib.hid hlen2
      have HBl := Lib.hid hB
      have HKe := Lib.hid hKp
      have HOut := Lib.hid hOut
      have HBws := Lib.hid hbws
      have hszs : (s.size : Int) ≤ 900000 := by omega
      clear hF hB hKp hs hnext hcur hOut hlen2 hsl hbws
      go_wp2_with fail
      refine HC1.out.mono ?_
      rintro e w1 ⟨rfl, hO1, hB1, hK1⟩
      have hbw1 : base ≤ w1.heap.size := Nat.le_trans (by have := HBws.out; simp; omega) hB1.size
      have HC2 := Lib.hid (raw_one base B s (cur ++ digs (clipN s.size)) w1 (by have h := HLen.out; have hsl : s.data.toList.length = s.size := rfl; simp; omega) HBase.out hO1 hbw1)
      have HB1 : Hid (Below base w w1) := Lib.hid ((HBl.out.alloc HBws.out _).trans hB1)
      have HK1 : Hid (Keeps B w w1) := Lib.hid ((HKe.out.trans (Keeps.alloc _ _ _)).trans hK1)
      have HW1 := Lib.hid hbw1
      clear hO1 hB1 hK1 hbw1
      go_wp2_with fail
      refine HC2.out.mono ?_
      rintro e w2 ⟨rfl, hO2, hB2, hK2⟩
      have HF2 : Hid (OutAt base B (bs ++ textsOf (ss.take (k + 1))) w2 ∧ Below base w w2 ∧ Keeps B w w2) := Lib.hid ⟨by rw [HNext.out]; unfold textB; rw [← List.append_assoc]; exact hO2, (HB1.out.alloc HW1.out _).trans hB2, (HK1.out.trans (Keeps.alloc _ _ _)).trans hK2⟩
      clear hO2 hB2 hK2
      go_wp2
      go_roundw
      case rel => exact ⟨k + 1, by omega, by go_num, HF2⟩
      case measure => simp [intOf]; omega
    · obtain rfl : k = n := by omega
      obtain ⟨hOut, hB, hKp⟩ := hF.out
      have hfull : ss.take k = ss := by rw [← HN.out, List.take_length]
      rw [hfull] at hOut
      have HOut := Lib.hid hOut
      have HB := Lib.hid hB
      have HKp := Lib.hid hKp
      clear hOut hB hKp hF hfull
      go_wp2
      go_ret
      exact ⟨rfl, HOut.out, HB.out, HKp.out⟩
end Go.Proofs.YtohhlhnjopbmhaaGreatDoor.I

/- The fixed fact of the statements of layer 1; and what an Out and an In keep of each other. -/
namespace Go.Proofs.YtohhlhnjopbmhaaGreatDoor.I
open Go.RowKit

theorem InSt.keeps {B p : Nat} {l : List UInt8} {e : Nat} {w w' : World} (h : InSt p l e w) (hk : Keeps B w w') (hne : p ≠ B) : InSt p l e w' := by
  obtain ⟨s, hb, hl, hs⟩ := h
  exact ⟨s, hk.block p _ hb hne (fun cur fr ee => by cases ee), hl, hs⟩
theorem InSt.alloc {p : Nat} {l : List UInt8} {e : Nat} {w : World} (h : InSt p l e w) (o : Obj) : InSt p l e (w.alloc o) := by
  obtain ⟨s, hb, hl, hs⟩ := h
  exact ⟨s, (Below.heap_alloc w o p (Array.getElem?_eq_some_iff.1 hb).1).trans hb, hl, hs⟩
/-- A new Out. -/
theorem out_new (base : Nat) (w : World) : OutAt base w.heap.size [] (w.alloc (.cells #[.slice none 0 0] 63)) := ⟨_, Boxed.new _ _ _, World.ownsRow_nil _ _ _ _⟩
set_option maxHeartbeats 400000 in
theorem cut_any (s : ByteArray) (n : Nat) (_ : (s.size : Int) ≤ 9223372036854775807) (hn : (n : Int) ≤ 1000) (w : World) :
    Calls Tryz.prog 20 #[.string s, .int .i64 n] w fun e w' => (∃ t : ByteArray, e = .returned (.string t) ∧ (t.size : Int) ≤ n ∧ t.data.toList = s.data.toList.take n) ∧ w = w' := by
  go_enter Tryz.func20, Tryz.ntmps20
  go_wp2
  · have h : n < s.size := by assumption
    go_ret
    refine ⟨⟨_, rfl, ?_, ?_⟩, rfl⟩
    · simp; omega
    · simp
  · have h : ¬ n < s.size := by assumption
    go_ret
    refine ⟨⟨_, rfl, ?_, ?_⟩, rfl⟩
    · omega
    · rw [List.take_of_length_le (by show s.size ≤ n; omega)]

end Go.Proofs.YtohhlhnjopbmhaaGreatDoor.I

/- The contracts of In's Raw and Text, of Few, and of Out.Text at a list that is empty. -/
namespace Go.Proofs.YtohhlhnjopbmhaaGreatDoor.I
open Go.RowKit

/-- What Raw does. -/
def rawS (l : List UInt8) (e : Nat) (n : Nat) : (List UInt8 × Nat) × List UInt8 := if l.length < n then (failS l e 2, []) else ((l.drop n, e), l.take n)
/-- A method's text, the In behind it, and all else as it was. -/
def TookS (p : Nat) (b : List UInt8) (st : List UInt8 × Nat) (w : World) (e : Ending) (w' : World) : Prop := ∃ t : ByteArray, e = .returned (.string t) ∧ t.data.toList = b ∧ InSt p st.1 st.2 w' ∧ w.grownBy w' (some p)
set_option maxHeartbeats 400000 in
theorem inraw_any (p : Nat) (l : List UInt8) (e : Nat) (n : Int) (w : World) (h : InSt p l e w) : Calls Tryz.prog 87 #[.pointer (some ⟨p, 0, none⟩), .int .i64 n] w (TookS p (rawS l e n.toNat).2 (rawS l e n.toNat).1 w) := by
  have hst := h
  obtain ⟨s, hb, hl, hs⟩ := h
  have c0 := hb.c0
  have f0 := hb.fr 0
  have hlen := inst_len hl
  have HB := Lib.hid hb
  have HL := Lib.hid hl
  have H2 := Lib.hid (fail_any p l e 2 w hst)
  clear hb hl hst
  rcases Int.lt_or_le n 0 with hn | hn
  · have hr : rawS l e n.toNat = ((l, e), []) := by rw [show n.toNat = 0 from by omega]; simp [rawS]
    rw [hr]
    clear hr hlen
    go_enter Tryz.func87, Tryz.ntmps87
    go_wp2
    go_ret
    refine ⟨_, rfl, by simp, ⟨_, HB.out.set0 _, ?_, ?_⟩, grown_set _ _ _ _⟩
    · first | exact HL.out | (rw [← HL.out]; simp)
    · first | exact hs | (simp; omega)
  · obtain ⟨m, rfl⟩ := Int.eq_ofNat_of_zero_le hn
    rw [Int.toNat_natCast]
    by_cases hlt : s.size < m
    · have hr : rawS l e m = (failS l e 2, []) := by unfold rawS; rw [if_pos (by omega)]
      rw [hr]
      clear hr hlen
      go_enter Tryz.func87, Tryz.ntmps87
      go_wp2_with (go_at_call 86; refine H2.out.mono ?_; rintro en w2 ⟨rfl, hi2, hg2⟩; have HI2 := Lib.hid hi2; have HG2 := Lib.hid hg2; clear hi2 hg2)
      go_ret
      exact ⟨_, rfl, rfl, HI2.out, HG2.out⟩
    · have hr : rawS l e m = ((l.drop m, e), l.take m) := by unfold rawS; rw [if_neg (by omega)]
      rw [hr]
      have hle : (m : Int) ≤ s.size := by omega
      clear hr hlen hlt
      go_enter Tryz.func87, Tryz.ntmps87
      go_wp2
      go_ret
      refine ⟨_, rfl, by rw [← HL.out]; simp, ⟨_, HB.out.set0 _, ?_, ?_⟩, grown_set _ _ _ _⟩
      · rw [← HL.out, ByteArray.data_extract]
        simp
        rw [List.take_of_length_le (by rw [List.length_drop]; exact Nat.le_refl _)]
      · simp; omega
/-- What Text does. -/
def textS (l : List UInt8) (e : Nat) : (List UInt8 × Nat) × List UInt8 := rawS (numS l e).1.1 (numS l e).1.2 (numS l e).2
theorem intext_any (p : Nat) (l : List UInt8) (e : Nat) (w : World) (h : InSt p l e w) : Calls Tryz.prog 71 #[.pointer (some ⟨p, 0, none⟩)] w (TookS p (textS l e).2 (textS l e).1 w) := by
  have H1 := Lib.hid (innum_any p l e w h)
  clear h
  go_enter Tryz.func71, Tryz.ntmps71
  go_wp2_with fail
  refine H1.out.mono ?_
  rintro en w1 ⟨rfl, hi1, hg1⟩
  have H2 := Lib.hid (inraw_any p _ _ (((numS l e).2 : Nat) : Int) w1 hi1)
  rw [Int.toNat_natCast] at H2
  have HG := Lib.hid hg1
  clear hi1 hg1
  go_wp2_with fail
  refine H2.out.mono ?_
  rintro en w2 ⟨t, rfl, ht, hi2, hg2⟩
  have HT := Lib.hid ht
  have HI := Lib.hid hi2
  have HG2 := Lib.hid hg2
  clear ht hi2 hg2
  go_wp2
  go_ret
  exact ⟨_, rfl, HT.out, HI.out, grown_trans HG.out HG2.out⟩
theorem textS_back (s : ByteArray) (r : List UInt8) (hs : (s.size : Int) ≤ 1000000) : textS (textB s ++ r) 0 = ((r, 0), s.data.toList) := by
  have hc : clipN (s.size : Int) = s.size := by unfold clipN top; simp; omega
  have hn : numS (textB s ++ r) 0 = ((s.data.toList ++ r, 0), s.size) := by
    unfold textB numS
    rw [hc, List.append_assoc, first_digs s.size _ (by unfold top; omega)]
    simp
  unfold textS
  rw [hn]
  unfold rawS
  have hsl : s.data.toList.length = s.size := rfl
  rw [if_neg (by simp), List.drop_left' hsl, List.take_left' hsl]
theorem textB_len (s : ByteArray) : (textB s).length ≤ 9 + s.size := by
  have h := digs_nine (clipN s.size) (clipN_le _)
  have hsl : s.data.toList.length = s.size := rfl
  unfold textB
  rw [List.length_append]
  omega
theorem InSt.grown {p : Nat} {l : List UInt8} {e : Nat} {w w' : World} {row : Option Nat} (h : InSt p l e w) (hg : w.grownBy w' row) (hne : some p ≠ row) : InSt p l e w' := by
  obtain ⟨s, hb, hl, hs⟩ := h
  exact ⟨s, (hg.block p hb.lt hne).trans hb, hl, hs⟩

end Go.Proofs.YtohhlhnjopbmhaaGreatDoor.I

/- A snap (layer 16) as a value: may it be, its bytes, and back. No Go here. -/
namespace Go.Proofs.YtohhlhnjopbmhaaGreatDoor.K
open Go.RowKit Go.Proofs.YtohhlhnjopbmhaaGreatDoor.I

structure Sn where
  k : Int
  w : Int
  h : Int
  x : Int
  y : Int
  t : ByteArray
  R : List Ro
  n : Int
  c : Int
  B : List (Int × Int)
deriving DecidableEq
def emptyN : Sn := ⟨0, 0, 0, 0, 0, ⟨#[]⟩, [], 0, 0, []⟩
def Stands (s : Sn) : Prop := (1 ≤ s.w ∧ s.w ≤ 1000) ∧ (1 ≤ s.h ∧ s.h ≤ 1000) ∧ (0 ≤ s.x ∧ s.x ≤ s.w - 1) ∧ 0 ≤ s.y ∧ s.y ≤ s.h - 1
def Counts (s : Sn) : Prop := (1 ≤ s.k ∧ s.k ≤ 1152921504606846976) ∧ (0 ≤ s.n ∧ s.n ≤ 1152921504606846976) ∧ (0 ≤ s.c ∧ s.c ≤ 281474976710656) ∧ s.t.size ≤ 200
def Shows (s : Sn) : Prop := (s.R.length : Int) = s.h ∧ ∀ r ∈ s.R, (r.l.length : Int) = s.w ∧ ∀ c ∈ r.l, okC c
def Begins (s : Sn) : Prop := (∀ g ∈ s.B, (0 ≤ g.1 ∧ g.1 ≤ 1114111) ∧ 0 ≤ g.2 ∧ g.2 ≤ 647) ∧ s.B.length ≤ 1024
instance (s : Sn) : Decidable (Stands s) := by unfold Stands; exact inferInstance
instance (s : Sn) : Decidable (Counts s) := by unfold Counts; exact inferInstance
instance (s : Sn) : Decidable (Shows s) := by unfold Shows; exact inferInstance
instance (s : Sn) : Decidable (Begins s) := by unfold Begins; exact inferInstance
def MayN (s : Sn) : Prop := s = emptyN ∨ (Stands s ∧ Counts s ∧ Shows s ∧ Begins s)
instance (s : Sn) : Decidable (MayN s) := by unfold MayN; exact inferInstance
theorem Begins.may {s : Sn} (h : Begins s) : MayL s.B := h.1
def numB (z : Int) : List UInt8 := digs (clipN z)
def headB (s : Sn) : List UInt8 := numB s.k ++ (numB s.w ++ (numB s.h ++ (numB s.x ++ (numB s.y ++ (textB s.t ++ (numB s.n ++ (numB s.c ++ packG s.B)))))))
def rawN (s : Sn) : List UInt8 := headB s ++ s.R.flatMap packR
def packN (s : Sn) : List UInt8 := if s ≠ emptyN ∧ MayN s then rawN s else []
theorem packN_rows (l : List Ro) (k : Nat) (h : k < l.length) : (l.take (k + 1)).flatMap packR = (l.take k).flatMap packR ++ packR l[k] := by
  rw [List.take_succ_eq_append_getElem h, List.flatMap_append]
  simp
theorem numB_len (z : Int) : (numB z).length ≤ 9 := digs_nine _ (clipN_le _)
theorem numB_pos (z : Int) : 0 < (numB z).length := digs_pos _
theorem headB_len {s : Sn} (h1 : s.t.size ≤ 200) (h2 : s.B.length ≤ 1024) : (headB s).length ≤ 20000 := by
  have a1 := numB_len s.k
  have a2 := numB_len s.w
  have a3 := numB_len s.h
  have a4 := numB_len s.x
  have a5 := numB_len s.y
  have a6 := numB_len s.n
  have a7 := numB_len s.c
  have a8 := packG_len s.B
  have a9 := textB_len s.t
  unfold headB
  simp only [List.length_append]
  omega
theorem rows_len : ∀ (l : List Ro) (w : Nat), (∀ r ∈ l, r.l.length ≤ w) → (l.flatMap packR).length ≤ (9 + 36 * w) * l.length
  | [], _, _ => by simp
  | r :: l, w, h => by
    have h1 := rows_len l w (fun q hq => h q (List.mem_cons_of_mem _ hq))
    have h2 := packR_len r
    have h3 := h r List.mem_cons_self
    rw [List.flatMap_cons, List.length_append, List.length_cons, Nat.mul_add, Nat.mul_one]
    omega
theorem rawN_pos (s : Sn) : rawN s ≠ [] := by
  have := numB_pos s.k
  intro e
  have h : (rawN s).length = 0 := by rw [e]; rfl
  unfold rawN headB at h
  simp only [List.length_append] at h
  omega
theorem packN_nil (s : Sn) : packN s = [] ↔ (s = emptyN ∨ ¬ MayN s) := by
  unfold packN
  by_cases h : s ≠ emptyN ∧ MayN s
  · rw [if_pos h]
    exact ⟨fun e => absurd e (rawN_pos s), fun e => by rcases e with e | e; exact absurd e h.1; exact absurd h.2 e⟩
  · rw [if_neg h]
    refine ⟨fun _ => ?_, fun _ => rfl⟩
    by_cases h1 : s = emptyN
    · exact .inl h1
    · exact .inr (fun h2 => h ⟨h1, h2⟩)
/-- rows, one behind the other -/
def rowsS (w : Nat) : Nat → Sta → Sta × List Ro
  | 0, st => (st, [])
  | n + 1, st => ((readR (rowsS w n st).1 w).1, (rowsS w n st).2 ++ [(readR (rowsS w n st).1 w).2])
theorem rowsS_len (w : Nat) : ∀ (n : Nat) (st : Sta), (rowsS w n st).2.length = n
  | 0, _ => rfl
  | n + 1, st => by show ((rowsS w n st).2 ++ [_]).length = _; rw [List.length_append, rowsS_len w n st]; rfl
theorem rowsS_back {l : List Ro} {w : Nat} (hw : w ≤ 2000) (h : ∀ r ∈ l, r.l.length = w ∧ AllC okC r.l) (r : List UInt8) : ∀ j, j ≤ l.length → rowsS w j (l.flatMap packR ++ r, 0) = (((l.drop j).flatMap packR ++ r, 0), l.take j)
  | 0, _ => by simp [rowsS]
  | j + 1, hj => by
    have hjl : j < l.length := by omega
    have ih := rowsS_back hw h r j (by omega)
    obtain ⟨e1, e2⟩ := h _ (List.getElem_mem hjl)
    show ((readR (rowsS w j _).1 w).1, (rowsS w j _).2 ++ [(readR (rowsS w j _).1 w).2]) = _
    rw [ih]
    simp only
    have hb := readR_back e2 (by omega) ((l.drop (j + 1)).flatMap packR ++ r)
    rw [e1] at hb
    rw [List.drop_eq_getElem_cons hjl, List.flatMap_cons, List.append_assoc, hb, List.take_succ_eq_append_getElem hjl]
/-- the parts, one behind the other -/
def pK (st : Sta) : Sta × Nat := numS st.1 st.2
def pW (st : Sta) : Sta × Nat := atS (pK st).1 1000
def pH (st : Sta) : Sta × Nat := atS (pW st).1 1000
def pX (st : Sta) : Sta × Nat := numS (pH st).1.1 (pH st).1.2
def pY (st : Sta) : Sta × Nat := numS (pX st).1.1 (pX st).1.2
def pT (st : Sta) : Sta × List UInt8 := textS (pY st).1.1 (pY st).1.2
def pN (st : Sta) : Sta × Nat := numS (pT st).1.1 (pT st).1.2
def pC (st : Sta) : Sta × Nat := numS (pN st).1.1 (pN st).1.2
def pB (st : Sta) : Sta × List (Int × Int) := readS (pC st).1
def pR (st : Sta) : Sta × List Ro := rowsS (pW st).2 (pH st).2 (pB st).1
def readN (st : Sta) : Sta × Sn := ((pR st).1, ⟨((pK st).2 : Int), ((pW st).2 : Int), ((pH st).2 : Int), ((pX st).2 : Int), ((pY st).2 : Int), ⟨(pT st).2.toArray⟩, (pR st).2, ((pN st).2 : Int), ((pC st).2 : Int), (pB st).2⟩)
theorem pK_def (st : Sta) : pK st = numS st.1 st.2 := by rw [pK]
theorem pW_def (st : Sta) : pW st = atS (pK st).1 1000 := by rw [pW]
theorem pH_def (st : Sta) : pH st = atS (pW st).1 1000 := by rw [pH]
theorem pX_def (st : Sta) : pX st = numS (pH st).1.1 (pH st).1.2 := by rw [pX]
theorem pY_def (st : Sta) : pY st = numS (pX st).1.1 (pX st).1.2 := by rw [pY]
theorem pT_def (st : Sta) : pT st = textS (pY st).1.1 (pY st).1.2 := by rw [pT]
theorem pN_def (st : Sta) : pN st = numS (pT st).1.1 (pT st).1.2 := by rw [pN]
theorem pC_def (st : Sta) : pC st = numS (pN st).1.1 (pN st).1.2 := by rw [pC]
theorem pB_def (st : Sta) : pB st = readS (pC st).1 := by rw [pB]
theorem pR_def (st : Sta) : pR st = rowsS (pW st).2 (pH st).2 (pB st).1 := by rw [pR]
theorem bytes_list (t : ByteArray) : (⟨t.data.toList.toArray⟩ : ByteArray) = t := by cases t; simp
theorem numS_nat {z : Int} (h0 : 0 ≤ z) (h1 : z ≤ 1152921504606846976) (r : List UInt8) : numS (numB z ++ r) 0 = ((r, 0), z.toNat) := by
  have := numS_back z r
  have h2 : clipN z = z.toNat := by unfold clipN; have : (1152921504606846976 : Nat) ≤ top := by decide
                                    omega
  rw [h2] at this
  unfold numB
  rw [h2]
  exact this
theorem atS_nat {z : Int} (h0 : 0 ≤ z) (h1 : z ≤ 1000) (r : List UInt8) : atS (numB z ++ r, 0) 1000 = ((r, 0), z.toNat) := by
  unfold numB
  have h2 : clipN z = z.toNat := by unfold clipN; have : (1000 : Nat) ≤ top := by decide
                                    omega
  rw [h2]
  exact atS_back (by omega) (by decide) r
/-- what was written is read -/
theorem readN_back {s : Sn} (h1 : Stands s) (h2 : Counts s) (h3 : Shows s) (h4 : Begins s) (r : List UInt8) : readN (rawN s ++ r, 0) = ((r, 0), s) := by
  obtain ⟨k, w, h, x, y, t, R, n, c, B⟩ := s
  obtain ⟨⟨w1, w2⟩, ⟨g1, g2⟩, ⟨x1, x2⟩, y1, y2⟩ := h1
  obtain ⟨⟨k1, k2⟩, ⟨n1, n2⟩, ⟨c1, c2⟩, t1⟩ := h2
  obtain ⟨r1, r2⟩ := h3
  have h5 := h4.may
  obtain ⟨-, b2⟩ := h4
  simp only at w1 w2 g1 g2 x1 x2 y1 y2 k1 k2 n1 n2 c1 c2 t1 r1 r2 b2 h5
  obtain ⟨st, hst⟩ : ∃ st : Sta, (rawN ⟨k, w, h, x, y, t, R, n, c, B⟩ ++ r, 0) = st := ⟨_, rfl⟩
  have eK : pK st = ((numB w ++ (numB h ++ (numB x ++ (numB y ++ (textB t ++ (numB n ++ (numB c ++ (packG B ++ (R.flatMap packR ++ r)))))))), 0), k.toNat) := by
    rw [← hst, pK_def]
    unfold rawN headB
    simp only [List.append_assoc]
    exact numS_nat (by omega) k2 _
  have eW : pW st = ((numB h ++ (numB x ++ (numB y ++ (textB t ++ (numB n ++ (numB c ++ (packG B ++ (R.flatMap packR ++ r))))))), 0), w.toNat) := by
    rw [pW_def, eK]; exact atS_nat (by omega) w2 _
  have eH : pH st = ((numB x ++ (numB y ++ (textB t ++ (numB n ++ (numB c ++ (packG B ++ (R.flatMap packR ++ r)))))), 0), h.toNat) := by
    rw [pH_def, eW]; exact atS_nat (by omega) g2 _
  have eX : pX st = ((numB y ++ (textB t ++ (numB n ++ (numB c ++ (packG B ++ (R.flatMap packR ++ r))))), 0), x.toNat) := by
    rw [pX_def, eH]; exact numS_nat x1 (by omega) _
  have eY : pY st = ((textB t ++ (numB n ++ (numB c ++ (packG B ++ (R.flatMap packR ++ r)))), 0), y.toNat) := by
    rw [pY_def, eX]; exact numS_nat y1 (by omega) _
  have eT : pT st = ((numB n ++ (numB c ++ (packG B ++ (R.flatMap packR ++ r))), 0), t.data.toList) := by
    rw [pT_def, eY]; exact textS_back t _ (by omega)
  have eN : pN st = ((numB c ++ (packG B ++ (R.flatMap packR ++ r)), 0), n.toNat) := by
    rw [pN_def, eT]; exact numS_nat n1 n2 _
  have eC : pC st = ((packG B ++ (R.flatMap packR ++ r), 0), c.toNat) := by
    rw [pC_def, eN]; exact numS_nat c1 (by omega) _
  have eB : pB st = ((R.flatMap packR ++ r, 0), B) := by
    rw [pB_def, eC]; exact readS_back h5 b2 _
  have eR : pR st = ((r, 0), R) := by
    rw [pR_def, eB, eW, eH]
    simp only
    rw [show h.toNat = R.length by omega, rowsS_back (by omega) (fun q hq => ⟨by have := (r2 q hq).1; omega, (r2 q hq).2⟩) r R.length (Nat.le_refl _), List.drop_of_length_le (Nat.le_refl _), List.take_of_length_le (Nat.le_refl _)]
    simp
  rw [hst]
  unfold readN
  rw [eR, eK, eW, eH, eX, eY, eT, eN, eC, eB]
  simp only
  rw [bytes_list, Int.toNat_of_nonneg (by omega), Int.toNat_of_nonneg (by omega), Int.toNat_of_nonneg (by omega), Int.toNat_of_nonneg x1, Int.toNat_of_nonneg y1, Int.toNat_of_nonneg n1, Int.toNat_of_nonneg c1]
/-- a snap of bytes, and the error -/
def parseS (l : List UInt8) : Sn × Nat :=
  if l = [] then (emptyN, 0)
  else if endS (readN (l, 0)).1.1 (readN (l, 0)).1.2 ≠ 0 then (emptyN, endS (readN (l, 0)).1.1 (readN (l, 0)).1.2)
  else if (readN (l, 0)).2 = emptyN ∨ ¬ MayN (readN (l, 0)).2 then (emptyN, 1) else ((readN (l, 0)).2, 0)
theorem parse_back {s : Sn} (h : MayN s) : parseS (packN s) = (s, 0) := by
  by_cases he : s = emptyN
  · subst he
    have : packN emptyN = [] := (packN_nil _).2 (.inl rfl)
    rw [this]
    unfold parseS
    rw [if_pos rfl]
  · have hp : packN s = rawN s := by unfold packN; rw [if_pos ⟨he, h⟩]
    obtain ⟨h1, h2, h3, h4⟩ := h.resolve_left he
    have hb := readN_back h1 h2 h3 h4 []
    rw [List.append_nil] at hb
    unfold parseS
    rw [hp, if_neg (rawN_pos s), hb]
    simp only
    rw [if_neg (by decide), if_neg (by intro e; rcases e with e | e; exact he e; exact e h)]
end Go.Proofs.YtohhlhnjopbmhaaGreatDoor.K
