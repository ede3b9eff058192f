/- The contracts of Out's other methods: Raw, Text, Bytes; and of Num as callers meet it. -/
import Derived.Test.YtjlljkdlgkociaaIOutNum
import Derived.Lib.AppendStr
import Derived.Lib.BufferRead
import Derived.Laws.IdiomStrings
namespace Go.Proofs.Ytjlljkdlgkociaa.I
open Go.RowKit

/-- The cells hold texts. -/
def Strs (w : World) (b off : Nat) (ss : List ByteArray) : Prop := ∀ i, i < ss.length → w.cell? ⟨b, off + i, none⟩ = some (.string (ss.getD i ByteArray.empty))
def bytesOf (ss : List ByteArray) : List UInt8 := ss.flatMap fun s => s.data.toList
theorem bytesOf_snoc (ss : List ByteArray) (k : Nat) (h : k < ss.length) : bytesOf (ss.take (k + 1)) = bytesOf (ss.take k) ++ (ss.getD k ByteArray.empty).data.toList := by
  unfold bytesOf
  rw [List.take_succ_eq_append_getElem h, List.flatMap_append]
  simp [h]
/-- Where an Out is left: the same Out, with these bytes; all else as it was. -/
def Wrote (base B : Nat) (bs : List UInt8) (w : World) (e : Ending) (w' : World) : Prop := e = .returned (.pointer (some ⟨B, 0, none⟩)) ∧ OutAt base B bs w' ∧ Below base w w' ∧ Keeps B w w'
theorem slice_shape {w : World} {base e size n : Nat} {v : Value} {xs : List Value} (h : w.ownsRow base e size v n xs) : ∃ a c, v = .slice a n c := by
  rcases h.2 with ⟨rfl, rfl⟩ | ⟨g, cap, cur, rfl, _⟩
  · exact ⟨_, _, rfl⟩
  · exact ⟨_, _, rfl⟩
theorem strCells_c5 (s : ByteArray) : Lib.strCells s = s.data.toList.map c5 := rfl

set_option maxRecDepth 100000 in
set_option maxHeartbeats 1000000 in
theorem raw_any (base B bl off cap : Nat) (ss : List ByteArray) (bs : List UInt8) (w : World) (hlen : (ss.length : Int) ≤ 10000) (hsz : ∀ k, k ≤ ss.length → ((bs ++ bytesOf (ss.take k)).length : Int) ≤ 100000000) (hbase : base ≤ B)
    (hO : OutAt base B bs w) (hS : ∀ w', Below base w w' → Keeps B w w' → Strs w' bl off ss) (hbw : base ≤ w.heap.size) :
    Calls Try.prog 36 #[.pointer (some ⟨B, 0, none⟩), .slice (some ⟨bl, off, none⟩) ss.length cap] w (Wrote base B (bs ++ bytesOf ss) w) := by
  obtain ⟨n, hn⟩ : ∃ n, ss.length = n := ⟨_, rfl⟩
  rw [hn] at hlen hsz ⊢
  have HN := Lib.hid hn
  have HSZ := Lib.hid hsz
  have HBase := Lib.hid hbase
  have HO := Lib.hid hO
  have HS := Lib.hid hS
  have HBW := Lib.hid hbw
  clear hn hsz hbase hO hS hbw
  obtain ⟨i0, hi, hz0, hz1, hz2⟩ := info_parts info5
  go_enter Try.func36, Try.ntmps36
  go_wp2
  go_loopw [6, 11] (fun _ i wr => ∃ k : Nat, k ≤ n ∧ i = .int .i64 k ∧ Hid (OutAt base B (bs ++ bytesOf (ss.take k)) wr ∧ Below base w wr ∧ Keeps B w wr)) (fun _ i _ => n - (intOf i).toNat)
  case atStart => exact ⟨0, by omega, rfl, Lib.hid ⟨by simpa [bytesOf] using HO.out, Below.refl _ _, Keeps.refl _ _⟩⟩
  case round =>
    obtain ⟨k, hk, rfl, hF⟩ := hrel
    by_cases hlt : k < n
    · obtain ⟨⟨v, hv, hrow⟩, hB, hKp⟩ := hF.out
      have hc := HS.out wr hB hKp k (by rw [HN.out]; exact hlt)
      obtain ⟨s, hs⟩ : ∃ s, ss.getD k ByteArray.empty = s := ⟨_, rfl⟩
      rw [hs] at hc
      have hnext := bytesOf_snoc ss k (by rw [HN.out]; exact hlt)
      rw [hs] at hnext
      obtain ⟨cur, hcur⟩ : ∃ cur, bs ++ bytesOf (ss.take k) = cur := ⟨_, rfl⟩
      have hlen2 : ((cur.length + s.size : Nat) : Int) ≤ 100000000 := by
        have h := HSZ.out (k + 1) (by omega)
        rw [hnext, ← List.append_assoc, hcur, List.length_append] at h
        exact h
      rw [hcur] at hrow
      have HNext : Hid (bs ++ bytesOf (ss.take (k + 1)) = cur ++ s.data.toList) := Lib.hid (by rw [hnext, ← List.append_assoc, hcur])
      obtain ⟨m, hm⟩ : ∃ m, cur.length = m := ⟨_, rfl⟩
      obtain ⟨X, hX⟩ : ∃ X, cur.map c5 = X := ⟨_, rfl⟩
      rw [hm] at hlen2 hrow
      rw [hX] at hrow
      have HM := Lib.hid hm
      have HX := Lib.hid hX
      have hbws := Nat.le_trans HBW.out hB.size
      have hcB := hv.cell
      have hneB : some B ≠ v.ownBlock := hv.not_row (by decide) hrow
      have HB := Lib.hid hB
      have HKp := Lib.hid hKp
      have HV := Lib.hid hv
      have HNe := Lib.hid hneB
      clear hF hB hKp hs hnext hcur hm hX hv hneB
      go_wp2_with (at_builtin; refine Lib.wpList_append_own_string wr rfl _ _ 81 9 rfl base 5 i0 Try.underlying81 Try.underlying9 hi hz0 hz1 hz2 v m X rfl hrow s rfl ?c1 ?c2 hbws ?_)
      case c1 => unfold maxLen; omega
      case c2 => omega
      intro v' w1 hown' hgrow _
      obtain ⟨a', c', rfl⟩ := slice_shape hown'
      have b1 : Boxed w1 B 83 v := HV.out.kept hgrow HNe.out
      have hc1 := b1.cell
      have hf1 := b1.frozen
      have HB1 := Lib.hid b1
      have HR := Lib.hid hown'
      have HBl : Hid (Below base w w1) := Lib.hid (HB.out.grown hgrow hbws (fun q hq => (hrow.lt q hq).1))
      have HKe : Hid (Keeps B w w1) := Lib.hid (HKp.out.grown hrow hgrow)
      clear hown' hgrow b1 hrow
      go_wp2
      go_roundw
      case rel =>
        refine ⟨k + 1, by omega, by go_num, Lib.hid ⟨?_, HBl.out.setCell (p := ⟨B, 0, none⟩) HBase.out _, HKe.out.trans (Keeps.setCell _ _ _ _)⟩⟩
        rw [HNext.out]
        refine ⟨_, HB1.out.set _, ?_⟩
        have h := HR.out.kept (grownBy_setCell' w1 B (.slice a' (m + s.size) c')) (.inr (HB1.out.not_row (by decide) HR.out).symm)
        rw [← HX.out, ← HM.out, strCells_c5, ← List.map_append] at h
        rw [← HM.out, List.length_append]
        exact h
      case measure => simp [intOf]; omega
    · obtain rfl : k = n := by omega
      obtain ⟨hOut, hB, hKp⟩ := hF.out
      have hfull : ss.take k = ss := by rw [← HN.out, List.take_length]
      rw [hfull] at hOut
      have HOut := Lib.hid hOut
      have HB := Lib.hid hB
      have HKp := Lib.hid hKp
      clear hOut hB hKp hF hfull
      go_wp2
      go_ret
      exact ⟨rfl, HOut.out, HB.out, HKp.out⟩

theorem num_any (base B bl off cap : Nat) (zs : List Int) (bs : List UInt8) (w : World) (hsz : (bs.length : Int) + 10 * zs.length ≤ 1000000) (hbase : base ≤ B)
    (hO : OutAt base B bs w) (hI : ∀ w', Below base w w' → Keeps B w w' → Ints w' bl off zs) (hbw : base ≤ w.heap.size) :
    Calls Try.prog 34 #[.pointer (some ⟨B, 0, none⟩), .slice (some ⟨bl, off, none⟩) zs.length cap] w (Wrote base B (bs ++ numsOf zs) w) :=
  (callsIn_wide (n := 4)).1 (outnum_in 4 (Nat.le_refl _) base B bl off zs.length cap zs bs w rfl hsz hbase hO hI hbw)

theorem cell_alloc_new (w : World) (cs : Array Value) (t : TypeId) (j : Nat) : (w.alloc (.cells cs t)).cell? ⟨w.heap.size, j, none⟩ = cs[j]? := World.cell?_alloc_new ..
/-- What lies in a new block of another type is kept. -/
theorem cell_keeps {B b o : Nat} {w w' : World} {cs : Array Value} {t : TypeId} {fr : Nat × Nat} (hk : Keeps B w w') (hb : w.heap[b]? = some (.cells cs t fr)) (ht : t ≠ 5) (hne : b ≠ B) : w'.cell? ⟨b, o, none⟩ = w.cell? ⟨b, o, none⟩ := by
  have h := hk.block b _ hb hne (fun cur fr' e => by cases e; exact ht rfl)
  exact World.cell?_of_block (a := ⟨b, o, none⟩) (h.trans hb.symm)
theorem block_new (w : World) (o : Obj) : (w.alloc o).heap[w.heap.size]? = some o := World.alloc_heap_new w o
theorem OutAt.lt {base B : Nat} {bs : List UInt8} {w : World} (h : OutAt base B bs w) : B < w.heap.size := by
  obtain ⟨v, h1, _⟩ := h
  exact h1.lt
theorem OutAt.alloc {base B : Nat} {bs : List UInt8} {w : World} (h : OutAt base B bs w) (o : Obj) : OutAt base B bs (w.alloc o) := by
  obtain ⟨v, h1, h2⟩ := h
  exact ⟨v, h1.alloc _, h2.alloc _⟩
/-- One number, in a new slice. -/
theorem num_one (base B : Nat) (z : Int) (bs : List UInt8) (w : World) (hsz : (bs.length : Int) ≤ 999990) (hbase : base ≤ B) (hO : OutAt base B bs w) (hbw : base ≤ w.heap.size) :
    Calls Try.prog 34 #[.pointer (some ⟨B, 0, none⟩), .slice (some ⟨w.heap.size, 0, none⟩) 1 1] (w.alloc (.cells #[.int .i64 z] 3)) (Wrote base B (bs ++ digs (clipN z)) (w.alloc (.cells #[.int .i64 z] 3))) := by
  have h := num_any base B w.heap.size 0 1 [z] bs (w.alloc (.cells #[.int .i64 z] 3)) (by simp; omega) hbase (hO.alloc _) (fun w' _ hk i hi => by
    obtain rfl : i = 0 := by simpa using hi
    rw [cell_keeps hk (block_new w _) (by decide) (by have := hO.lt; omega), cell_alloc_new]; rfl) (by simp; omega)
  simpa [numsOf] using h
theorem raw_one (base B : Nat) (s : ByteArray) (bs : List UInt8) (w : World) (hsz : ((bs.length + s.size : Nat) : Int) ≤ 100000000) (hbase : base ≤ B) (hO : OutAt base B bs w) (hbw : base ≤ w.heap.size) :
    Calls Try.prog 36 #[.pointer (some ⟨B, 0, none⟩), .slice (some ⟨w.heap.size, 0, none⟩) 1 1] (w.alloc (.cells #[.string s] 9)) (Wrote base B (bs ++ s.data.toList) (w.alloc (.cells #[.string s] 9))) := by
  have hsl : s.data.toList.length = s.size := rfl
  have h := raw_any base B w.heap.size 0 1 [s] bs (w.alloc (.cells #[.string s] 9)) (by simp) (fun k hk => by
    match k, hk with
    | 0, _ => simp [bytesOf]; omega
    | 1, _ => simp [bytesOf]; omega
    | k + 2, hk => simp at hk) hbase (hO.alloc _) (fun w' _ hk i hi => by
    obtain rfl : i = 0 := by simpa using hi
    rw [cell_keeps hk (block_new w _) (by decide) (by have := hO.lt; omega), cell_alloc_new]; rfl) (by simp; omega)
  simpa [bytesOf] using h

theorem bytes_any (base B : Nat) (bs : List UInt8) (w : World) (hO : OutAt base B bs w) :
    Calls Try.prog 39 #[.pointer (some ⟨B, 0, none⟩)] w fun e w' => e = .returned (.string ⟨bs.toArray⟩) ∧ w = w' := by
  obtain ⟨v, hv, hr⟩ := hO
  have hcB := hv.cell
  have hcells := @World.ownsRow.cells _ _ _ _ _ _ _ hr
  rcases hr.2 with ⟨rfl, h0⟩ | ⟨g, cap, cur, rfl, _⟩
  · have hconv := Lib.run_convert_nil_bytes (P := Try.prog) w 81 9 5 0 Try.underlying81 Try.underlying5 Try.underlying9
    have hb0 : bs = [] := List.length_eq_zero_iff.1 h0
    subst hb0
    clear hr hcells hv h0
    go_enter Try.func39, Try.ntmps39
    go_wp2
    go_ret
    exact ⟨rfl, rfl⟩
  · have hconv := run_convert_bytes_back (P := Try.prog) w 81 9 5 ⟨g, 0, none⟩ cap bs Try.underlying81 Try.underlying5 Try.underlying9 (fun j hj => hcells (g := g) rfl j _ (by simp [c5, hj]))
    obtain ⟨u, hu⟩ : ∃ u : ByteArray, (⟨bs.toArray⟩ : ByteArray) = u := ⟨_, rfl⟩
    rw [hu] at hconv ⊢
    obtain ⟨m, hm⟩ : ∃ m, bs.length = m := ⟨_, rfl⟩
    rw [hm] at hconv hcB
    clear hr hcells hv hu hm
    go_enter Try.func39, Try.ntmps39
    go_wp2
    go_ret
    exact ⟨rfl, rfl⟩

/-- A text's bytes. -/
def textB (s : ByteArray) : List UInt8 := digs (clipN s.size) ++ s.data.toList
def textsOf (ss : List ByteArray) : List UInt8 := ss.flatMap textB
theorem textsOf_snoc (ss : List ByteArray) (k : Nat) (h : k < ss.length) : textsOf (ss.take (k + 1)) = textsOf (ss.take k) ++ textB (ss.getD k ByteArray.empty) := by
  unfold textsOf
  rw [List.take_succ_eq_append_getElem h, List.flatMap_append]
  simp [h]
set_option maxRecDepth 100000 in
set_option maxHeartbeats 1000000 in
theorem text_any (base B bl off cap : Nat) (ss : List ByteArray) (bs : List UInt8) (w : World) (hlen : (ss.length : Int) ≤ 10000) (hsz : ∀ k, k ≤ ss.length → ((bs ++ textsOf (ss.take k)).length : Int) ≤ 900000) (hbase : base ≤ B)
    (hO : OutAt base B bs w) (hS : ∀ w', Below base w w' → Keeps B w w' → Strs w' bl off ss) (hbw : base ≤ w.heap.size) :
    Calls Try.prog 35 #[.pointer (some ⟨B, 0, none⟩), .slice (some ⟨bl, off, none⟩) ss.length cap] w (Wrote base B (bs ++ textsOf ss) w) := by
  obtain ⟨n, hn⟩ : ∃ n, ss.length = n := ⟨_, rfl⟩
  rw [hn] at hlen hsz ⊢
  have HN := Lib.hid hn
  have HSZ := Lib.hid hsz
  have HBase := Lib.hid hbase
  have HO := Lib.hid hO
  have HS := Lib.hid hS
  have HBW := Lib.hid hbw
  clear hn hsz hbase hO hS hbw
  go_enter Try.func35, Try.ntmps35
  go_wp2
  go_loopw [6, 9] (fun _ i wr => ∃ k : Nat, k ≤ n ∧ i = .int .i64 k ∧ Hid (OutAt base B (bs ++ textsOf (ss.take k)) wr ∧ Below base w wr ∧ Keeps B w wr)) (fun _ i _ => n - (intOf i).toNat)
  case atStart => exact ⟨0, by omega, rfl, Lib.hid ⟨by simpa [textsOf] using HO.out, Below.refl _ _, Keeps.refl _ _⟩⟩
  case round =>
    obtain ⟨k, hk, rfl, hF⟩ := hrel
    by_cases hlt : k < n
    · obtain ⟨hOut, hB, hKp⟩ := hF.out
      have hc := HS.out wr hB hKp k (by rw [HN.out]; exact hlt)
      obtain ⟨s, hs⟩ : ∃ s, ss.getD k ByteArray.empty = s := ⟨_, rfl⟩
      rw [hs] at hc
      have hnext := textsOf_snoc ss k (by rw [HN.out]; exact hlt)
      rw [hs] at hnext
      obtain ⟨cur, hcur⟩ : ∃ cur, bs ++ textsOf (ss.take k) = cur := ⟨_, rfl⟩
      rw [hcur] at hOut
      have hlen2 := HSZ.out (k + 1) (by omega)
      rw [hnext, ← List.append_assoc, hcur] at hlen2
      unfold textB at hlen2
      simp only [List.length_append] at hlen2
      have hsl : s.data.toList.length = s.size := rfl
      have hbws := Nat.le_trans HBW.out hB.size
      have HNext : Hid (bs ++ textsOf (ss.take (k + 1)) = cur ++ textB s) := Lib.hid (by rw [hnext, ← List.append_assoc, hcur])
      have HC1 := Lib.hid (num_one base B s.size cur wr (by omega) HBase.out hOut hbws)
      have HLen := Lib.hid hlen2
      have HBl := Lib.hid hB
      have HKe := Lib.hid hKp
      have HOut := Lib.hid hOut
      have HBws := Lib.hid hbws
      have hszs : (s.size : Int) ≤ 900000 := by omega
      clear hF hB hKp hs hnext hcur hOut hlen2 hsl hbws
      go_wp2_with fail
      refine HC1.out.mono ?_
      rintro e w1 ⟨rfl, hO1, hB1, hK1⟩
      have hbw1 : base ≤ w1.heap.size := Nat.le_trans (by have := HBws.out; simp; omega) hB1.size
      have HC2 := Lib.hid (raw_one base B s (cur ++ digs (clipN s.size)) w1 (by have h := HLen.out; have hsl : s.data.toList.length = s.size := rfl; simp; omega) HBase.out hO1 hbw1)
      have HB1 : Hid (Below base w w1) := Lib.hid ((HBl.out.alloc HBws.out _).trans hB1)
      have HK1 : Hid (Keeps B w w1) := Lib.hid ((HKe.out.trans (Keeps.alloc _ _ _)).trans hK1)
      have HW1 := Lib.hid hbw1
      clear hO1 hB1 hK1 hbw1
      go_wp2_with fail
      refine HC2.out.mono ?_
      rintro e w2 ⟨rfl, hO2, hB2, hK2⟩
      have HF2 : Hid (OutAt base B (bs ++ textsOf (ss.take (k + 1))) w2 ∧ Below base w w2 ∧ Keeps B w w2) := Lib.hid ⟨by rw [HNext.out]; unfold textB; rw [← List.append_assoc]; exact hO2, (HB1.out.alloc HW1.out _).trans hB2, (HK1.out.trans (Keeps.alloc _ _ _)).trans hK2⟩
      clear hO2 hB2 hK2
      go_wp2
      go_roundw
      case rel => exact ⟨k + 1, by omega, by go_num, HF2⟩
      case measure => simp [intOf]; omega
    · obtain rfl : k = n := by omega
      obtain ⟨hOut, hB, hKp⟩ := hF.out
      have hfull : ss.take k = ss := by rw [← HN.out, List.take_length]
      rw [hfull] at hOut
      have HOut := Lib.hid hOut
      have HB := Lib.hid hB
      have HKp := Lib.hid hKp
      clear hOut hB hKp hF hfull
      go_wp2
      go_ret
      exact ⟨rfl, HOut.out, HB.out, HKp.out⟩
end Go.Proofs.Ytjlljkdlgkociaa.I
