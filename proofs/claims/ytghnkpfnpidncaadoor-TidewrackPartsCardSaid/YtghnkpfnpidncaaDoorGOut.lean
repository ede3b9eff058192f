/- Out.Num of a nil list; and of whatever list, as a datagram holds it. -/
import Derived.Test.YtghnkpfnpidncaaDoorGSize
import Derived.Test.YtghnkpfnpidncaaDoorIOut
namespace Go.Proofs.YtghnkpfnpidncaaDoor.G
open Go.RowKit Go.Shelf Go.Proofs.YtghnkpfnpidncaaDoor.I
attribute [local go_sem] Oper.semAt_some

/-- The slice holds these numbers; nil, or cells of a block. -/
def NumsAt (a : Option Addr) (len : Nat) (zs : List Int) (w : World) : Prop := len = zs.length ∧ ((a = none ∧ zs = []) ∨ ∃ b off, a = some ⟨b, off, none⟩ ∧ b < w.heap.size ∧ Ints w b off zs)
theorem NumsAt.numsIn {a : Option Addr} {len : Nat} {zs : List Int} {w : World} (h : NumsAt a len zs w) : NumsIn a len zs w := ⟨h.1, h.2.imp (·.2) id⟩

set_option maxRecDepth 100000 in
set_option maxHeartbeats 1000000 in
theorem num_none_in (n : Nat) (base B cap : Nat) (bs : List UInt8) (w : World) (hO : OutAt base B bs w) (hbw : base ≤ w.heap.size) :
    CallsIn Fence.wide n Tryd.prog 27 #[.pointer (some ⟨B, 0, none⟩), .slice none 0 cap] w (Wrote base B bs w) := by
  have HO := Lib.hid (hO.alloc (.cells #[.pointer (some ⟨B, 0, none⟩)] 64))
  have HBW := Lib.hid hbw
  clear hO hbw
  obtain ⟨w1, hw1⟩ : ∃ w1, w.alloc (.cells #[.pointer (some ⟨B, 0, none⟩)] 64) = w1 := ⟨_, rfl⟩
  have hc : w1.cell? ⟨w.heap.size, 0, none⟩ = some (.pointer (some ⟨B, 0, none⟩)) := by rw [← hw1]; simp
  have HW : Hid (Wrote base B bs w (.returned (.pointer (some ⟨B, 0, none⟩))) w1) := Lib.hid ⟨rfl, by rw [← hw1]; exact HO.out, by rw [← hw1]; exact (Below.refl _ _).alloc HBW.out _, by rw [← hw1]; exact Keeps.alloc _ _ _⟩
  refine callsIn_of_wp_marks Tryd.func27 rfl trivial ?_ rfl
  simp only [Tryd.ntmps27, List.size_toArray, List.length_cons, List.length_nil, Nat.reduceAdd, Nat.reduceSub, Array.replicate_succ, Array.replicate_zero, List.push_toArray, List.append_toArray, List.nil_append, List.cons_append]
  gi_wp2
  gi_loopw [12] (fun i wr => i = .int .i64 0 ∧ wr = w1) (fun _ _ => 0)
  case atStart => exact ⟨rfl, rfl⟩
  case round =>
    obtain ⟨rfl, rfl⟩ := hrel
    clear hw1
    gi_wp2
    obtain ⟨_, h2, h3, h4⟩ := HW.out
    exact ⟨_, results_tmp rfl _ _ _, rfl, h2, h3, h4⟩
theorem num_none (base B cap : Nat) (bs : List UInt8) (w : World) (hO : OutAt base B bs w) (hbw : base ≤ w.heap.size) :
    Calls Tryd.prog 27 #[.pointer (some ⟨B, 0, none⟩), .slice none 0 cap] w (Wrote base B bs w) :=
  (callsIn_wide (n := 4)).1 (num_none_in 4 base B cap bs w hO hbw)
theorem num_list (base B : Nat) (a : Option Addr) (len cap : Nat) (zs : List Int) (bs : List UInt8) (V w : World) (h : NumsAt a len zs V) (hsz : (bs.length : Int) + 10 * zs.length ≤ 1000000) (hbase : base ≤ B)
    (hin : ∀ b off, a = some ⟨b, off, none⟩ → b < base) (hB : Below base V w) (hO : OutAt base B bs w) (hbw : base ≤ w.heap.size) :
    Calls Tryd.prog 27 #[.pointer (some ⟨B, 0, none⟩), .slice a len cap] w (Wrote base B (bs ++ numsOf zs) w) := by
  obtain ⟨rfl, ⟨rfl, rfl⟩ | ⟨b, off, rfl, hb, hI⟩⟩ := h
  · simpa [numsOf] using num_none base B cap bs w hO hbw
  · exact num_any base B b off cap zs bs w hsz hbase hO (fun w' hw' _ i hi => ((hB.trans hw').cell (p := ⟨b, off + i, none⟩) (hin b off rfl)).trans (hI i hi)) hbw
/-- The numbers ahead of the list, in a new block. -/
theorem num_head (base B X : Nat) (e k n : Int) (bs : List UInt8) (w : World) (hsz : (bs.length : Int) ≤ 900000) (hbase : base ≤ B) (hX : X ≠ B) (hXc : w.heap[X]? = some (.cells #[.int .i64 e, .int .i64 k, .int .i64 n] 3 (0, 0))) (hO : OutAt base B bs w) (hbw : base ≤ w.heap.size) :
    Calls Tryd.prog 27 #[.pointer (some ⟨B, 0, none⟩), .slice (some ⟨X, 0, none⟩) 3 3] w (Wrote base B (bs ++ numsOf [e, k, n]) w) :=
  num_any base B X 0 3 [e, k, n] bs w (by simp; omega) hbase hO (fun w' _ hk i hi => by
    rw [cell_keeps hk hXc (by decide) hX, Lib.cell_of_heap hXc]
    match i, hi with
    | 0, _ => rfl
    | 1, _ => rfl
    | 2, _ => rfl
    | i + 3, hi => simp at hi; omega) hbw
theorem text_new (base B X : Nat) (d : ByteArray) (bs : List UInt8) (w : World) (hsz : (bs.length : Int) + d.size ≤ 800000) (hbase : base ≤ B) (hX : X ≠ B) (hXc : w.heap[X]? = some (.cells #[.string d] 9 (0, 0))) (hO : OutAt base B bs w) (hbw : base ≤ w.heap.size) :
    Calls Tryd.prog 28 #[.pointer (some ⟨B, 0, none⟩), .slice (some ⟨X, 0, none⟩) 1 1] w (Wrote base B (bs ++ textB d) w) := by
  have h := text_any base B X 0 1 [d] bs w (by simp) (fun k hk => by
    have hb := textB_len d
    match k, hk with
    | 0, _ => simp [textsOf]; omega
    | 1, _ => simp [textsOf]; omega
    | k + 2, hk => simp at hk) hbase hO (fun w' _ hk i hi => by
    obtain rfl : i = 0 := by simpa using hi
    rw [cell_keeps hk hXc (by decide) hX, Lib.cell_of_heap hXc]; rfl) hbw
  simpa [textsOf] using h
end Go.Proofs.YtghnkpfnpidncaaDoor.G
