/- The contract of wide.Sum: of any runes, all their columns together. -/
import Derived.Test.YtjlhinofglokoaaDoorWCols
namespace Go.Proofs.YtjlhinofglokoaaDoor.W
open Go.RowKit Go.Shelf

attribute [local go_sem] Oper.semAt_some

theorem columns_in (n : Nat) (a : Option Addr) (len cap : Nat) (w : World) :
    CallsIn Fence.wide n Tryd.prog 50 #[.slice a len cap] w fun e w' => e = .returned (.func (.func 64) #[] #[.pointer (some ⟨w.heap.size, 0, none⟩)]) ∧ w' = w.alloc (.cells #[.slice a len cap] 69) := by
  refine callsIn_of_wp Tryd.func50 rfl trivial ?_ rfl
  simp only [Tryd.ntmps50, List.size_toArray, List.length_cons, List.length_nil, Nat.reduceAdd, Nat.reduceSub, Array.replicate_succ, Array.replicate_zero, List.push_toArray, List.append_toArray, List.nil_append, List.cons_append]
  gi_wp2
  go_ret
  exact ⟨rfl, rfl⟩
/-- What a slice of runes in a world with the spans is. -/
structure Rn (a : Option Addr) (len : Nat) (zs : List Int) (w : World) : Prop where
  rs : RunesIn a len zs w
  tb : Tab w
  lt : ∀ b ∈ blkOf a zs, b < w.heap.size
  few : (zs.length : Int) ≤ 1000000
theorem Rn.belowAll {a : Option Addr} {len : Nat} {zs : List Int} {w w' : World} (h : Rn a len zs w) (hb : Below w.heap.size w w') : Rn a len zs w' := ⟨h.rs.belowAll hb, h.tb.belowAll hb, fun b hm => Nat.lt_of_lt_of_le (h.lt b hm) hb.size, h.few⟩
theorem looks_new {a : Option Addr} {len cap : Nat} {zs : List Int} {w : World} (h : Rn a len zs w) : Looks w.heap.size a len cap zs (w.alloc (.cells #[.slice a len cap] 69)) := by
  have hb : Below w.heap.size w (w.alloc (.cells #[.slice a len cap] 69)) := (Below.refl _ _).alloc (Nat.le_refl _) _
  have h' := h.belowAll hb
  exact ⟨Boxed.new w 69 _, h'.rs, h'.tb, h'.lt⟩
theorem cols_stops (n : Nat) (hn : 2 ≤ n) (B : Nat) (a : Option Addr) (len cap : Nat) (zs : List Int) (hlen : (zs.length : Int) ≤ 1000000) (w : World) (hL : Looks B a len cap zs w) :
    SeqStopsK Fence.wide n Tryd.prog 64 #[.pointer (some ⟨B, 0, none⟩)] (fun x : Int => #[Value.int .i64 (ofS x : Int)]) (KeepL (lookL B a zs)) (fun ys => ys = zs) (fun pre => ∃ j, j ≤ zs.length ∧ pre = zs.take j) zs.length w := fun l J Jx W hW hJ _ hY h0 =>
  cols1_in n hn l B a len cap zs hlen J Jx W hJ hY (hL.keep (KeepL.of_below hW hL.all)) h0
set_option maxRecDepth 100000 in
set_option maxHeartbeats 2000000 in
theorem sum_in (n : Nat) (hn : 4 ≤ n) (a : Option Addr) (len cap : Nat) (zs : List Int) (w : World) (h : Rn a len zs w) :
    CallsIn Fence.wide n Tryd.prog 32 #[.slice a len cap] w fun e W' => e = .returned (.int .i64 (sumS zs : Int)) ∧ Below w.heap.size w W' := by
  have h1 : 1 ≤ n := by omega
  have hpos := h.tb.pos
  have hfew := h.few
  have hlt := h.lt
  refine callsIn_of_wp_marks Tryd.func32 rfl trivial ?_ rfl
  simp only [Tryd.ntmps32, List.size_toArray, List.length_cons, List.length_nil, Nat.reduceAdd, Nat.reduceSub, Array.replicate_succ, Array.replicate_zero, List.push_toArray, List.append_toArray, List.nil_append, List.cons_append]
  have HR := Lib.hid h
  have HLt := Lib.hid hlt
  clear h hlt
  gi_wp2_with fail
  refine ⟨by first | trivial | omega, ?_⟩
  refine (columns_in (n - 1) a len cap _).mono ?_
  rintro e w' ⟨rfl, rfl⟩
  obtain ⟨wA, hwA⟩ : ∃ wA, wA = w.alloc (.cells #[.int .i64 0] 3) := ⟨_, rfl⟩
  have hsA : wA.heap.size = w.heap.size + 1 := by rw [hwA]; simp
  have bA : Below w.heap.size w wA := by rw [hwA]; exact (Below.refl _ _).alloc (Nat.le_refl _) _
  have bN : Boxed wA w.heap.size 3 (.int .i64 0) := by rw [hwA]; exact Boxed.new w 3 _
  have hL := looks_new (cap := cap) (HR.out.belowAll bA)
  rw [← hwA]
  obtain ⟨W0, hW0⟩ : ∃ W0, W0 = wA.alloc (.cells #[.slice a len cap] 69) := ⟨_, rfl⟩
  rw [← hW0, hsA] at hL
  rw [← hW0, hsA]
  have hs0 : W0.heap.size = w.heap.size + 2 := by rw [hW0]; simp; omega
  have b0 : Below w.heap.size w W0 := by rw [hW0]; exact bA.alloc (by omega) _
  have bN0 : Boxed W0 w.heap.size 3 (.int .i64 0) := by rw [hW0]; exact bN.alloc _
  have hnl : w.heap.size ∉ lookL (w.heap.size + 1) a zs := by
    intro hm
    rcases List.mem_cons.1 hm with e | hm
    · omega
    rcases List.mem_cons.1 hm with e | hm
    · omega
    · have := HLt.out _ hm; omega
  clear hwA bA bN hsA hW0
  gi_wp2_with fail
  refine wpIn_rangeFunc_ownF rfl h1 (gf := 64) (lb := #[.pointer (some ⟨w.heap.size + 1, 0, none⟩)]) rfl trivial (enters_of Tryd.func64 (by kernel_rfl) rfl)
    (cols_stops (n - 1) (by omega) (w.heap.size + 1) a len cap zs hfew W0 hL) (fun h1 h2 => keepL_t h1 h2) (keepL_b hL.all) (Below.refl _ _) (fun _ => rfl)
    (fun pre W => Boxed W w.heap.size 3 (.int .i64 (sumS pre : Int)) ∧ Below w.heap.size w W)
    (fun _ _ _ => False)
    (OwnFrom.and (Own.from (boxed_own w.heap.size 3 (fun pre : List Int => Value.int .i64 (sumS pre : Int))) _) (ownFrom_below (Nat.le_refl _) (by omega)))
    (fun _ _ _ _ _ hs _ _ => hs)
    ⟨by simpa [sumS] using bN0, b0⟩
    (fun x => { tmps := #[.slice a len cap, undef, .int .i64 0, .pointer (some ⟨w.heap.size, 0, none⟩), .int .i64 (ofS x : Int), .slice a len cap, .func (.func 64) #[] #[.pointer (some ⟨w.heap.size + 1, 0, none⟩)], .int .i64 (ofS x : Int), undef, undef, undef, undef], defers := [] }) ?assign ?body ?done ?stop
  case assign =>
    intro l x W K hK
    gi_wp2
    simpa using hK
  case body =>
    rintro l pre x W ⟨hv, hB⟩ hltp
    have hc := hv.cell
    have hf := hv.frozen
    have hle := sumS_le pre
    have hof := ofS_le x
    obtain ⟨A, hA⟩ : ∃ A, sumS pre = A := ⟨_, rfl⟩
    obtain ⟨C, hC⟩ : ∃ C, ofS x = C := ⟨_, rfl⟩
    have hsn : sumS (pre ++ [x]) = A + C := by rw [sumS_append, sumS_cons, hA, hC]; rfl
    rw [hA] at hc hle
    rw [hC] at hof ⊢
    have HSn := Lib.hid hsn
    have HV := Lib.hid hv
    have HB := Lib.hid hB
    have hA' : (A : Int) ≤ 2000000 := by omega
    have hC' : (C : Int) ≤ 2 := by omega
    clear hsn hv hB hle hof hA hC
    gi_wp2
    have hadd : (A : Int) + C = ((sumS (pre ++ [x]) : Nat) : Int) := by rw [HSn.out]; omega
    rw [hadd]
    exact ⟨KeepsOthers.setCell _ _ _, KeepL.setCell _ hnl _ _, HV.out.set _, HB.out.setCell (p := ⟨w.heap.size, 0, none⟩) (by simp) _⟩
  case done =>
    rintro D ys W hD hS ⟨hv, hB⟩ hK
    have hc := hv.cell
    have HB := Lib.hid hB
    have HK := Lib.hid hK
    have HD := Lib.hid hD
    subst hS
    clear hv hB hK hD
    gi_wp2
    refine ⟨by simp, .inl ⟨_, _, rfl, run_takeDeferred HK.out, ?_⟩⟩
    exact ⟨_, results_tmp rfl _ _ _, rfl, HB.out.trans (belowK_b (w := W0) (by omega) W D _ _ HD.out HK.out rfl rfl)⟩
  case stop =>
    rintro D c pre W _ _ h _
    exact h.elim
theorem sum_any (a : Option Addr) (len cap : Nat) (zs : List Int) (w : World) (h : Rn a len zs w) :
    Calls Tryd.prog 32 #[.slice a len cap] w fun e W' => e = .returned (.int .i64 (sumS zs : Int)) ∧ Below w.heap.size w W' :=
  (callsIn_wide (n := 4)).1 (sum_in 4 (Nat.le_refl _) a len cap zs w h)
end Go.Proofs.YtjlhinofglokoaaDoor.W
