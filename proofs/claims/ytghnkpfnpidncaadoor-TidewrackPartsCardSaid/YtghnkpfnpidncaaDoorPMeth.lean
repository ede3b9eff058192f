/- The contracts of Slot's Have, Lacks, Key, Count, Forget, Bytes. -/
import Derived.Test.YtghnkpfnpidncaaDoorPPlaces
import Derived.RegionTactic
import Derived.BigQuiet
import Derived.IntWalk
import Derived.Lib.QuietBelowIn
namespace Go.Proofs.YtghnkpfnpidncaaDoor.P
open Go.RowKit Go.Shelf

attribute [local go_sem] Oper.semAt_some

theorem lacks_in (n : Nat) (hn : 5 ≤ n) (p : Nat) (mo : Option Nat) (k : Int) (L : PL) (w : World) (h : SlotAt p mo k L w) :
    CallsIn Fence.wide n Tryd.prog 25 #[.pointer (some ⟨p, 0, none⟩)] w (WhichPost L false w) := by
  have h1 : 1 ≤ n := by omega
  have H := Lib.hid (collect_places (n - 1) (by omega) p mo k L false w h)
  clear h
  refine callsIn_of_wp Tryd.func25 rfl trivial ?_ rfl
  simp only [Tryd.ntmps25, List.size_toArray, List.length_cons, List.length_nil, Nat.reduceAdd, Nat.reduceSub, Array.replicate_succ, Array.replicate_zero, List.push_toArray, List.append_toArray, List.nil_append, List.cons_append]
  gi_wp2_with (first | (refine ⟨by first | trivial | omega, ?_⟩; gi_at_call 47; refine (places_in (n - 1) p false _).mono ?_; rintro e w' ⟨rfl, rfl⟩) | (refine ⟨by first | trivial | omega, ?_⟩; gi_at_call 50; refine H.out.mono ?_; rintro e w' ⟨v, rfl, hrow, hb⟩))
  go_ret
  exact ⟨v, rfl, hrow, hb⟩
theorem lacks_any (p : Nat) (mo : Option Nat) (k : Int) (L : PL) (w : World) (h : SlotAt p mo k L w) : Calls Tryd.prog 25 #[.pointer (some ⟨p, 0, none⟩)] w (WhichPost L false w) :=
  (callsIn_wide (n := 5)).1 (lacks_in 5 (Nat.le_refl _) p mo k L w h)
/-- how many bytes are there -/
def partLen (L : PL) (i : Nat) : Nat := ((L.getD i none).getD []).length
def bytesS (L : PL) : Nat := ((whichS L true).map (partLen L)).sum
def sumAt (L : PL) (pre : List (Ix L true)) : Nat := ((pre.map (·.1)).map (partLen L)).sum
/-- no part is greater than any that may be -/
def Fits (L : PL) : Prop := ∀ i, partLen L i ≤ 1000000000
theorem sumAt_le {L : PL} (h : Fits L) : ∀ pre : List (Ix L true), sumAt L pre ≤ 1000000000 * pre.length
  | [] => by simp [sumAt]
  | x :: pre => by
    have h1 := sumAt_le h pre
    have h2 := h x.1
    have e : sumAt L (x :: pre) = partLen L x.1 + sumAt L pre := by simp [sumAt]
    rw [e, List.length_cons]
    omega
theorem sumAt_snoc (L : PL) (pre : List (Ix L true)) (x : Ix L true) : sumAt L (pre ++ [x]) = sumAt L pre + partLen L x.1 := by simp [sumAt]

theorem ownFrom_slot {β : Type} {B p : Nat} {mo : Option Nat} {k : Int} {L : PL} (h1 : p < B) (h2 : ∀ b, mo = some b → b < B) : OwnFrom B (fun (_ : β) W => SlotAt p mo k L W) := fun _ X Y row hs hg hr =>
  hs.kept (hg.block p hs.lt (fun e => by have := (hr p e.symm).1; omega)) (fun b e => hg.block b (hs.mlt b e) (fun e' => by have := (hr b e'.symm).1; have := h2 b e; omega))
theorem KeepL.setCell {l : List Nat} (W : World) {B : Nat} (h : B ∉ l) (j : Nat) (v : Value) : KeepL l W (W.setCell ⟨B, j, none⟩ v) :=
  ⟨(KeepsWalks.setCell W _ v).size, fun b hb _ => Below.heap_setCell W ⟨B, j, none⟩ v b (fun e => h (by simp at e; rw [← e]; exact hb))⟩
theorem run_field56 (w : World) (s : ByteArray) : (Instr.field 88 (.agg #[.string s]) 0).run Tryd.prog w = .ok (.string s) w := by kernel_rfl
theorem KeepL.drew {l : List Nat} {A B : World} (h : KeepL l A B) : KeepL l A B.drew := h

set_option maxRecDepth 100000 in
set_option maxHeartbeats 2000000 in
theorem bytes_in (n : Nat) (hn : 3 ≤ n) (p : Nat) (mo : Option Nat) (k : Int) (L : PL) (w : World) (h : SlotAt p mo k L w) (hfit : Fits L) :
    CallsIn Fence.wide n Tryd.prog 46 #[.pointer (some ⟨p, 0, none⟩)] w fun e W' => e = .returned (.int .i64 (bytesS L : Int)) ∧ Below w.heap.size w W' := by
  have h1 : 1 ≤ n := by omega
  have hlt := h.lt
  have hmlt := h.mlt
  have hlen := h.len_le
  refine callsIn_of_wp_marks Tryd.func46 rfl trivial ?_ rfl
  simp only [Tryd.ntmps46, List.size_toArray, List.length_cons, List.length_nil, Nat.reduceAdd, Nat.reduceSub, Array.replicate_succ, Array.replicate_zero, List.push_toArray, List.append_toArray, List.nil_append, List.cons_append]
  have HS := Lib.hid h
  have HM := Lib.hid hmlt
  have HFit := Lib.hid hfit
  clear h hmlt hfit
  gi_wp2_with (refine ⟨by first | trivial | omega, ?_⟩; gi_at_call 47; refine (places_in (n - 1) p true _).mono ?_; rintro e w' ⟨rfl, rfl⟩)
  obtain ⟨wA, hwA⟩ : ∃ wA, wA = (w.alloc (.cells #[.pointer (some ⟨p, 0, none⟩)] 86)).alloc (.cells #[.int .i64 0] 3) := ⟨_, rfl⟩
  have hsA : wA.heap.size = w.heap.size + 2 := by rw [hwA]; simp
  have bA : Below w.heap.size w wA := by rw [hwA]; exact ((Below.refl _ _).alloc (Nat.le_refl _) _).alloc (by simp) _
  have bS : Boxed wA w.heap.size 86 (.pointer (some ⟨p, 0, none⟩)) := by rw [hwA]; exact (Boxed.new w 86 _).alloc _
  have bN : Boxed wA (w.heap.size + 1) 3 (.int .i64 0) := by
    rw [hwA]
    have h := Boxed.new (w.alloc (.cells #[.pointer (some ⟨p, 0, none⟩)] 86)) 3 (.int .i64 0)
    rwa [World.size_alloc] at h
  have sA := HS.out.belowAll bA
  have hL := looks_new sA true
  rw [hsA] at hL
  rw [← hwA]
  obtain ⟨W0, hW0⟩ : ∃ W0, W0 = (wA.alloc (.cells #[.pointer (some ⟨p, 0, none⟩)] 86)).alloc (.cells #[.bool true] 4) := ⟨_, rfl⟩
  rw [← hW0] at hL ⊢
  have hs0 : W0.heap.size = w.heap.size + 4 := by rw [hW0]; simp; omega
  have b0 : Below w.heap.size w W0 := by rw [hW0]; exact ((bA.alloc (by omega) _).alloc (by simp; omega) _)
  have bS0 : Boxed W0 w.heap.size 86 (.pointer (some ⟨p, 0, none⟩)) := by rw [hW0]; exact (bS.alloc _).alloc _
  have bN0 : Boxed W0 (w.heap.size + 1) 3 (.int .i64 0) := by rw [hW0]; exact (bN.alloc _).alloc _
  have s0 : SlotAt p mo k L W0 := hL.slot
  have hnl : w.heap.size + 1 ∉ lookL (w.heap.size + 1 + 1) (w.heap.size + 1 + 1 + 1) p mo := by
    intro hm
    rcases List.mem_cons.1 hm with e | hm
    · omega
    rcases List.mem_cons.1 hm with e | hm
    · omega
    rcases List.mem_cons.1 hm with e | hm
    · omega
    · have := HM.out _ (by simpa using hm); omega
  clear hwA bA bS bN sA hW0
  refine wpIn_rangeFunc_ownF rfl h1 (gf := 66) (lb := #[.pointer (some ⟨w.heap.size + 1 + 1, 0, none⟩), .pointer (some ⟨w.heap.size + 1 + 1 + 1, 0, none⟩)]) rfl trivial (enters_of Tryd.func66 (by kernel_rfl) rfl)
    (places_stops (n - 1) (by omega) (w.heap.size + 1 + 1) (w.heap.size + 1 + 1 + 1) p mo k L true W0 hL) (fun h1 h2 => keepL_t h1 h2) (keepL_b hL.lt) (Below.refl _ _) (fun _ => rfl)
    (fun pre W => Boxed W (w.heap.size + 1) 3 (.int .i64 (sumAt L pre : Int)) ∧ (Boxed W w.heap.size 86 (.pointer (some ⟨p, 0, none⟩)) ∧ (SlotAt p mo k L W ∧ Below w.heap.size w W)))
    (fun _ _ _ => False)
    (OwnFrom.and (Own.from (boxed_own (w.heap.size + 1) 3 (fun pre : List (Ix L true) => Value.int .i64 (sumAt L pre : Int))) _) (OwnFrom.and (Own.from (boxed_own w.heap.size 86 (fun _ : List (Ix L true) => Value.pointer (some ⟨p, 0, none⟩))) _) (OwnFrom.and (ownFrom_slot (by omega) (fun b e => by have := HM.out b e; omega)) (ownFrom_below (Nat.le_refl _) (by omega)))))
    (fun _ _ _ _ _ hs _ _ => hs)
    ⟨by simpa [sumAt] using bN0, bS0, s0, b0⟩
    (fun x => { tmps := #[.pointer (some ⟨p, 0, none⟩), .pointer (some ⟨w.heap.size, 0, none⟩), .int .i64 0, .pointer (some ⟨w.heap.size + 1, 0, none⟩), .int .i64 (x.1 : Int), .pointer (some ⟨p, 0, none⟩), .func (.func 66) #[] #[.pointer (some ⟨w.heap.size + 1 + 1, 0, none⟩), .pointer (some ⟨w.heap.size + 1 + 1 + 1, 0, none⟩)], .int .i64 (x.1 : Int), undef, undef, undef, undef, undef, undef, undef, undef, undef, undef, undef], defers := [] }) ?assign ?body ?done ?stop
  case assign =>
    intro l x W K hK
    gi_wp2
    simpa using hK
  case body =>
    rintro l pre x W ⟨hv, hs, hsl, hB⟩ hltp
    have hc := hv.cell
    have hf := hv.frozen
    have hc2 := hs.cell
    have hc3 := hsl.cells.2.2
    have hx := x.2.1
    obtain ⟨b, rfl⟩ : ∃ b, mo = some b := by
      cases mo with
      | some b => exact ⟨b, rfl⟩
      | none =>
        have h := hsl.2.2
        simp only at h
        have h2 : List.length L = 0 := congrArg List.length h
        exfalso
        omega
    have hma : MapAt b L W.drew := hsl.2.2.2
    obtain ⟨s, hrun, hbs⟩ := hma.look1 hx hlen
    have hle := sumAt_le HFit.out pre
    have hsnoc := sumAt_snoc L pre x
    have hsz : partLen L x.1 = s.size := by unfold partLen; rw [← hbs]; rfl
    have hps := HFit.out x.1
    rw [hsz] at hsnoc hps
    obtain ⟨A, hA⟩ : ∃ A, sumAt L pre = A := ⟨_, rfl⟩
    rw [hA] at hsnoc hle hc
    have HSn := Lib.hid hsnoc
    have HV := Lib.hid hv
    have HSs := Lib.hid hs
    have HSl := Lib.hid hsl
    have HB := Lib.hid hB
    have hA' : (A : Int) ≤ 5000000000000 := by omega
    have hs' : (s.size : Int) ≤ 1000000000 := by omega
    have hfld := run_field56 W.drew s
    clear hsnoc hv hs hsl hB hma hbs hle hsz hps hA
    have hwr : IntKind.i64.wrap ((A : Int) + s.size) = (A : Int) + s.size := IntWalk.i64_in _ (by omega)
    gi_wp2
    gi_region
    all_goals
      gi_wp2
      have hadd : (A : Int) + s.size = ((sumAt L (pre ++ [x]) : Nat) : Int) := by rw [HSn.out]; omega
      rw [hadd]
      exact ⟨(KeepsOthers.setCell _ _ _).trans (KeepsOthers.drew _), (KeepL.setCell _ hnl _ _).drew, HV.out.set _, HSs.out.other (by omega) _, HSl.out.kept (Below.heap_setCell _ _ _ _ (by simp; omega)) (fun b' e => Below.heap_setCell _ _ _ _ (by have := HM.out b' e; simp; omega)), (HB.out.setCell (p := ⟨w.heap.size + 1, 0, none⟩) (by simp) _).drew⟩
  case done =>
    rintro D ys W hD hS ⟨hv, hs, hsl, hB⟩ hK
    have hc := hv.cell
    have HV := Lib.hid hv
    have HB := Lib.hid hB
    have HK := Lib.hid hK
    have HD := Lib.hid hD
    have hfin : sumAt L ys = bytesS L := by unfold sumAt bytesS; rw [hS]
    rw [hfin] at hc
    clear hv hs hsl hB hK hD hfin
    gi_wp2
    refine ⟨by simp, .inl ⟨_, _, rfl, run_takeDeferred HK.out, ?_⟩⟩
    exact ⟨_, results_tmp rfl _ _ _, rfl, HB.out.trans (belowK_b (w := W0) (by omega) W D _ _ HD.out HK.out rfl rfl)⟩
  case stop =>
    rintro D c pre W _ _ h _
    exact h.elim
end Go.Proofs.YtghnkpfnpidncaaDoor.P
