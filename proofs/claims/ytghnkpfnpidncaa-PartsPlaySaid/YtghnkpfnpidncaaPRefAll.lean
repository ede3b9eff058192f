/- The document's Which and All; Same, at two rows that are alike; Put in all cases. -/
import Derived.Test.YtghnkpfnpidncaaPRefPut
import Derived.Test.YtghnkpfnpidncaaPWholeF
import Derived.Deep.QuietTactic
import Derived.BigQuiet
namespace Go.Proofs.Ytghnkpfnpidncaa.P
open Go.RowKit Go.Shelf

theorem rput_any (k : Int) (L : PL) (v : Value) (key index count : Int) (d : ByteArray) (w : World) (h : RSlot k L v w) (hsd : Sound k L) :
    Calls Try.prog 14 #[v, .int .i64 key, .int .i64 index, .int .i64 count, .string d] w (RPutPost (putS k L key index count (bl d)) w) := by
  by_cases hbad : count < 1 ∨ 4096 < count ∨ index < 0 ∨ count ≤ index ∨ key < 1
  · exact rput_arg k L v key index count d w h hbad
  obtain ⟨ix, rfl⟩ := Int.eq_ofNat_of_zero_le (show 0 ≤ index by omega)
  obtain ⟨ct, rfl⟩ := Int.eq_ofNat_of_zero_le (show 0 ≤ count by omega)
  by_cases hk : key < k
  · exact rput_old k L v key ix ct d w h (by omega) (by omega) (by omega) (by omega) (by omega) hk
  · exact rput_rest k L v key ix ct d w h hsd (by omega) (by omega) (by omega) (by omega)

/-- Where Which is left. -/
def RWhichPost (L : PL) (there : Bool) (w : World) (e : Ending) (w' : World) : Prop := ∃ v : Value, e = .returned v ∧ w'.ownsRow w.heap.size 3 1 v (whichS L there).length ((whichS L there).map fun x : Nat => Value.int .i64 (x : Int)) ∧ Below w.heap.size w w'
set_option maxHeartbeats 1000000 in
theorem rwhich_any (k : Int) (L : PL) (v : Value) (there : Bool) (w : World) (h : RSlot k L v w) (hlen : L.length ≤ 4096) :
    Calls Try.prog 27 #[v, .bool there] w (RWhichPost L there w) := by
  obtain ⟨i0, hi, hz0, hz1, hz2⟩ := info_parts infoI
  obtain ⟨hv, pv, rfl, ⟨a1, c1, rfl, ha1⟩, ⟨a2, c2, rfl, ha2⟩⟩ := h
  rw [hsV_len, psV_len]
  obtain ⟨N, hN⟩ : ∃ N, L.length = N := ⟨_, rfl⟩
  have HN := Lib.hid hN
  have HA := Lib.hid ha1
  rw [hN] at hlen ⊢
  have hlen' : (N : Int) ≤ 4096 := by omega
  clear hN ha1 ha2
  go_enter Try.func27, Try.ntmps27
  go_wp2
  obtain ⟨w1, hw1⟩ : ∃ w1, (w.alloc (.cells #[.int .i64 k, .slice a1 N c1, .slice a2 N c2] 33)).alloc (.cells #[] 3) = w1 := ⟨_, rfl⟩
  have hrow0 : w1.ownsRow w.heap.size 3 1 (.slice (some ⟨w.heap.size + 1, 0, none⟩) 0 0) 0 [] := by
    have h := World.ownsRow_made (e := 3) (size := 1) (base := w.heap.size) (w.alloc (.cells #[.int .i64 k, .slice a1 N c1, .slice a2 N c2] 33)) #[] 0 (by simp) (by unfold maxLen; omega) rfl
    rw [World.size_alloc, hw1] at h
    exact h
  have hb0 : Below w.heap.size w w1 := by rw [← hw1]; exact ((Below.refl _ _).alloc (Nat.le_refl _) _).alloc (by simp) _
  have HW1 := Lib.hid hw1
  clear hw1
  rw [HW1.out]
  go_loopw [5, 12] (fun o i wr => ∃ (j : Nat), j ≤ N ∧ i = .int .i64 (j : Int) ∧ wr.ownsRow w.heap.size 3 1 o (whichTo L there j).length ((whichTo L there j).map fun x : Nat => Value.int .i64 (x : Int)) ∧ Below w.heap.size w wr) (fun _ i _ => N - (intOf i).toNat)
  case atStart => exact ⟨0, by omega, rfl, hrow0, hb0⟩
  case round =>
    obtain ⟨j, hj, rfl, hrow, hB⟩ := hrel
    have hle := hB.size
    have HB := Lib.hid hB
    clear hB hrow0 hb0
    by_cases hlt : j < N
    · have hjl : j < L.length := by rw [HN.out]; exact hlt
      obtain ⟨g, rfl, hg, hcl⟩ := HA.out (ne_of_pos hsV_len L (by omega))
      have hc : wr.cell? ⟨g, j, none⟩ = some (.bool (L.getD j none).isSome) := (HB.out.cell (p := ⟨g, j, none⟩) hg).trans ((hcl j (by rw [hsV_len]; exact hjl)).trans (by rw [hsV_getD _ _ hjl]))
      obtain ⟨is, his⟩ : ∃ is, (L.getD j none).isSome = is := ⟨_, rfl⟩
      rw [his] at hc
      have hwl := whichTo_len L there j
      cases hit : (is == there) with
      | true =>
        have hw := whichTo_yes (by rw [his]; exact hit : ((L.getD j none).isSome == there) = true)
        have HWy := Lib.hid hw
        obtain ⟨n, hn⟩ : ∃ n, (whichTo L there j).length = n := ⟨_, rfl⟩
        obtain ⟨X, hX⟩ : ∃ X, (whichTo L there j).map (fun x : Nat => Value.int .i64 (x : Int)) = X := ⟨_, rfl⟩
        rw [hn, hX] at hrow
        rw [hn] at hwl
        have HNn := Lib.hid hn
        have HX := Lib.hid hX
        clear hw his hn hX hcl
        go_wp2_with (at_builtin; refine wpList_append_own _ rfl _ _ 45 rfl w.heap.size 3 i0 (.int .i64 0) 1 8 Try.underlying45 hi hz0 hz1 hz2 rfl (by decide) _ _ _ rfl (hrow.alloc _) ⟨wr.heap.size, 0, none⟩ 1 1 [.int .i64 (j : Int)] rfl rfl ?c1 ?c2 ?c3 ?c4 ?c5 ?_)
        case c1 => exact cell_one_new _ _ _
        case c2 => simp [Value.oneCell']
        case c3 => unfold maxLen; omega
        case c4 => omega
        case c5 => simp; omega
        intro v' w2 hown' hgrow _
        have HB1 : Hid (Below w.heap.size w w2) := Lib.hid ((HB.out.alloc hle _).grown hgrow (by simp; omega) (fun q hq => (hrow.lt q hq).1))
        have HR := Lib.hid hown'
        clear hown' hgrow hrow
        go_wp2
        go_roundw
        case rel =>
          refine ⟨j + 1, by omega, by go_num, ?_, HB1.out⟩
          rw [HWy.out, List.length_append, List.map_append, HX.out, HNn.out]
          exact HR.out
        case measure => simp [intOf]; omega
      | false =>
        have hw := whichTo_no (by rw [his]; exact hit : ((L.getD j none).isSome == there) = false)
        have HWn := Lib.hid hw
        have HR := Lib.hid hrow
        clear hw his hrow hcl
        go_wp2
        go_roundw
        case rel => exact ⟨j + 1, by omega, by go_num, by rw [HWn.out]; exact HR.out, HB.out⟩
        case measure => simp [intOf]; omega
    · obtain rfl : j = N := by omega
      have hfin : whichTo L there j = whichS L there := by unfold whichS whichTo; rw [HN.out]
      rw [hfin] at hrow
      have HR := Lib.hid hrow
      clear hrow hfin
      go_wp2
      go_ret
      exact ⟨_, rfl, HR.out, HB.out⟩
/-- A slice that holds these numbers. -/
def NumsAt (w : World) (v : Value) (ns : List Nat) : Prop := SliceAt w v (ns.map fun x : Nat => Value.int .i64 (x : Int))
theorem nums_of_row {w : World} {base : Nat} {v : Value} {ns : List Nat} (h : w.ownsRow base 3 1 v ns.length (ns.map fun x : Nat => Value.int .i64 (x : Int))) : NumsAt w v ns := by
  rcases h.2 with ⟨rfl, h0⟩ | ⟨g, cap, cur, rfl, _, hg, _⟩
  · obtain rfl : ns = [] := List.length_eq_zero_iff.1 h0
    exact ⟨none, 0, rfl, fun h => absurd rfl h⟩
  · refine ⟨some ⟨g, 0, none⟩, cap, by simp, fun _ => ⟨g, rfl, (Array.getElem?_eq_some_iff.1 hg).1, fun i hi => ?_⟩⟩
    have hc := h.cells (g := g) rfl i ((ns.map fun x : Nat => Value.int .i64 (x : Int)).getD i undef) (by simp at hi; simp [List.getD_eq_getElem?_getD, hi])
    have hadd : (⟨g, 0, none⟩ : Addr).add i = ⟨g, i, none⟩ := by unfold Addr.add; split <;> simp_all
    rwa [hadd] at hc
set_option maxHeartbeats 1000000 in
theorem same_any (v1 v2 : Value) (ns : List Nat) (w : World) (h1 : NumsAt w v1 ns) (h2 : NumsAt w v2 ns) (hlen : ns.length ≤ 4096) :
    Calls Try.prog 25 #[v1, v2] w fun e w' => e = .returned (.bool true) ∧ Below w.heap.size w w' := by
  obtain ⟨a1, c1, rfl, ha1⟩ := h1
  obtain ⟨a2, c2, rfl, ha2⟩ := h2
  have hl : (ns.map fun x : Nat => Value.int .i64 (x : Int)).length = ns.length := by simp
  rw [hl] at ha1 ha2 ⊢
  obtain ⟨N, hN⟩ : ∃ N, ns.length = N := ⟨_, rfl⟩
  have HN := Lib.hid hN
  have HA1 := Lib.hid ha1
  have HA2 := Lib.hid ha2
  rw [hN] at hlen ⊢
  have hlen' : (N : Int) ≤ 4096 := by omega
  clear hN ha1 ha2 hl
  go_enter Try.func25, Try.ntmps25
  go_wp2
  go_loopw [13] (fun i wr => ∃ (j : Nat), j ≤ N ∧ i = .int .i64 (j : Int) ∧ Below w.heap.size w wr) (fun i _ => N - (intOf i).toNat)
  case atStart => exact ⟨0, by omega, rfl, Below.refl _ _⟩
  case round =>
    obtain ⟨j, hj, rfl, hB⟩ := hrel
    have HB := Lib.hid hB
    clear hB
    by_cases hlt : j < N
    · have hjl : j < ns.length := by rw [HN.out]; exact hlt
      have hne : (ns.map fun x : Nat => Value.int .i64 (x : Int)) ≠ [] := fun e => by
        have h0 : ns.length = 0 := by have := congrArg List.length e; simpa using this
        omega
      obtain ⟨g1, rfl, hg1, hcl1⟩ := HA1.out hne
      obtain ⟨g2, rfl, hg2, hcl2⟩ := HA2.out hne
      have hval : (ns.map fun x : Nat => Value.int .i64 (x : Int)).getD j undef = .int .i64 (ns.getD j 0 : Nat) := by simp [List.getD_eq_getElem?_getD, hjl]
      have hc1 : wr.cell? ⟨g1, j, none⟩ = some (.int .i64 (ns.getD j 0 : Nat)) := (HB.out.cell (p := ⟨g1, j, none⟩) hg1).trans ((hcl1 j hjl).trans (by rw [hval]))
      have hc2 : wr.cell? ⟨g2, j, none⟩ = some (.int .i64 (ns.getD j 0 : Nat)) := (HB.out.cell (p := ⟨g2, j, none⟩) hg2).trans ((hcl2 j hjl).trans (by rw [hval]))
      obtain ⟨q, hq⟩ : ∃ q : Nat, ns.getD j 0 = q := ⟨_, rfl⟩
      rw [hq] at hc1 hc2
      clear hne hval hcl1 hcl2 hq
      go_wp2
      go_quiet (fail)
      go_wp2
      go_roundw
      case rel => exact ⟨j + 1, by omega, by go_num, drewN_below HB.out _⟩
      case measure => simp [intOf]; omega
    · obtain rfl : j = N := by omega
      go_wp2
      go_ret
      exact ⟨rfl, HB.out⟩
end Go.Proofs.Ytghnkpfnpidncaa.P
