/- The document's All. -/
import Derived.Test.YtghnkpfnpidncaaPRefAll
namespace Go.Proofs.Ytghnkpfnpidncaa.P
open Go.RowKit Go.Shelf

theorem lacks_to (L : PL) : ∀ k, k ≤ L.length → (whichTo L false k).length + ((L.take k).filter Option.isSome).length = k
  | 0, _ => by simp [whichTo]
  | k + 1, h => by
    have ih := lacks_to L k (by omega)
    have hk : k < L.length := by omega
    have e : L.take (k + 1) = L.take k ++ [L.getD k none] := by
      rw [List.take_succ_eq_append_getElem hk]
      simp [List.getD_eq_getElem?_getD, hk]
    rw [e, List.filter_append, List.length_append]
    cases hl : L.getD k none with
    | some l => rw [whichTo_no (by rw [hl]; rfl)]; simp; omega
    | none => rw [whichTo_yes (by rw [hl]; rfl)]; simp; omega
theorem lacks_have (L : PL) : (whichS L false).length + haveN L = L.length := by
  have h := lacks_to L L.length (Nat.le_refl _)
  rw [List.take_length] at h
  exact h
theorem full_iff {k : Int} {L : PL} (h : Sound k L) (hk : 1 ≤ k) : fullS L = decide ((whichS L false).length = 0) := by
  rcases h with ⟨h1, _⟩ | ⟨_, h2, _⟩
  · omega
  · have := lacks_have L
    unfold fullS
    by_cases h0 : (whichS L false).length = 0 <;> simp [h0] <;> omega
theorem full_zero {k : Int} {L : PL} (h : Sound k L) (hk : ¬ 1 ≤ k) : fullS L = false := by
  rcases h with ⟨_, rfl⟩ | ⟨h1, _⟩
  · rfl
  · omega
/-- the parts' bytes ahead of the k-th -/
def catTo (L : PL) (k : Nat) : List UInt8 := ((L.take k).map (·.getD [])).flatten
theorem catTo_all (L : PL) : catTo L L.length = catS L := by unfold catTo catS; rw [List.take_length]
theorem catTo_succ (L : PL) (k : Nat) (h : k < L.length) : catTo L (k + 1) = catTo L k ++ (L.getD k none).getD [] := by
  unfold catTo
  rw [List.take_succ_eq_append_getElem h, List.map_append, List.flatten_append]
  simp [List.getD_eq_getElem?_getD, h]
theorem catTo_le {L : PL} (hf : Fits L) : ∀ k, k ≤ L.length → (catTo L k).length ≤ 1000000000 * k
  | 0, _ => by simp [catTo]
  | k + 1, h => by
    have ih := catTo_le hf k (by omega)
    have h2 := hf k
    unfold partLen at h2
    rw [catTo_succ L k (by omega), List.length_append]
    omega
theorem psV_getD (L : PL) (i : Nat) (hi : i < L.length) : (psV L).getD i undef = .string (strV (L.getD i none)) := by simp [psV, List.getD_eq_getElem?_getD, hi]
/-- Where All is left. -/
def RAllPost (L : PL) (w : World) (e : Ending) (w' : World) : Prop := ∃ u : ByteArray, e = .returned (.tuple #[.string u, .bool (fullS L)]) ∧ bl u = catS L ∧ Below w.heap.size w w'
set_option maxHeartbeats 2000000 in
theorem rall_any (k : Int) (L : PL) (v : Value) (w : World) (h : RSlot k L v w) (hsd : Sound k L) (hf : Fits L) :
    Calls Try.prog 23 #[v] w (RAllPost L w) := by
  have hlen : L.length ≤ 4096 := by
    rcases hsd with ⟨_, rfl⟩ | ⟨_, _, h⟩
    · simp
    · exact h
  have HR := Lib.hid h
  obtain ⟨hv, pv, rfl, ⟨a1, c1, rfl, ha1⟩, ⟨a2, c2, rfl, ha2⟩⟩ := h
  rw [hsV_len, psV_len] at HR ⊢
  obtain ⟨N, hN⟩ : ∃ N, L.length = N := ⟨_, rfl⟩
  have HN := Lib.hid hN
  have HA := Lib.hid ha2
  have HF := Lib.hid hf
  have HSd := Lib.hid hsd
  rw [hN] at hlen HR ⊢
  have hlen' : (N : Int) ≤ 4096 := by omega
  clear hN ha1 ha2 hf hsd
  go_enter Try.func23, Try.ntmps23
  go_wp2
  go_loop [4, 10] (fun o i => ∃ (j : Nat) (u : ByteArray), j ≤ N ∧ i = .int .i64 (j : Int) ∧ o = .string u ∧ (u.size : Int) ≤ 1000000000 * j ∧ Hid (bl u = catTo L j)) (fun _ i => N - (intOf i).toNat)
  case atStart => exact ⟨0, ⟨#[]⟩, by omega, rfl, rfl, by decide, Lib.hid rfl⟩
  case round =>
    obtain ⟨j, u, hj, rfl, rfl, hu, HU⟩ := hrel
    by_cases hlt : j < N
    · have hjl : j < L.length := by rw [HN.out]; exact hlt
      obtain ⟨g, rfl, hg, hcl⟩ := HA.out (ne_of_pos psV_len L (by omega))
      have hc : w.cell? ⟨g, j, none⟩ = some (.string (strV (L.getD j none))) := (hcl j (by rw [psV_len]; exact hjl)).trans (by rw [psV_getD _ _ hjl])
      have hgs : g < w.heap.size := hg
      obtain ⟨x, hx⟩ : ∃ x, strV (L.getD j none) = x := ⟨_, rfl⟩
      have hbx : bl x = (L.getD j none).getD [] := by rw [← hx]; rfl
      have hxs : x.size ≤ 1000000000 := by have h := HF.out j; unfold partLen at h; rw [← hbx] at h; exact h
      rw [hx] at hc
      have hnew : bl (u ++ x) = catTo L (j + 1) := by rw [catTo_succ L j hjl, ← HU.out, ← hbx]; simp [bl]
      have hsz : ((u ++ x).size : Int) ≤ 1000000000 * ((j + 1 : Nat) : Int) := by
        have h : (u ++ x).size = u.size + x.size := by simp
        omega
      have hsum : (u.size : Int) + x.size ≤ 5000000000000 := by omega
      have HNw := Lib.hid hnew
      have HSz := Lib.hid hsz
      clear hx hbx hnew hsz hcl hg
      go_wp2
      go_round
      case rel => exact ⟨j + 1, u ++ x, by omega, by go_num, rfl, HSz.out, HNw⟩
      case measure => simp [intOf]; omega
    · obtain rfl : j = N := by omega
      have hfin : bl u = catS L := by rw [HU.out, ← HN.out, catTo_all]
      have HFin := Lib.hid hfin
      clear hfin
      by_cases hk : 1 ≤ k
      · have hkk : (0 : Int) < k := by omega
        have hfull := full_iff HSd.out hk
        have HFull := Lib.hid hfull
        have hwb : Below w.heap.size w (w.alloc (.cells #[.int .i64 k, .slice a1 j c1, .slice a2 j c2] 33)) := (Below.refl _ _).alloc (Nat.le_refl _) _
        have HWb := Lib.hid hwb
        have HW := Lib.hid (rwhich_any k L _ false _ (HR.out.below hwb) (by rw [HN.out]; exact hlen))
        clear hfull hwb
        go_wp2_with fail
        refine HW.out.mono ?_
        rintro e w2 ⟨v, rfl, hrow, hb2⟩
        obtain ⟨av, cv, rfl, _⟩ := nums_of_row hrow
        rw [List.length_map]
        have HB2 := Lib.hid (HWb.out.trans (hb2.mono (by simp)))
        obtain ⟨m, hm⟩ : ∃ m, (whichS L false).length = m := ⟨_, rfl⟩
        rw [hm] at HFull ⊢
        clear hrow hb2 hm
        by_cases hm0 : m = 0
        · subst hm0
          go_wp2
          go_ret2
          exact ⟨u, by rw [HFull.out]; rfl, HFin.out, HB2.out⟩
        · have hmf : ((m : Int) == 0) = false := by rw [beq_eq_false_iff_ne]; omega
          go_wp2
          go_ret2
          exact ⟨u, by rw [HFull.out, decide_eq_false hm0]; rfl, HFin.out, HB2.out⟩
      · have hkk : ¬ (0 : Int) < k := by omega
        have hfull := full_zero HSd.out hk
        have HFull := Lib.hid hfull
        clear hfull
        go_wp2
        go_ret2
        exact ⟨u, by rw [HFull.out]; rfl, HFin.out, (Below.refl _ _).alloc (Nat.le_refl _) _⟩
end Go.Proofs.Ytghnkpfnpidncaa.P
