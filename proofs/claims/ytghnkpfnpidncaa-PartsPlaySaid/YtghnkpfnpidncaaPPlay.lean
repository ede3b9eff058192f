/- PartsPlay: of every list of acts (the first forty, texts cut at 20 bytes, counts at 40) a slot and the document's have the same behind each act; and a clone goes its own way. No condition. -/
import Derived.Test.YtghnkpfnpidncaaPPlayA
namespace Go.Proofs.Ytghnkpfnpidncaa.P
open Go.RowKit Go.Shelf

/-- What stands between two acts. -/
def PlayI (w : World) (p px : Nat) (W : World) : Prop := ∃ mo k L ha hc pa pc, SlotAt p mo k L W ∧ (∀ b, mo = some b → w.heap.size ≤ b) ∧ W.heap[px]? = some (.cells #[.int .i64 k, .slice ha (List.length L) hc, .slice pa (List.length L) pc] 33 (0, 0)) ∧
  RSlot k L (.agg #[.int .i64 k, .slice ha (List.length L) hc, .slice pa (List.length L) pc]) W ∧ Fits L ∧ Below w.heap.size w W
/-- The list of acts, as a walk meets it. -/
def ActsIn (a : Option Addr) (len : Nat) (w : World) : Prop := len = 0 ∨ ∃ b off al, a = some ⟨b, off, none⟩ ∧ len ≤ List.length al ∧ (len : Int) ≤ 9223372036854775807 ∧ b < w.heap.size ∧ Acts w b off al ∧ (∀ i, (((al.getD i default).data.size : Nat) : Int) ≤ 9223372036854775807)
end Go.Proofs.Ytghnkpfnpidncaa.P
namespace Go.Proofs.Ytghnkpfnpidncaa
open Go.RowKit
open Go.Proofs.Ytghnkpfnpidncaa.P

set_option maxRecDepth 100000 in
set_option maxHeartbeats 8000000 in
theorem play_walk (a : Option Addr) (len cap : Nat) (w : World) (hA : ActsIn a len w) :
    Calls Try.prog 4 #[.slice a len cap] w fun e w' => e = .returned (.bool true) ∧ Below w.heap.size w w' := by
  have HA := Lib.hid hA
  clear hA
  go_enter Try.func4, Try.ntmps4
  go_wp2_with fail
  refine (P.awake_any w).mono ?_
  rintro e w1 ⟨rfl, hb1⟩
  have HB1 := Lib.hid hb1
  have hs1 := hb1.size
  obtain ⟨p, hp⟩ : ∃ p, w1.heap.size = p := ⟨_, rfl⟩
  have hz0 := zero_slot w1
  have hbd : ∀ W, (Instr.build 33 #[]).run Try.prog W = .ok (.agg #[.int .i64 0, .slice none 0 0, .slice none 0 0]) W := fun W => by kernel_rfl
  obtain ⟨W0, hW0⟩ : ∃ W0, (w1.alloc (.cells #[.int .i64 0, .int .i64 0, .map none] 30)).alloc (.cells #[.int .i64 0, .slice none 0 0, .slice none 0 0] 33) = W0 := ⟨_, rfl⟩
  have hI0 : PlayI w p (p + 1) W0 := by
    have hx := World.alloc_heap_new (w1.alloc (.cells #[.int .i64 0, .int .i64 0, .map none] 30)) (.cells #[.int .i64 0, .slice none 0 0, .slice none 0 0] 33)
    rw [World.size_alloc, hp, hW0] at hx
    refine ⟨none, 0, [], none, 0, none, 0, ?_, (fun b e => by cases e), hx, rslot_zero _, fits_nil, ?_⟩
    · rw [← hW0, ← hp]; exact hz0.belowAll ((Below.refl _ _).alloc (Nat.le_refl _) _)
    · rw [← hW0]; exact (hb1.alloc hs1 _).alloc (by simp; omega) _
  have HI0 := Lib.hid hI0
  have hwp : w.heap.size ≤ p := by omega
  have HP := Lib.hid hp
  have HW0 := Lib.hid hW0
  clear hb1 hz0 hI0 hs1 hp hW0
  go_wp2_with fail
  rw [HW0.out, HP.out]
  go_loopw [5] (fun i wr => ∃ k : Nat, k ≤ 40 ∧ k ≤ len ∧ i = .int .i64 (k : Int) ∧ Hid (PlayI w p (p + 1) wr)) (fun i _ => 40 - (intOf i).toNat)
  case atStart => exact ⟨0, by omega, by omega, rfl, HI0⟩
  case round =>
    obtain ⟨n, hn40, hnl, rfl, HI⟩ := hrel
    obtain ⟨px, hpx⟩ : ∃ px, p + 1 = px := ⟨_, rfl⟩
    have hppx : p < px := by omega
    rw [hpx] at HI ⊢
    have HPX := Lib.hid hpx
    clear hpx
    by_cases hlt : n < len ∧ n < 40
    · obtain ⟨hlt1, hlt2⟩ := hlt
      obtain ⟨b, off, al, rfl, hlz, hl63, hb, hcells, hdat⟩ : ∃ b off al, a = some ⟨b, off, none⟩ ∧ len ≤ List.length al ∧ (len : Int) ≤ 9223372036854775807 ∧ b < w.heap.size ∧ Acts w b off al ∧ (∀ i, (((al.getD i default).data.size : Nat) : Int) ≤ 9223372036854775807) := by
        rcases HA.out with h | h
        · omega
        · exact h
      obtain ⟨mo, k, L, ha, hc, pa, pc, hS, hmo, hX, hR, hfit, hBel⟩ := HI.out
      have hA5 := hcells n (by omega)
      have hdn := hdat n
      obtain ⟨⟨forget, key, index, count, dd⟩, hact⟩ : ∃ A, al.getD n default = A := ⟨_, rfl⟩
      rw [hact] at hA5 hdn
      obtain ⟨ca0, ca1, ca2, ca3, ca4⟩ := hA5
      have cc : ∀ j v, w.cell? ⟨b, j, none⟩ = some v → wr.cell? ⟨b, j, none⟩ = some v := fun j v h => (hBel.cell (p := ⟨b, j, none⟩) hb).trans h
      have cb0 := cc _ _ ca0
      have cb1 := cc _ _ ca1
      have cb2 := cc _ _ ca2
      have cb3 := cc _ _ ca3
      have cb4 := cc _ _ ca4
      simp only at cb0 cb1 cb2 cb3 cb4 hdn
      obtain ⟨pA, hpA⟩ : ∃ pA, wr.heap.size = pA := ⟨_, rfl⟩
      have hAn := World.alloc_heap_new wr (.cells #[.bool forget, .int .i64 key, .int .i64 index, .int .i64 count, .string dd] 35)
      have hb2 : Below wr.heap.size wr (wr.alloc (.cells #[.bool forget, .int .i64 key, .int .i64 index, .int .i64 count, .string dd] 35)) := (Below.refl _ _).alloc (Nat.le_refl _) _
      have hpxl : px < wr.heap.size := (Array.getElem?_eq_some_iff.1 hX).1
      have HS := Lib.hid hS
      have HMo := Lib.hid hmo
      have HX := Lib.hid hX
      have HR := Lib.hid hR
      have HFit := Lib.hid hfit
      have HBel := Lib.hid hBel
      have HAn := Lib.hid hAn
      have HB2 := Lib.hid hb2
      have HCl := Lib.hid (clone_any p mo k L _ (hS.belowAll hb2))
      clear hS hmo hX hR hfit hBel hAn hb2 hact ca0 ca1 ca2 ca3 ca4 cc hcells hdat
      go_wp2_with fail
      refine HCl.out.mono ?_
      rintro e W3 ⟨q, mq, rfl, hS3, hq, hmq, hB3⟩
      rw [World.size_alloc] at hq hmq
      have hs3 := hB3.size
      rw [World.size_alloc] at hs3
      have hB13 : Below wr.heap.size wr W3 := HB2.out.trans (hB3.mono (by simp))
      have HA3 : Hid (W3.heap[pA]? = some (.cells #[.bool forget, .int .i64 key, .int .i64 index, .int .i64 count, .string dd] 35 (0, 0))) := Lib.hid (by rw [← hpA]; exact (hB3.block _ (by simp)).trans HAn.out)
      have HS3 := Lib.hid (HS.out.belowAll hB13)
      have HC3 := Lib.hid hS3
      have HX3 : Hid (W3.heap[px]? = some (.cells #[.int .i64 k, .slice ha (List.length L) hc, .slice pa (List.length L) pc] 33 (0, 0))) := Lib.hid ((hB13.block px hpxl).trans HX.out)
      have HR3 := Lib.hid (HR.out.below hB13)
      have HBel3 := Lib.hid (HBel.out.trans (hB13.mono HBel.out.size))
      have HIs := Lib.hid (is_any q mq k L _ W3 hS3 HR3.out HFit.out)
      have HB13 := Lib.hid hB13
      have HqA : Hid (q ≠ pA ∧ ∀ b, mq = some b → b ≠ pA) := Lib.hid ⟨by omega, fun b hb => by have := hmq b hb; omega⟩
      have hy0 : W3.cell? ⟨px, 0, none⟩ = some (.int .i64 k) := by rw [Lib.cell_of_heap HX3.out]; rfl
      have hy1 : W3.cell? ⟨px, 1, none⟩ = some (.slice ha (List.length L) hc) := by rw [Lib.cell_of_heap HX3.out]; rfl
      have hy2 : W3.cell? ⟨px, 2, none⟩ = some (.slice pa (List.length L) pc) := by rw [Lib.cell_of_heap HX3.out]; rfl
      have hfresh : Hid (q ≠ p ∧ some q ≠ mo ∧ ∀ b, mq = some b → b ≠ p ∧ some b ≠ mo) := Lib.hid (by
        have hpl := HS.out.lt
        have hml := HS.out.mlt
        refine ⟨by omega, fun e => ?_, fun b hb => ⟨?_, fun e => ?_⟩⟩
        · have := hml q e.symm; omega
        · have := hmq b hb; omega
        · have := hmq b hb; have := hml b e.symm; omega)
      have hXA : ¬ pA = px := by omega
      have hpAp : ¬ pA = p := by have := HS.out.lt; omega
      clear hS3 hq hmq hB3 hB13 hs3 HCl
      go_wp2_with fail
      refine HIs.out.mono ?_
      rintro e W4 ⟨rfl, hB4⟩
      have HA4 : Hid (W4.heap[pA]? = some (.cells #[.bool forget, .int .i64 key, .int .i64 index, .int .i64 count, .string dd] 35 (0, 0))) := Lib.hid ((hB4.block pA (Array.getElem?_eq_some_iff.1 HA3.out).1).trans HA3.out)
      have HS4 := Lib.hid (HS3.out.belowAll hB4)
      have HC4 := Lib.hid (HC3.out.belowAll hB4)
      have HX4 : Hid (W4.heap[px]? = some (.cells #[.int .i64 k, .slice ha (List.length L) hc, .slice pa (List.length L) pc] 33 (0, 0))) := Lib.hid ((hB4.block px (Array.getElem?_eq_some_iff.1 HX3.out).1).trans HX3.out)
      have HR4 := Lib.hid (HR3.out.below hB4)
      have HBel4 := Lib.hid (HBel3.out.trans (hB4.mono HBel3.out.size))
      have hd0 : W4.cell? ⟨pA, 0, none⟩ = some (.bool forget) := by rw [Lib.cell_of_heap HA4.out]; rfl
      have hd1 : W4.cell? ⟨pA, 1, none⟩ = some (.int .i64 key) := by rw [Lib.cell_of_heap HA4.out]; rfl
      have hd2 : W4.cell? ⟨pA, 2, none⟩ = some (.int .i64 index) := by rw [Lib.cell_of_heap HA4.out]; rfl
      have hd3 : W4.cell? ⟨pA, 3, none⟩ = some (.int .i64 count) := by rw [Lib.cell_of_heap HA4.out]; rfl
      have hd4 : W4.cell? ⟨pA, 4, none⟩ = some (.string dd) := by rw [Lib.cell_of_heap HA4.out]; rfl
      have hdf : W4.frozen? ⟨pA, 3, none⟩ = false := Lib.frozen_of_heap HA4.out 3
      have HB14 : Hid (Below wr.heap.size wr W4) := Lib.hid (HB13.out.trans (hB4.mono (by have := HB13.out.size; omega)))
      have HpA := Lib.hid hpA
      have hx0 : W4.cell? ⟨px, 0, none⟩ = some (.int .i64 k) := by rw [Lib.cell_of_heap HX4.out]; rfl
      have hx1 : W4.cell? ⟨px, 1, none⟩ = some (.slice ha (List.length L) hc) := by rw [Lib.cell_of_heap HX4.out]; rfl
      have hx2 : W4.cell? ⟨px, 2, none⟩ = some (.slice pa (List.length L) pc) := by rw [Lib.cell_of_heap HX4.out]; rfl
      have hxf := fun j => Lib.frozen_of_heap HX4.out j
      have hxf0 := hxf 0
      have hxf1 := hxf 1
      have hxf2 := hxf 2
      clear hB4 HIs HA3 HS3 HC3 HX3 HR3 HBel3 hy0 hy1 hy2 hpA HAn HB2 cb0 cb1 cb2 cb3 cb4 hxf
      cases forget with
      | true =>
        have HFo := Lib.hid (forget_any p mo k L W4 HS4.out)
        go_wp2_with fail
        refine HFo.out.mono ?_
        rintro e W5 ⟨rfl, hS5, hT5⟩
        have hpxn := px_ne HS4.out HX4.out
        have hX5 := (hT5.block px (Array.getElem?_eq_some_iff.1 HX4.out).1 hpxn.1 hpxn.2).trans HX4.out
        have HS6 := Lib.hid (hS5.setX (a := .int .i64 0) (b := .slice none 0 0) (c := .slice none 0 0) hX5)
        have HX6 := Lib.hid (setX_at (a := .int .i64 0) (b := .slice none 0 0) (c := .slice none 0 0) hX5)
        have HB6 := Lib.hid (setX_below (px := px) (a := .int .i64 0) (b := .slice none 0 0) (c := .slice none 0 0) (HBel4.out.trans (hT5.below hwp HMo.out HBel4.out.size)) (by omega))
        have hxc0 : W5.cell? ⟨px, 0, none⟩ = some (.int .i64 k) := by rw [Lib.cell_of_heap hX5]; rfl
        have hxc1 : W5.cell? ⟨px, 1, none⟩ = some (.slice ha (List.length L) hc) := by rw [Lib.cell_of_heap hX5]; rfl
        have hxc2 : W5.cell? ⟨px, 2, none⟩ = some (.slice pa (List.length L) pc) := by rw [Lib.cell_of_heap hX5]; rfl
        have hyf := fun j => Lib.frozen_of_heap hX5 j
        have hyf0 := hyf 0
        have hyf1 := hyf 1
        have hyf2 := hyf 2
        obtain ⟨WX, hWX⟩ : ∃ WX, setX px (.int .i64 0) (.slice none 0 0) (.slice none 0 0) W5 = WX := ⟨_, rfl⟩
        have hWX' := hWX
        unfold setX at hWX'
        rw [hWX] at HS6 HX6 HB6
        have HIs9 := Lib.hid (is_any p none 0 [] _ WX HS6.out (rslot_zero WX) fits_nil)
        have hz0 : WX.cell? ⟨px, 0, none⟩ = some (.int .i64 0) := by rw [Lib.cell_of_heap HX6.out]; rfl
        have hz1 : WX.cell? ⟨px, 1, none⟩ = some (.slice none 0 0) := by rw [Lib.cell_of_heap HX6.out]; rfl
        have hz2 : WX.cell? ⟨px, 2, none⟩ = some (.slice none 0 0) := by rw [Lib.cell_of_heap HX6.out]; rfl
        clear hS5 hT5 hpxn hX5 hyf hWX HFo
        go_wp2_with fail
        refine HIs9.out.mono ?_
        rintro e W10 ⟨rfl, hB10⟩
        have HI10 : Hid (PlayI w p px W10) := Lib.hid ⟨none, 0, [], none, 0, none, 0, HS6.out.belowAll hB10, (fun b e => by cases e), (hB10.block px (Array.getElem?_eq_some_iff.1 HX6.out).1).trans HX6.out, rslot_zero W10, fits_nil, HB6.out.trans (hB10.mono HB6.out.size)⟩
        clear hB10
        go_wp2
        go_roundw
        case rel => exact ⟨n + 1, by omega, by omega, by go_num, HI10⟩
        case measure => simp [intOf]; omega
      | false =>
        go_wp2_with fail
        refine (P.cut_any dd 20 hdn (by decide) _).mono ?_
        rintro e w' ⟨⟨t, rfl, hts, htl⟩, rfl⟩
        clear htl
        by_cases hcl : 40 < count ∧ count ≤ 4096
        · obtain ⟨hcl1, hcl2⟩ := hcl
          have HBc : Hid (Below wr.heap.size wr (W4.setCell ⟨pA, 3, none⟩ (.int .i64 40))) := Lib.hid (HB14.out.setCell (p := ⟨pA, 3, none⟩) (by show _ ≤ pA; rw [HpA.out]; exact Nat.le_refl _) _)
          have HRc := Lib.hid (HR.out.below HBc.out)
          have HSc := Lib.hid (HS.out.belowAll HBc.out)
          have HXc : Hid ((W4.setCell ⟨pA, 3, none⟩ (.int .i64 40)).heap[px]? = some (.cells #[.int .i64 k, .slice ha (List.length L) hc, .slice pa (List.length L) pc] 33 (0, 0))) := Lib.hid ((HBc.out.block px hpxl).trans HX.out)
          have HBelc := Lib.hid (HBel.out.trans (HBc.out.mono HBel.out.size))
          have HClc := Lib.hid (HC4.out.kept (w' := W4.setCell ⟨pA, 3, none⟩ (.int .i64 40)) (Below.heap_setCell _ _ _ _ HqA.out.1) (fun b hb => Below.heap_setCell _ _ _ _ (HqA.out.2 b hb)))
          have HAc : Hid ((W4.setCell ⟨pA, 3, none⟩ (.int .i64 40)).heap[pA]? = some (.cells #[.bool false, .int .i64 key, .int .i64 index, .int .i64 40, .string dd] 35 (0, 0))) := Lib.hid (by
            have h := HA4.out
            simp [World.setCell, Array.getElem?_modify, h])
          go_wp2_with fail
          obtain ⟨count', hct⟩ : ∃ count' : Int, (40 : Int) = count' := ⟨_, rfl⟩
          obtain ⟨Wc, hWc⟩ : ∃ Wc, W4.setCell ⟨pA, 3, none⟩ (.int .i64 40) = Wc := ⟨_, rfl⟩
          rw [hWc] at HRc HSc HXc HBelc HClc HAc ⊢
          rw [hct] at HAc ⊢
          clear hWc hct HBc hcl1 hcl2 hd0 hd1 hd2 hd3 hd4 hdf hx0 hx1 hx2 hxf0 hxf1 hxf2

          -- behind the count: A's cells are these, the world is Wc
          have hRc := HRc.out
          have HRP := Lib.hid (rput_any k L _ key index count' t Wc hRc HSc.out.2.1)
          go_wp2_with fail
          refine HRP.out.mono ?_
          rintro e W5 ⟨v5, rfl, hR5, hB5⟩
          obtain ⟨r, hrr⟩ : ∃ r, putS k L key index count' (bl t) = r := ⟨_, rfl⟩
          have HRr := Lib.hid hrr
          rw [hrr] at hR5 ⊢
          have hfit5 : Fits r.1.2 := by rw [← hrr]; exact fits_put HFit.out key index count' (bl t) (by rw [bl_len]; omega)
          have hby := put_bytes k L key index count' (bl t)
          rw [hrr] at hby
          have HFit5 := Lib.hid hfit5
          have HBy := Lib.hid hby
          clear hrr hfit5 hby hRc
          obtain ⟨hv5, pv5, rfl, ⟨ha5, hc5, rfl, _⟩, ⟨pa5, pc5, rfl, _⟩⟩ := id hR5
          rw [hsV_len, psV_len] at hR5 ⊢
          have hsz5 := hB5.size
          have HR5 := Lib.hid hR5
          have HS5 := Lib.hid (HSc.out.belowAll hB5)
          have HCl5 := Lib.hid (HClc.out.belowAll hB5)
          have HX5 : Hid (W5.heap[px]? = some (.cells #[.int .i64 k, .slice ha L.length hc, .slice pa L.length pc] 33 (0, 0))) := Lib.hid ((hB5.block px (Array.getElem?_eq_some_iff.1 HXc.out).1).trans HXc.out)
          have HA5 : Hid (W5.heap[pA]? = some (.cells #[.bool false, .int .i64 key, .int .i64 index, .int .i64 count', .string dd] 35 (0, 0))) := Lib.hid ((hB5.block pA (Array.getElem?_eq_some_iff.1 HAc.out).1).trans HAc.out)
          have HBel5 := Lib.hid (HBelc.out.trans (hB5.mono HBelc.out.size))
          -- y in a block of its own, and x = y
          have hy := World.alloc_heap_new W5 (.cells #[.int .i64 r.1.1, .slice ha5 r.1.2.length hc5, .slice pa5 r.1.2.length pc5] 33)
          have hb6 : Below W5.heap.size W5 (W5.alloc (.cells #[.int .i64 r.1.1, .slice ha5 r.1.2.length hc5, .slice pa5 r.1.2.length pc5] 33)) := (Below.refl _ _).alloc (Nat.le_refl _) _
          have hpx5 : px < W5.heap.size := (Array.getElem?_eq_some_iff.1 HX5.out).1
          have hpA5 : pA < W5.heap.size := (Array.getElem?_eq_some_iff.1 HA5.out).1
          have hxc0 : W5.cell? ⟨px, 0, none⟩ = some (.int .i64 k) := by rw [Lib.cell_of_heap HX5.out]; rfl
          have hxc1 : W5.cell? ⟨px, 1, none⟩ = some (.slice ha L.length hc) := by rw [Lib.cell_of_heap HX5.out]; rfl
          have hxc2 : W5.cell? ⟨px, 2, none⟩ = some (.slice pa L.length pc) := by rw [Lib.cell_of_heap HX5.out]; rfl
          have hxf := fun j => Lib.frozen_of_heap HX5.out j
          have hxf0 := hxf 0
          have hxf1 := hxf 1
          have hxf2 := hxf 2
          have hac1 : W5.cell? ⟨pA, 1, none⟩ = some (.int .i64 key) := by rw [Lib.cell_of_heap HA5.out]; rfl
          have hac2 : W5.cell? ⟨pA, 2, none⟩ = some (.int .i64 index) := by rw [Lib.cell_of_heap HA5.out]; rfl
          have hac3 : W5.cell? ⟨pA, 3, none⟩ = some (.int .i64 count') := by rw [Lib.cell_of_heap HA5.out]; rfl
          have hneA : ¬ px = pA := by have h := hXA; intro e; exact h e.symm
          have hneA' : ¬ pA = px := hXA
          clear hR5 hB5 hy hb6 hxf
          have hX6 := setX_at (a := .int .i64 r.1.1) (b := .slice ha5 (List.length r.1.2) hc5) (c := .slice pa5 (List.length r.1.2) pc5) HX5.out
          have HS6a := Lib.hid (HS5.out.setX (a := .int .i64 r.1.1) (b := .slice ha5 (List.length r.1.2) hc5) (c := .slice pa5 (List.length r.1.2) pc5) HX5.out)
          have HC6a := Lib.hid (HCl5.out.setX (a := .int .i64 r.1.1) (b := .slice ha5 (List.length r.1.2) hc5) (c := .slice pa5 (List.length r.1.2) pc5) HX5.out)
          have HR6a := Lib.hid (HR5.out.setX (px := px) (a := .int .i64 r.1.1) (b := .slice ha5 (List.length r.1.2) hc5) (c := .slice pa5 (List.length r.1.2) pc5) hxc0)
          have HB6a := Lib.hid (setX_below (px := px) (a := .int .i64 r.1.1) (b := .slice ha5 (List.length r.1.2) hc5) (c := .slice pa5 (List.length r.1.2) pc5) HBel5.out (by omega))
          have HX6a := Lib.hid hX6
          clear hX6
          go_wp2_with fail
          obtain ⟨WX, hWX⟩ : ∃ WX, setX px (.int .i64 r.1.1) (.slice ha5 (List.length r.1.2) hc5) (.slice pa5 (List.length r.1.2) pc5) W5 = WX := ⟨_, rfl⟩
          have hWX' := hWX
          unfold setX at hWX'
          rw [hWX] at HS6a HC6a HR6a HB6a HX6a
          rw [hWX']
          clear hWX hWX' hxc0 hxc1 hxc2 hxf0 hxf1 hxf2 hac1 hac2 hac3 hpx5 hpA5
          have hb6 : Below WX.heap.size WX (WX.alloc (.cells #[.int .i64 r.1.1, .slice ha5 (List.length r.1.2) hc5, .slice pa5 (List.length r.1.2) pc5] 33)) := (Below.refl _ _).alloc (Nat.le_refl _) _
          have HB6 := Lib.hid (HB6a.out.trans (hb6.mono HB6a.out.size))
          have HS6 := Lib.hid (HS6a.out.belowAll hb6)
          have HC6 := Lib.hid (HC6a.out.belowAll hb6)
          have HR6 := Lib.hid (HR6a.out.below hb6)
          have HX6 : Hid ((WX.alloc (.cells #[.int .i64 r.1.1, .slice ha5 (List.length r.1.2) hc5, .slice pa5 (List.length r.1.2) pc5] 33)).heap[px]? = some (.cells #[.int .i64 r.1.1, .slice ha5 (List.length r.1.2) hc5, .slice pa5 (List.length r.1.2) pc5] 33 (0, 0))) := Lib.hid (heap_old _ _ _ _ HX6a.out)
          obtain ⟨W6, hW6⟩ : ∃ W6, WX.alloc (.cells #[.int .i64 r.1.1, .slice ha5 (List.length r.1.2) hc5, .slice pa5 (List.length r.1.2) pc5] 33) = W6 := ⟨_, rfl⟩
          rw [hW6] at HB6 HS6 HC6 HR6 HX6 ⊢
          clear hb6 hW6 HB6a HS6a HC6a HR6a HX6a
          have hPP := put_any p mo k L key index count' t W6 HS6.out
          rw [HRr.out] at hPP
          have HPP := Lib.hid hPP
          clear hPP
          refine HPP.out.mono ?_
          rintro e W7 ⟨rfl, mo7, hS7, hmo7, hT7⟩
          have hpxn := px_ne HS6.out HX6.out
          have HX7 : Hid (W7.heap[px]? = some (.cells #[.int .i64 r.1.1, .slice ha5 (List.length r.1.2) hc5, .slice pa5 (List.length r.1.2) pc5] 33 (0, 0))) := Lib.hid ((hT7.block px (Array.getElem?_eq_some_iff.1 HX6.out).1 hpxn.1 hpxn.2).trans HX6.out)
          have HR7 := Lib.hid (HR6.out.turned HS6.out hT7)
          have HC7 := Lib.hid (HC6.out.other hT7 hfresh.out.1 hfresh.out.2.1 hfresh.out.2.2)
          have HS7 := Lib.hid hS7
          have HBl7 := Lib.hid (HB6.out.trans (hT7.below hwp HMo.out HB6.out.size))
          have HMo7 : Hid (∀ b, mo7 = some b → w.heap.size ≤ b) := Lib.hid (fun b e => by
            rcases hmo7 with h | ⟨b', h, h'⟩
            · rw [h] at e; exact HMo.out b e
            · rw [h] at e; cases e; exact Nat.le_trans HB6.out.size h')
          clear hS7 hmo7 hT7 hpxn HPP
          have HBc7 := Lib.hid (bytes_any q mq k L W7 HC7.out HFit.out)
          go_wp2_with fail
          refine HBc7.out.mono ?_
          rintro e W8 ⟨rfl, hB8⟩
          have HS8 := Lib.hid (HS7.out.belowAll hB8)
          have HC8 := Lib.hid (HC7.out.belowAll hB8)
          have HR8 := Lib.hid (HR7.out.below hB8)
          have HX8 : Hid (W8.heap[px]? = some (.cells #[.int .i64 r.1.1, .slice ha5 (List.length r.1.2) hc5, .slice pa5 (List.length r.1.2) pc5] 33 (0, 0))) := Lib.hid ((hB8.block px (Array.getElem?_eq_some_iff.1 HX7.out).1).trans HX7.out)
          have HBl8 := Lib.hid (HBl7.out.trans (hB8.mono HBl7.out.size))
          have HBs8 := Lib.hid (bytes_any p mo7 r.1.1 r.1.2 W8 HS8.out HFit5.out)
          clear hB8 HBc7
          go_wp2_with fail
          refine HBs8.out.mono ?_
          rintro e W9 ⟨rfl, hB9⟩
          have HS9 := Lib.hid (HS8.out.belowAll hB9)
          have HC9 := Lib.hid (HC8.out.belowAll hB9)
          have HR9 := Lib.hid (HR8.out.below hB9)
          have HX9 : Hid (W9.heap[px]? = some (.cells #[.int .i64 r.1.1, .slice ha5 (List.length r.1.2) hc5, .slice pa5 (List.length r.1.2) pc5] 33 (0, 0))) := Lib.hid ((hB9.block px (Array.getElem?_eq_some_iff.1 HX8.out).1).trans HX8.out)
          have HBl9 := Lib.hid (HBl8.out.trans (hB9.mono HBl8.out.size))
          have HIs9 := Lib.hid (is_any p mo7 r.1.1 r.1.2 _ W9 HS9.out HR9.out HFit5.out)
          have hz0 : W9.cell? ⟨px, 0, none⟩ = some (.int .i64 r.1.1) := by rw [Lib.cell_of_heap HX9.out]; rfl
          have hz1 : W9.cell? ⟨px, 1, none⟩ = some (.slice ha5 (List.length r.1.2) hc5) := by rw [Lib.cell_of_heap HX9.out]; rfl
          have hz2 : W9.cell? ⟨px, 2, none⟩ = some (.slice pa5 (List.length r.1.2) pc5) := by rw [Lib.cell_of_heap HX9.out]; rfl
          clear hB9 HBs8
          by_cases hgt : bytesS r.1.2 < bytesS L
          · have hkne : r.1.1 ≠ k := by
              rcases HBy.out with h | h
              · exact h
              · omega
            have hkf : (k == r.1.1) = false := by rw [beq_eq_false_iff_ne]; exact fun e => hkne e.symm
            have hgti : (bytesS r.1.2 : Int) < bytesS L := by omega
            have HKq := Lib.hid (key_any q mq k L W9 HC9.out)
            have HKp := Lib.hid (key_any p mo7 r.1.1 r.1.2 W9 HS9.out)
            clear hkne
            go_wp2_with fail
            refine HKq.out.mono ?_
            rintro e w' ⟨rfl, rfl⟩
            go_wp2_with fail
            refine HKp.out.mono ?_
            rintro e w' ⟨rfl, rfl⟩
            go_wp2_with fail
            refine HIs9.out.mono ?_
            rintro e W10 ⟨rfl, hB10⟩
            have HI10 : Hid (PlayI w p px W10) := Lib.hid ⟨mo7, r.1.1, r.1.2, ha5, hc5, pa5, pc5, HS9.out.belowAll hB10, HMo7.out, (hB10.block px (Array.getElem?_eq_some_iff.1 HX9.out).1).trans HX9.out, HR9.out.below hB10, HFit5.out, HBl9.out.trans (hB10.mono HBl9.out.size)⟩
            clear hB10
            go_wp2
            go_roundw
            case rel => exact ⟨n + 1, by omega, by omega, by go_num, HI10⟩
            case measure => simp [intOf]; omega
          · have hgti : ¬ (bytesS r.1.2 : Int) < bytesS L := by omega
            go_wp2_with fail
            refine HIs9.out.mono ?_
            rintro e W10 ⟨rfl, hB10⟩
            have HI10 : Hid (PlayI w p px W10) := Lib.hid ⟨mo7, r.1.1, r.1.2, ha5, hc5, pa5, pc5, HS9.out.belowAll hB10, HMo7.out, (hB10.block px (Array.getElem?_eq_some_iff.1 HX9.out).1).trans HX9.out, HR9.out.below hB10, HFit5.out, HBl9.out.trans (hB10.mono HBl9.out.size)⟩
            clear hB10
            go_wp2
            go_roundw
            case rel => exact ⟨n + 1, by omega, by omega, by go_num, HI10⟩
            case measure => simp [intOf]; omega

        · have hcase : ¬ 40 < count ∨ (40 < count ∧ ¬ count ≤ 4096) := by omega
          have HRc := HR4
          have HSc := HS4
          have HXc := HX4
          have HBelc := HBel4
          have HClc := HC4
          have HAc := HA4
          obtain ⟨count', hct⟩ : ∃ count' : Int, count = count' := ⟨_, rfl⟩
          obtain ⟨Wc, hWc⟩ : ∃ Wc, W4 = Wc := ⟨_, rfl⟩
          rcases hcase with hc1 | ⟨hc1, hc2⟩
          all_goals
            subst hct hWc
            clear hcl
            go_wp2_with fail
            clear hc1 hd0 hd1 hd2 hd3 hd4 hdf hx0 hx1 hx2 hxf0 hxf1 hxf2

            -- behind the count: A's cells are these, the world is W4
            have hRc := HRc.out
            have HRP := Lib.hid (rput_any k L _ key index count t W4 hRc HSc.out.2.1)
            go_wp2_with fail
            refine HRP.out.mono ?_
            rintro e W5 ⟨v5, rfl, hR5, hB5⟩
            obtain ⟨r, hrr⟩ : ∃ r, putS k L key index count (bl t) = r := ⟨_, rfl⟩
            have HRr := Lib.hid hrr
            rw [hrr] at hR5 ⊢
            have hfit5 : Fits r.1.2 := by rw [← hrr]; exact fits_put HFit.out key index count (bl t) (by rw [bl_len]; omega)
            have hby := put_bytes k L key index count (bl t)
            rw [hrr] at hby
            have HFit5 := Lib.hid hfit5
            have HBy := Lib.hid hby
            clear hrr hfit5 hby hRc
            obtain ⟨hv5, pv5, rfl, ⟨ha5, hc5, rfl, _⟩, ⟨pa5, pc5, rfl, _⟩⟩ := id hR5
            rw [hsV_len, psV_len] at hR5 ⊢
            have hsz5 := hB5.size
            have HR5 := Lib.hid hR5
            have HS5 := Lib.hid (HSc.out.belowAll hB5)
            have HCl5 := Lib.hid (HClc.out.belowAll hB5)
            have HX5 : Hid (W5.heap[px]? = some (.cells #[.int .i64 k, .slice ha L.length hc, .slice pa L.length pc] 33 (0, 0))) := Lib.hid ((hB5.block px (Array.getElem?_eq_some_iff.1 HXc.out).1).trans HXc.out)
            have HA5 : Hid (W5.heap[pA]? = some (.cells #[.bool false, .int .i64 key, .int .i64 index, .int .i64 count, .string dd] 35 (0, 0))) := Lib.hid ((hB5.block pA (Array.getElem?_eq_some_iff.1 HAc.out).1).trans HAc.out)
            have HBel5 := Lib.hid (HBelc.out.trans (hB5.mono HBelc.out.size))
            -- y in a block of its own, and x = y
            have hy := World.alloc_heap_new W5 (.cells #[.int .i64 r.1.1, .slice ha5 r.1.2.length hc5, .slice pa5 r.1.2.length pc5] 33)
            have hb6 : Below W5.heap.size W5 (W5.alloc (.cells #[.int .i64 r.1.1, .slice ha5 r.1.2.length hc5, .slice pa5 r.1.2.length pc5] 33)) := (Below.refl _ _).alloc (Nat.le_refl _) _
            have hpx5 : px < W5.heap.size := (Array.getElem?_eq_some_iff.1 HX5.out).1
            have hpA5 : pA < W5.heap.size := (Array.getElem?_eq_some_iff.1 HA5.out).1
            have hxc0 : W5.cell? ⟨px, 0, none⟩ = some (.int .i64 k) := by rw [Lib.cell_of_heap HX5.out]; rfl
            have hxc1 : W5.cell? ⟨px, 1, none⟩ = some (.slice ha L.length hc) := by rw [Lib.cell_of_heap HX5.out]; rfl
            have hxc2 : W5.cell? ⟨px, 2, none⟩ = some (.slice pa L.length pc) := by rw [Lib.cell_of_heap HX5.out]; rfl
            have hxf := fun j => Lib.frozen_of_heap HX5.out j
            have hxf0 := hxf 0
            have hxf1 := hxf 1
            have hxf2 := hxf 2
            have hac1 : W5.cell? ⟨pA, 1, none⟩ = some (.int .i64 key) := by rw [Lib.cell_of_heap HA5.out]; rfl
            have hac2 : W5.cell? ⟨pA, 2, none⟩ = some (.int .i64 index) := by rw [Lib.cell_of_heap HA5.out]; rfl
            have hac3 : W5.cell? ⟨pA, 3, none⟩ = some (.int .i64 count) := by rw [Lib.cell_of_heap HA5.out]; rfl
            have hneA : ¬ px = pA := by have h := hXA; intro e; exact h e.symm
            have hneA' : ¬ pA = px := hXA
            clear hR5 hB5 hy hb6 hxf
            have hX6 := setX_at (a := .int .i64 r.1.1) (b := .slice ha5 (List.length r.1.2) hc5) (c := .slice pa5 (List.length r.1.2) pc5) HX5.out
            have HS6a := Lib.hid (HS5.out.setX (a := .int .i64 r.1.1) (b := .slice ha5 (List.length r.1.2) hc5) (c := .slice pa5 (List.length r.1.2) pc5) HX5.out)
            have HC6a := Lib.hid (HCl5.out.setX (a := .int .i64 r.1.1) (b := .slice ha5 (List.length r.1.2) hc5) (c := .slice pa5 (List.length r.1.2) pc5) HX5.out)
            have HR6a := Lib.hid (HR5.out.setX (px := px) (a := .int .i64 r.1.1) (b := .slice ha5 (List.length r.1.2) hc5) (c := .slice pa5 (List.length r.1.2) pc5) hxc0)
            have HB6a := Lib.hid (setX_below (px := px) (a := .int .i64 r.1.1) (b := .slice ha5 (List.length r.1.2) hc5) (c := .slice pa5 (List.length r.1.2) pc5) HBel5.out (by omega))
            have HX6a := Lib.hid hX6
            clear hX6
            go_wp2_with fail
            obtain ⟨WX, hWX⟩ : ∃ WX, setX px (.int .i64 r.1.1) (.slice ha5 (List.length r.1.2) hc5) (.slice pa5 (List.length r.1.2) pc5) W5 = WX := ⟨_, rfl⟩
            have hWX' := hWX
            unfold setX at hWX'
            rw [hWX] at HS6a HC6a HR6a HB6a HX6a
            rw [hWX']
            clear hWX hWX' hxc0 hxc1 hxc2 hxf0 hxf1 hxf2 hac1 hac2 hac3 hpx5 hpA5
            have hb6 : Below WX.heap.size WX (WX.alloc (.cells #[.int .i64 r.1.1, .slice ha5 (List.length r.1.2) hc5, .slice pa5 (List.length r.1.2) pc5] 33)) := (Below.refl _ _).alloc (Nat.le_refl _) _
            have HB6 := Lib.hid (HB6a.out.trans (hb6.mono HB6a.out.size))
            have HS6 := Lib.hid (HS6a.out.belowAll hb6)
            have HC6 := Lib.hid (HC6a.out.belowAll hb6)
            have HR6 := Lib.hid (HR6a.out.below hb6)
            have HX6 : Hid ((WX.alloc (.cells #[.int .i64 r.1.1, .slice ha5 (List.length r.1.2) hc5, .slice pa5 (List.length r.1.2) pc5] 33)).heap[px]? = some (.cells #[.int .i64 r.1.1, .slice ha5 (List.length r.1.2) hc5, .slice pa5 (List.length r.1.2) pc5] 33 (0, 0))) := Lib.hid (heap_old _ _ _ _ HX6a.out)
            obtain ⟨W6, hW6⟩ : ∃ W6, WX.alloc (.cells #[.int .i64 r.1.1, .slice ha5 (List.length r.1.2) hc5, .slice pa5 (List.length r.1.2) pc5] 33) = W6 := ⟨_, rfl⟩
            rw [hW6] at HB6 HS6 HC6 HR6 HX6 ⊢
            clear hb6 hW6 HB6a HS6a HC6a HR6a HX6a
            have hPP := put_any p mo k L key index count t W6 HS6.out
            rw [HRr.out] at hPP
            have HPP := Lib.hid hPP
            clear hPP
            refine HPP.out.mono ?_
            rintro e W7 ⟨rfl, mo7, hS7, hmo7, hT7⟩
            have hpxn := px_ne HS6.out HX6.out
            have HX7 : Hid (W7.heap[px]? = some (.cells #[.int .i64 r.1.1, .slice ha5 (List.length r.1.2) hc5, .slice pa5 (List.length r.1.2) pc5] 33 (0, 0))) := Lib.hid ((hT7.block px (Array.getElem?_eq_some_iff.1 HX6.out).1 hpxn.1 hpxn.2).trans HX6.out)
            have HR7 := Lib.hid (HR6.out.turned HS6.out hT7)
            have HC7 := Lib.hid (HC6.out.other hT7 hfresh.out.1 hfresh.out.2.1 hfresh.out.2.2)
            have HS7 := Lib.hid hS7
            have HBl7 := Lib.hid (HB6.out.trans (hT7.below hwp HMo.out HB6.out.size))
            have HMo7 : Hid (∀ b, mo7 = some b → w.heap.size ≤ b) := Lib.hid (fun b e => by
              rcases hmo7 with h | ⟨b', h, h'⟩
              · rw [h] at e; exact HMo.out b e
              · rw [h] at e; cases e; exact Nat.le_trans HB6.out.size h')
            clear hS7 hmo7 hT7 hpxn HPP
            have HBc7 := Lib.hid (bytes_any q mq k L W7 HC7.out HFit.out)
            go_wp2_with fail
            refine HBc7.out.mono ?_
            rintro e W8 ⟨rfl, hB8⟩
            have HS8 := Lib.hid (HS7.out.belowAll hB8)
            have HC8 := Lib.hid (HC7.out.belowAll hB8)
            have HR8 := Lib.hid (HR7.out.below hB8)
            have HX8 : Hid (W8.heap[px]? = some (.cells #[.int .i64 r.1.1, .slice ha5 (List.length r.1.2) hc5, .slice pa5 (List.length r.1.2) pc5] 33 (0, 0))) := Lib.hid ((hB8.block px (Array.getElem?_eq_some_iff.1 HX7.out).1).trans HX7.out)
            have HBl8 := Lib.hid (HBl7.out.trans (hB8.mono HBl7.out.size))
            have HBs8 := Lib.hid (bytes_any p mo7 r.1.1 r.1.2 W8 HS8.out HFit5.out)
            clear hB8 HBc7
            go_wp2_with fail
            refine HBs8.out.mono ?_
            rintro e W9 ⟨rfl, hB9⟩
            have HS9 := Lib.hid (HS8.out.belowAll hB9)
            have HC9 := Lib.hid (HC8.out.belowAll hB9)
            have HR9 := Lib.hid (HR8.out.below hB9)
            have HX9 : Hid (W9.heap[px]? = some (.cells #[.int .i64 r.1.1, .slice ha5 (List.length r.1.2) hc5, .slice pa5 (List.length r.1.2) pc5] 33 (0, 0))) := Lib.hid ((hB9.block px (Array.getElem?_eq_some_iff.1 HX8.out).1).trans HX8.out)
            have HBl9 := Lib.hid (HBl8.out.trans (hB9.mono HBl8.out.size))
            have HIs9 := Lib.hid (is_any p mo7 r.1.1 r.1.2 _ W9 HS9.out HR9.out HFit5.out)
            have hz0 : W9.cell? ⟨px, 0, none⟩ = some (.int .i64 r.1.1) := by rw [Lib.cell_of_heap HX9.out]; rfl
            have hz1 : W9.cell? ⟨px, 1, none⟩ = some (.slice ha5 (List.length r.1.2) hc5) := by rw [Lib.cell_of_heap HX9.out]; rfl
            have hz2 : W9.cell? ⟨px, 2, none⟩ = some (.slice pa5 (List.length r.1.2) pc5) := by rw [Lib.cell_of_heap HX9.out]; rfl
            clear hB9 HBs8
            by_cases hgt : bytesS r.1.2 < bytesS L
            · have hkne : r.1.1 ≠ k := by
                rcases HBy.out with h | h
                · exact h
                · omega
              have hkf : (k == r.1.1) = false := by rw [beq_eq_false_iff_ne]; exact fun e => hkne e.symm
              have hgti : (bytesS r.1.2 : Int) < bytesS L := by omega
              have HKq := Lib.hid (key_any q mq k L W9 HC9.out)
              have HKp := Lib.hid (key_any p mo7 r.1.1 r.1.2 W9 HS9.out)
              clear hkne
              go_wp2_with fail
              refine HKq.out.mono ?_
              rintro e w' ⟨rfl, rfl⟩
              go_wp2_with fail
              refine HKp.out.mono ?_
              rintro e w' ⟨rfl, rfl⟩
              go_wp2_with fail
              refine HIs9.out.mono ?_
              rintro e W10 ⟨rfl, hB10⟩
              have HI10 : Hid (PlayI w p px W10) := Lib.hid ⟨mo7, r.1.1, r.1.2, ha5, hc5, pa5, pc5, HS9.out.belowAll hB10, HMo7.out, (hB10.block px (Array.getElem?_eq_some_iff.1 HX9.out).1).trans HX9.out, HR9.out.below hB10, HFit5.out, HBl9.out.trans (hB10.mono HBl9.out.size)⟩
              clear hB10
              go_wp2
              go_roundw
              case rel => exact ⟨n + 1, by omega, by omega, by go_num, HI10⟩
              case measure => simp [intOf]; omega
            · have hgti : ¬ (bytesS r.1.2 : Int) < bytesS L := by omega
              go_wp2_with fail
              refine HIs9.out.mono ?_
              rintro e W10 ⟨rfl, hB10⟩
              have HI10 : Hid (PlayI w p px W10) := Lib.hid ⟨mo7, r.1.1, r.1.2, ha5, hc5, pa5, pc5, HS9.out.belowAll hB10, HMo7.out, (hB10.block px (Array.getElem?_eq_some_iff.1 HX9.out).1).trans HX9.out, HR9.out.below hB10, HFit5.out, HBl9.out.trans (hB10.mono HBl9.out.size)⟩
              clear hB10
              go_wp2
              go_roundw
              case rel => exact ⟨n + 1, by omega, by omega, by go_num, HI10⟩
              case measure => simp [intOf]; omega

    · have hcase : len ≤ n ∨ (n < len ∧ 40 ≤ n) := by omega
      obtain ⟨mo, k, L, ha, hc, pa, pc, _, _, _, _, _, hBel⟩ := HI.out
      have HBel := Lib.hid hBel
      clear hBel hlt
      rcases hcase with hge | ⟨hk1, hge⟩
      all_goals
        go_wp2
        go_ret
        exact ⟨rfl, HBel.out⟩

namespace PartsPlayDone
open Go.ChangeShapes Go.WideShapes Go.ChangeAt Go.RowKit
open Go.ChangeMaps (open_string shut_string)
theorem own : ownKnob Try.prog.godebug = none := by kernel_rfl
theorem laidOut : laidOutB Try.prog = true := by kernel_rfl
set_option maxRecDepth 100000 in
theorem lifted (os : Os) (started : os.Started) (H : Type) (enc : TypeId × Value → H) :
    ReturnsInHanded {} Try.checked os 4 .any (Rows.partsPlaySpec.pre6 enc Try.prog Try.f4 Rows.partsPlayRow.domain false) (Rows.partsPlaySpec.post enc Try.prog Try.f4 false true false false) := by
  refine returnsInHanded_of_change (C := Try.checked) own started (by kernel_rfl) Try.func4
    (ChangeSpec.witness6 (enc := enc) (C := Try.checked) false ⟨#[], #[.slice none 0 0], []⟩ 8 (by kernel_rfl) (by kernel_rfl) (by kernel_rfl) (by kernel_rfl)) ?_
  intro W base args ds gs before hval0 hW hcnd _
  have hval : ∀ (j : Nat) t v, Try.f4.params[j]? = some t → args[j]? = some v → Value.okWide Try.prog W .any base t v := hval0
  have hW' := hW
  obtain ⟨p, q, hA0, hV, rfl, hfz, hnd⟩ := hW
  have hA : DataW.TrodAll enc Try.prog W 0 (fun _ => true) true Try.f4.params.toList args.toList ds p := hA0
  rw [Try.params4] at hA hval
  obtain ⟨v0, vs0, d0, ds0, p0, q0, hargs, rfl, rfl, h0, r0⟩ := trodAll_cons hA
  obtain ⟨rfl, rfl, rfl⟩ := trodAll_nil r0
  obtain rfl : args = #[v0] := by cases args; simp_all
  obtain ⟨rfl, rfl⟩ := trodVars_none hV
  obtain ⟨a0, len0, cap0, rfl⟩ := okWide_slice Try.underlying27 (hval 0 27 v0 rfl rfl)
  have k0 := h0
  have lt0 : ∀ x ∈ p0, x.block < W.heap.size := by obtain ⟨m, hm⟩ := k0; exact DataW.trod_lt m _ _ _ hm
  clear hA0 hval0
  have hA : ActsIn a0 len0 W := by obtain ⟨fuel, hf⟩ := h0; exact open_acts hf
  refine (play_walk a0 len0 cap0 W hA).mono fun e W' ⟨he, bel⟩ => ?_
  subst he
  exact ⟨_, rfl, _, _, _, [], _, [], hW', trodAll_mk1 (shut_bool Try.underlying4 _), (trodAll_cons_mk (Below.trod laidOut (by kernel_rfl) (of_decide_eq_true (by kernel_rfl)) k0 bel lt0) trodAll_mk0), rfl, bel.frame _, fun h => by cases h⟩

theorem over : Rows.partsPlayRow.holds Try.pinned (OpenSpec.ofChange Rows.partsPlaySpec) :=
  OpenClaim.holds_of_wide 4 Try.f4 rfl rfl rfl rfl rfl rfl rfl ⟨rfl, rfl, rfl, rfl, rfl⟩ rfl rfl rfl rfl rfl (by kernel_rfl) Try.func4 (by kernel_rfl)
    (of_decide_eq_true (by kernel_rfl)) (by unfold Func.isWrapper; first | (rw [if_pos (by decide +kernel)]; kernel_rfl) | (rw [if_neg (by decide +kernel)]; exact ⟨rfl, rfl⟩))
    (fun os started H enc _ => lifted os started H enc)
end PartsPlayDone
theorem PartsPlay_holds : Rows.PartsPlaySaid := PartsPlayDone.over
#print axioms PartsPlay_holds

end Go.Proofs.Ytghnkpfnpidncaa
