/- The contract of flow.Text. -/
import Derived.Test.YtjlhinofglokoaaDoorFCnt
import Derived.Test.YtjlhinofglokoaaDoorYEnc
namespace Go.Proofs.YtjlhinofglokoaaDoor.F
open Go.RowKit H
open W (OwnR)

theorem conv_own {base : Nat} {v : Value} {zs : List Int} {V : World} (h : OwnR base v zs V) : (convert 69 9 v).run Tryd.prog V = .ok (.string (runesBytes zs)) V := by
  rcases h.2 with ⟨rfl, h0⟩ | ⟨g, cap, cur, rfl, _⟩
  · have hz : zs = [] := List.length_eq_zero_iff.1 h0
    subst hz
    exact run_convert_runes_nil (P := Tryd.prog) V 69 9 21 0 0 Tryd.underlying69 Tryd.underlying21 Tryd.underlying9
  · have hh := run_convert_runes (P := Tryd.prog) V 69 9 21 ⟨g, 0, none⟩ zs.length cap zs (Nat.le_refl _) Tryd.underlying69 Tryd.underlying21 Tryd.underlying9 (fun j hj => by
      have hadd : ((⟨g, 0, none⟩ : Addr).add j) = ⟨g, 0 + j, none⟩ := by unfold Addr.add; split <;> simp_all
      rw [hadd, Nat.zero_add, World.ownsRow.cellAt h j (by omega), List.getElem?_map, List.getElem?_eq_getElem hj, List.getD_eq_getElem?_getD, List.getElem?_eq_getElem hj]
      rfl)
    rw [List.take_length] at hh
    exact hh
set_option maxRecDepth 100000 in
theorem text_any (a : Option Addr) (n c : Nat) (l : List (Int × Int)) (w : World) (h : PairsIn .i32 a n c l w) (hn : (n : Int) ≤ 1000000) :
    Calls Tryd.prog 17 #[.slice a n c] w fun e w' => e = .returned (.string (runesBytes (runesF l))) ∧ Below w.heap.size w w' := by
  have HR := Lib.hid (runes_any a n c l w h hn)
  clear h
  go_enter Tryd.func17, Tryd.ntmps17
  go_wp2_with fail
  refine HR.out.mono ?_
  rintro e w2 ⟨v, rfl, hown, hb2⟩
  have hcv := conv_own hown
  have HB := Lib.hid hb2
  clear hown hb2
  go_wp2_with fail
  go_ret
  exact ⟨rfl, HB.out⟩
end Go.Proofs.YtjlhinofglokoaaDoor.F
