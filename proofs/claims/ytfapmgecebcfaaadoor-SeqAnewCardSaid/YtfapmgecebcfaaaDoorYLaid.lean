/- What the row's list gives: the first bytes. -/
import Derived.Test.YtfapmgecebcfaaaDoorYLead
import Derived.Test.YtfapmgecebcfaaaDoorLaid
import Derived.ProofKit
namespace Go.Proofs.YtfapmgecebcfaaaDoor.Y

theorem gLeads : Tryd.prog.globalNamed "tidewrack/glyph.leads" = some 0 := by kernel_rfl
theorem gLeadsType : (Tryd.prog.globals[0]?).map (·.type) = some 79 := by kernel_rfl
theorem cLead : Tryd.prog.cellsOf 76 = 6 := by kernel_rfl
theorem cByte : Tryd.prog.cellsOf 5 = 1 := by kernel_rfl
theorem cInt : Tryd.prog.cellsOf 3 = 1 := by kernel_rfl
def rowD (x : Row) : DataW Unit := .agg [.lit (.int .u8 (x.1 : Int)), .lit (.int .u8 (x.2.1 : Int)), .lit (.int .u8 (x.2.2.1 : Int)), .lit (.int .i64 (x.2.2.2.1 : Int)), .lit (.int .u8 (x.2.2.2.2.1 : Int)), .lit (.int .u8 (x.2.2.2.2.2 : Int))]
theorem leads_data : (Rows.laid_tidewrack_glyph_leads : DataW Unit) = .agg (tab.map rowD) := rfl
theorem tab_of {rest : List (String × DataW Unit)} {W : World} (h : laidMet Tryd.prog (("tidewrack/glyph.leads", Rows.laid_tidewrack_glyph_leads) :: rest) W) : Tab W := by
  rw [leads_data] at h
  obtain ⟨cs, m, hv, hall⟩ := L.laid_head gLeads gLeadsType Tryd.underlying79 h
  intro k hk
  obtain ⟨d, q, hd, ht⟩ := hall k hk
  have hkl : k < tab.length := hk
  have e : d = rowD (tab.getD k zeroRow) := by
    rw [List.getElem?_map, List.getElem?_eq_getElem hkl] at hd
    simp only [Option.map_some, Option.some.injEq] at hd
    rw [← hd]
    simp [List.getD_eq_getElem?_getD, hkl]
  subst e
  unfold rowD at ht
  rw [cLead] at ht
  have f0 := L.trod_field Tryd.underlying76 ht 0 _ rfl Tryd.underlying5 cByte rfl
  have f1 := L.trod_field Tryd.underlying76 ht 1 _ rfl Tryd.underlying5 cByte rfl
  have f2 := L.trod_field Tryd.underlying76 ht 2 _ rfl Tryd.underlying5 cByte rfl
  have f3 := L.trod_field Tryd.underlying76 ht 3 _ rfl Tryd.underlying3 cInt rfl
  have f4 := L.trod_field Tryd.underlying76 ht 4 _ rfl Tryd.underlying5 cByte rfl
  have f5 := L.trod_field Tryd.underlying76 ht 5 _ rfl Tryd.underlying5 cByte rfl
  exact ⟨L.at_cell (k := k) (c := 6) (o := 0) gLeads hv (by decide) f0, L.at_cell (k := k) (c := 6) (o := 1) gLeads hv (by decide) f1, L.at_cell (k := k) (c := 6) (o := 2) gLeads hv (by decide) f2, L.at_cell (k := k) (c := 6) (o := 3) gLeads hv (by decide) f3, L.at_cell (k := k) (c := 6) (o := 4) gLeads hv (by decide) f4, L.at_cell (k := k) (c := 6) (o := 5) gLeads hv (by decide) f5⟩
end Go.Proofs.YtfapmgecebcfaaaDoor.Y
