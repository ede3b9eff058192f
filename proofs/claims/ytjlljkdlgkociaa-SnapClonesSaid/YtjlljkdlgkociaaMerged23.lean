/- The contract of snap's copied: rows in memory of their own. -/
import Derived.Test.YtjlljkdlgkociaaNRdRow
import Derived.Test.YtjlljkdlgkociaaBRows
import Derived.Test.YtjlljkdlgkociaaMerged5
import Derived.Test.YtjlljkdlgkociaaRows
import Derived.Test.YtjlljkdlgkociaaMerged0
import Derived.WalkKit
import Derived.WalkLawsBesides
import Derived.WalkSpells
import Derived.Outline
import Derived.Lib.Hide
import Derived.Below
import Derived.Deep.RegionWith
import Derived.Laws.IdiomStrings
import Derived.Test.YtjlljkdlgkociaaMerged19
namespace Go.Proofs.Ytjlljkdlgkociaa.K
open Go.RowKit Go.Proofs.Ytjlljkdlgkociaa.I

/-- the region's state -/
def Cs5 (rb : Nat) (v0 : Value) (rs : List Ro) (r : Ro) (xb : Bool) (w : World) : Nat → (Nat → Value) → World → Prop
  | 0, _, u => Rw0 rb v0 rs w u
  | 1, f, u => Rw0 rb v0 rs w u ∧ ∃ a c, f 15 = .slice a r.l.length c ∧ RowV .i32 (.agg #[.slice a r.l.length c, .bool xb]) r u ∧ ∀ b o, a = some ⟨b, o, none⟩ → (∀ q, v0.ownBlock = some q → b ≠ q) ∧ rb ≤ b ∧ b < u.heap.size
  | 2, f, u => Rw0 rb v0 rs w u ∧ ∃ a n c, f 18 = .agg #[.slice a n c, .bool xb] ∧ RowV .i32 (.agg #[.slice a n c, .bool xb]) r u ∧ ∀ b o, a = some ⟨b, o, none⟩ → (∀ q, v0.ownBlock = some q → b ≠ q) ∧ rb ≤ b ∧ b < u.heap.size
  | 3, f, u => Rw0 rb v0 rs w u ∧ ∃ q, f 19 = .slice (some ⟨q, 0, none⟩) 1 1 ∧ ∃ a n c, u.heap[q]? = some (.cells #[.slice a n c, .bool xb] 50 (0, 0)) ∧ RowV .i32 (.agg #[.slice a n c, .bool xb]) r u ∧ ∀ b o, a = some ⟨b, o, none⟩ → (∀ q, v0.ownBlock = some q → b ≠ q) ∧ rb ≤ b ∧ b < u.heap.size
  | 4, f, u => ∃ v, f 20 = v ∧ Rw0 rb v (rs ++ [r]) w u
  | _, f, u => ∃ v, f 3 = v ∧ Rw0 rb v (rs ++ [r]) w u
theorem Cs5.cong {rb : Nat} {v0 : Value} {rs : List Ro} {r : Ro} {xb : Bool} {w u : World} {k : Nat} {f f2 : Nat → Value} (e1 : k = 1 → f 15 = f2 15) (e2 : k = 2 → f 18 = f2 18) (e3 : k = 3 → f 19 = f2 19) (e4 : k = 4 → f 20 = f2 20) (e5 : 5 ≤ k → f 3 = f2 3) (h : Cs5 rb v0 rs r xb w k f u) : Cs5 rb v0 rs r xb w k f2 u := by
  match k, h, e1, e2, e3, e4, e5 with
  | 0, h, _, _, _, _, _ => exact h
  | 1, ⟨h, a, c, e, h2⟩, e1, _, _, _, _ => exact ⟨h, a, c, by rw [← e1 rfl]; exact e, h2⟩
  | 2, ⟨h, a, n, c, e, h2⟩, _, e2, _, _, _ => exact ⟨h, a, n, c, by rw [← e2 rfl]; exact e, h2⟩
  | 3, ⟨h, q, e, h2⟩, _, _, e3, _, _ => exact ⟨h, q, by rw [← e3 rfl]; exact e, h2⟩
  | 4, ⟨v, e, h⟩, _, _, _, e4, _ => exact ⟨v, by rw [← e4 rfl]; exact e, h⟩
  | _ + 5, ⟨v, e, h⟩, _, _, _, _, e5 => exact ⟨v, by rw [← e5 (by omega)]; exact e, h⟩
def CoOk5 (oa : Option Addr) (oc j gb : Nat) (xa : Option Addr) (xn xc : Nat) (xb : Bool) : Nat → Value → World → Prop
  | 0, u, _ => u = .slice oa j oc
  | 1, u, _ => u = .pointer (some ⟨gb, 0, none⟩)
  | 2, u, _ => u = .slice xa xn xc
  | 3, _, _ => True
  | 4, u, _ => u = .pointer (some ⟨gb, 1, none⟩)
  | 5, u, _ => u = .bool xb
  | 6, _, _ => True
  | 7, _, _ => True
  | 8, _, _ => True
  | 9, _, _ => True
  | _, _, _ => True
set_option maxRecDepth 100000 in
set_option maxHeartbeats 16000000 in
theorem ncopied_any (aa : Option Addr) (na ca : Nat) (l0 : List Ro) (w : World) (hA : RowsL .i32 [] aa na ca l0 w) (hm : l0.length ≤ 1000) (hcs : ∀ r ∈ l0, r.l.length ≤ 1000000) :
    Calls Try.prog 50 #[.slice aa na ca] w fun e w' => ∃ v, e = .returned v ∧ GatR w.heap.size v l0 w' ∧ Below w.heap.size w w' := by
  obtain ⟨rb, hrb⟩ : ∃ rb, w.heap.size = rb := ⟨_, rfl⟩
  rw [hrb]
  obtain ⟨P, hP⟩ : ∃ P : Ending → World → Prop, (fun e w' => ∃ v, e = .returned v ∧ GatR rb v l0 w' ∧ Below rb w w') = P := ⟨_, rfl⟩
  rw [hP]
  have HP := Lib.hid hP
  have HRb := Lib.hid hrb
  have hlen := hA.len
  have HLn := Lib.hid hlen
  have hnI : (na : Int) ≤ 1000 := by omega
  have HA := Lib.hid hA
  have HCs := Lib.hid hcs
  have HM := Lib.hid hm
  clear hP hrb hA hlen hcs hm
  go_enter Try.func50, Try.ntmps50
  go_wp2_with fail
  go_loopw [3, 8] (fun u i wr => ∃ j : Nat, i = .int .i64 (j : Int) ∧ j ≤ na ∧ Hid (Rw0 rb u (l0.take j) w wr)) (fun _ i _ => na - (intOf i).toNat)
  case atStart => exact ⟨0, rfl, Nat.zero_le _, Lib.hid ⟨GatR.nil _ _, Below.refl _ _, by rw [HRb.out]; exact Nat.le_refl _⟩⟩
  case round =>
    obtain ⟨j, rfl, hj, HF⟩ := hrel
    by_cases hlt : j < na
    · have hd : decide (j < na) = true := decide_eq_true hlt
      have hjI : (j : Int) < na := by omega
      have hjl : j < l0.length := by rw [← HLn.out]; exact hlt
      obtain ⟨us0, hin, hrv, -⟩ := HA.out.ex
      have hju : j < us0.length := by rw [hrv.1]; exact hjl
      obtain ⟨ab, ao, rfl, hab, hAt⟩ := hin.at_.resolve_left (by intro e; rw [e] at hju; simp at hju)
      have hat := hAt j us0[j] (List.getElem?_eq_getElem hju)
      have hrj := hrv.2 j us0[j] l0[j] (List.getElem?_eq_getElem hju) (List.getElem?_eq_getElem hjl)
      have hcj := HCs.out l0[j] (List.getElem_mem hjl)
      have htk := List.take_succ_eq_append_getElem hjl
      obtain ⟨⟨xa, xn, xc, xb⟩, hu⟩ : ∃ u, us0[j] = u := ⟨_, rfl⟩
      obtain ⟨r, hre⟩ : ∃ r, l0[j] = r := ⟨_, rfl⟩
      rw [hu] at hat hrj
      rw [hre] at hrj htk hcj
      unfold Rv.val at hrj
      simp only at hrj hat
      obtain ⟨hxb, hcl, hnl, hft, htp, hxl⟩ := hrj.of
      have hab' : ab < rb := by rw [← HRb.out]; exact hab
      have k0 : wr.cell? ⟨ab, ao + j * 2, none⟩ = some (.slice xa xn xc) := (HF.out.b.cell (p := ⟨ab, ao + j * 2, none⟩) hab').trans hat.1
      have k1 : wr.cell? ⟨ab, ao + j * 2 + 1, none⟩ = some (.bool xb) := (HF.out.b.cell (p := ⟨ab, ao + j * 2 + 1, none⟩) hab').trans hat.2
      have HCl := Lib.hid hcl
      have HNl := Lib.hid hnl
      have HXb := Lib.hid hxb
      have HXn : Hid ((xn : Int) ≤ 1000000) := Lib.hid (by omega)
      obtain ⟨rs, hrs⟩ : ∃ rs, l0.take j = rs := ⟨_, rfl⟩
      have hrl : rs.length = j := by rw [← hrs, List.length_take]; omega
      rw [hrs] at HF htk
      obtain ⟨oa, oc, rfl⟩ := HF.out.g.shape
      rw [hrl] at HF ⊢
      have HJl : Hid (rs.length ≤ 1000) := Lib.hid (by rw [hrl]; have := HM.out; omega)
      have HNx := Lib.hid htk
      obtain ⟨gb, hgb⟩ : ∃ gb, wr.heap.size = gb := ⟨_, rfl⟩
      obtain ⟨w5, hw5⟩ : ∃ w5, wr.alloc (.cells #[.slice xa xn xc, .bool xb] 50) = w5 := ⟨_, rfl⟩
      have hn5 : w5.heap[gb]? = some (.cells #[.slice xa xn xc, .bool xb] 50 (0, 0)) := by rw [← hw5, ← hgb]; exact heap_alloc_new wr _
      have hb5 : Below wr.heap.size wr w5 := by rw [← hw5]; exact (Below.refl _ _).alloc (Nat.le_refl _) _
      have h0 := HF.out.below hb5
      have HGo : Hid ((Value.slice oa j oc).ownBlock ≠ some gb) := Lib.hid (fun e => by have := (HF.out.own gb e).2; omega)
      have H0 := Lib.hid h0
      have HW5 := Lib.hid hw5
      have HGb := Lib.hid hgb
      have HN5 := Lib.hid hn5
      clear hjl hin hrv hju hAt hat hrj hcj htk hu hre hcl hnl hft htp hxl hxb hab hab' hrs hrl hgb hw5 hn5 hb5 h0 HF
      go_upto_region 5 with fail
      rw [HW5.out, HGb.out]
      clear k0 k1
      refine Go.Proofs.Ytjlljkdlgkociaa.R.wp_region_kept [3, 6, 7, 8, 9] [3, 0, 0, 1, 1, 1, 2, 3, 4, 5] (by kernel_rfl) (fun k f u => Cs5 rb (.slice oa j oc) rs r xb w k f u ∧ u.heap[gb]? = some (.cells #[.slice xa xn xc, .bool xb] 50 (0, 0))) (fun _ _ => True) (CoOk5 oa oc j gb xa xn xc xb) (by rfl) (by kernel_rfl) (by kernel_rfl) (by kernel_rfl) (by kernel_rfl) ?hcong ?hOk ?hop ?hdone ?h0
      case hcong => exact fun k f f2 u hs hst => ⟨Cs5.cong (fun hk => hs 15 (Go.Proofs.Ytjlljkdlgkociaa.R.mem_slots (by subst hk; kernel_rfl))) (fun hk => hs 18 (Go.Proofs.Ytjlljkdlgkociaa.R.mem_slots (by subst hk; kernel_rfl))) (fun hk => hs 19 (Go.Proofs.Ytjlljkdlgkociaa.R.mem_slots (by subst hk; kernel_rfl))) (fun hk => hs 20 (Go.Proofs.Ytjlljkdlgkociaa.R.mem_slots (by subst hk; kernel_rfl))) (fun hk => hs 3 (by rw [Go.Proofs.Ytjlljkdlgkociaa.R.slotsP_all hk]; exact Go.Proofs.Ytjlljkdlgkociaa.R.mem_slots (by kernel_rfl))) hst.1, hst.2⟩
      case hOk => intro i u w1 w2 h hr; unfold CoOk5 at h ⊢; split <;> first | exact True.intro | exact h
      case h0 => exact ⟨H0.out.below ((Below.refl _ _).drew), HN5.out⟩
      case hop =>
        refine ⟨?_, ?_, ?_, ?_, ?_, ?_, ?_, ?_, ?_, ?_, trivial⟩
        · intro k z v hk hst hag hdep hfr
          refine .inl ⟨rfl, fun K hK => ?_⟩
          have d3 : z.tmps.getD 3 undef = .slice oa j oc := hfr 3 (by kernel_rfl)
          have e3 := d3
          rw [Array.getD_eq_getD_getElem?] at e3
          have HSt := Lib.hid hst
          clear hdep hfr hag hst
          go_simp
          exact hK _ _ trivial rfl HSt.out
        · intro k z v hk hst hag hdep hfr
          refine .inl ⟨rfl, fun K hK => ?_⟩
          have d5 : z.tmps.getD 5 undef = .pointer (some ⟨gb, 0, none⟩) := hag.2.2 5 (by kernel_rfl)
          have e5 := d5
          rw [Array.getD_eq_getD_getElem?] at e5
          have HSt := Lib.hid hst
          clear hdep hfr hag hst
          go_simp
          exact hK _ _ trivial rfl HSt.out
        · intro k z v hk hst hag hdep hfr
          refine .inl ⟨rfl, fun K hK => ?_⟩
          have d13 : z.tmps.getD 13 undef = .pointer (some ⟨gb, 0, none⟩) := hdep { on := 1, ground := .data } (by simp) rfl _ _ rfl rfl
          have e13 := d13
          rw [Array.getD_eq_getD_getElem?] at e13
          have l0 : v.cell? ⟨gb, 0, none⟩ = some (.slice xa xn xc) := by rw [cell_block hst.2]; rfl
          have HSt := Lib.hid hst
          clear hdep hfr hag hst
          go_simp
          exact hK _ _ trivial rfl HSt.out
        · intro z v hst hag hdep hfr
          refine ⟨rfl, fun K hK => ?_⟩
          have d14 : z.tmps.getD 14 undef = .slice xa xn xc := hdep { on := 2, ground := .data } (by simp) rfl _ _ rfl rfl
          have e14 := d14
          rw [Array.getD_eq_getD_getElem?] at e14
          have h0 : Rw0 rb (.slice oa j oc) rs w v := hst.1
          have HGk := Lib.hid hst.2
          have HC := Lib.hid (clone_any xa xn xc r.l v (HCl.out.belowAll (by rw [HRb.out]; exact h0.b)) HNl.out HXn.out)
          have hsz : 15 < z.tmps.size := by rw [hag.2.1]; show 15 < 23; decide
          have HSt := Lib.hid h0
          clear hdep hfr hag h0 hst
          go_simp
          refine HC.out.mono ?_
          rintro e w' ⟨v2, rfl, hO, hb⟩
          obtain ⟨a4, c4, rfl, hi4, hlo4, hn4, hf4, hx4⟩ := hO.shape
          exact hK _ _ trivial True.intro ⟨⟨HSt.out.below hb, a4, c4, Go.Proofs.Ytjlljkdlgkociaa.R.slot_same hsz, ⟨a4, c4, by rw [HXb.out], hi4, hn4, hf4, hx4⟩, fun b o e => ⟨fun q hq e2 => by have h1 := (hlo4 b o e).1; have h2 := (HSt.out.own q hq).2; omega, by have h1 := (hlo4 b o e).1; have h2 := HSt.out.m; omega, (hlo4 b o e).2.1⟩⟩, (hb.block gb (Array.getElem?_eq_some_iff.1 HGk.out).1).trans HGk.out⟩
        · intro k z v hk hst hag hdep hfr
          refine .inl ⟨rfl, fun K hK => ?_⟩
          have d5 : z.tmps.getD 5 undef = .pointer (some ⟨gb, 0, none⟩) := hag.2.2 5 (by kernel_rfl)
          have e5 := d5
          rw [Array.getD_eq_getD_getElem?] at e5
          have HSt := Lib.hid hst
          clear hdep hfr hag hst
          go_simp
          exact hK _ _ trivial rfl HSt.out
        · intro k z v hk hst hag hdep hfr
          refine .inl ⟨rfl, fun K hK => ?_⟩
          have d16 : z.tmps.getD 16 undef = .pointer (some ⟨gb, 1, none⟩) := hdep { on := 4, ground := .data } (by simp) rfl _ _ rfl rfl
          have e16 := d16
          rw [Array.getD_eq_getD_getElem?] at e16
          have l1 : v.cell? ⟨gb, 1, none⟩ = some (.bool xb) := by rw [cell_block hst.2]; rfl
          have HSt := Lib.hid hst
          clear hdep hfr hag hst
          go_simp
          exact hK _ _ trivial rfl HSt.out
        · intro z v hst hag hdep hfr
          refine ⟨rfl, fun K hK => ?_⟩
          have d17 : z.tmps.getD 17 undef = .bool xb := hdep { on := 5, ground := .data } (by simp) rfl _ _ rfl rfl
          have e17 := d17
          rw [Array.getD_eq_getD_getElem?] at e17
          obtain ⟨⟨h0, a4, c4, f15, hrow, hlt4⟩, hgk⟩ := hst
          have HGk := Lib.hid hgk
          obtain ⟨n4, hn4⟩ : ∃ n, r.l.length = n := ⟨_, rfl⟩
          rw [hn4] at f15 hrow
          have d15 : z.tmps.getD 15 undef = .slice a4 n4 c4 := f15
          have e15 := d15
          rw [Array.getD_eq_getD_getElem?] at e15
          have hsz : 18 < z.tmps.size := by rw [hag.2.1]; show 18 < 23; decide
          have HSt := Lib.hid h0
          have HLt := Lib.hid hlt4
          have HRow := Lib.hid hrow
          clear hdep hfr hag h0 f15 hrow hlt4 hn4 hgk
          go_simp
          exact hK _ _ trivial True.intro ⟨⟨HSt.out, a4, n4, c4, Go.Proofs.Ytjlljkdlgkociaa.R.slot_same hsz, HRow.out, HLt.out⟩, HGk.out⟩
        · intro z v hst hag hdep hfr
          refine ⟨rfl, fun K hK => ?_⟩
          obtain ⟨⟨h0, a4, n4, c4, f18, hrow, hlt4⟩, hgk⟩ := hst
          have HGk := Lib.hid hgk
          have d18 : z.tmps.getD 18 undef = .agg #[.slice a4 n4 c4, .bool xb] := f18
          have e18 := d18
          rw [Array.getD_eq_getD_getElem?] at e18
          have hsz : 19 < z.tmps.size := by rw [hag.2.1]; show 19 < 23; decide
          have HSt := Lib.hid h0
          have HLt := Lib.hid hlt4
          have HRow := Lib.hid hrow
          clear hdep hfr hag h0 f18 hrow hlt4 hgk
          go_simp
          have hb : Below v.heap.size v (v.alloc (.cells #[.slice a4 n4 c4, .bool xb] 50)) := (Below.refl _ _).alloc (Nat.le_refl _) _
          exact hK _ _ trivial True.intro ⟨⟨HSt.out.below hb, v.heap.size, Go.Proofs.Ytjlljkdlgkociaa.R.slot_same hsz, a4, n4, c4, heap_alloc_new v _, HRow.out.belowAll hb, fun b o e => ⟨(HLt.out b o e).1, (HLt.out b o e).2.1, Nat.lt_of_lt_of_le (HLt.out b o e).2.2 hb.size⟩⟩, (hb.block gb (Array.getElem?_eq_some_iff.1 HGk.out).1).trans HGk.out⟩
        · intro z v hst hag hdep hfr
          refine ⟨rfl, fun K hK => ?_⟩
          have d12 : z.tmps.getD 12 undef = .slice oa j oc := hdep { on := 0, ground := .data } (by simp) rfl _ _ rfl rfl
          have e12 := d12
          rw [Array.getD_eq_getD_getElem?] at e12
          obtain ⟨⟨h0, q, f19, hR⟩, hgk⟩ := hst
          have HGk := Lib.hid hgk
          have d19 : z.tmps.getD 19 undef = .slice (some ⟨q, 0, none⟩) 1 1 := f19
          have hsz : 20 < z.tmps.size := by rw [hag.2.1]; show 20 < 23; decide
          have HSt := Lib.hid h0
          obtain ⟨a4, n4, c4, hq4, hrow, hlt4⟩ := hR
          refine wp_append_row rowsT _ _ rfl rfl rb (.slice oa j oc) rs q a4 n4 c4 xb r d12 d19 HSt.out.g hq4 hrow hlt4 HJl.out HSt.out.m ?_
          intro v' w' k1 k2
          exact hK _ _ trivial True.intro ⟨⟨v', Go.Proofs.Ytjlljkdlgkociaa.R.slot_same hsz, HSt.out.grows k1 k2⟩, (k2.block gb (Array.getElem?_eq_some_iff.1 HGk.out).1 (fun e => by
                  obtain ⟨us, h1, -⟩ := HSt.out.g.ex
                  exact HGo.out e.symm)).trans HGk.out⟩
        · intro z v hst hag hdep hfr
          refine ⟨rfl, fun K hK => ?_⟩
          obtain ⟨⟨v7, f20, h7⟩, hgk⟩ := hst
          have HGk := Lib.hid hgk
          have d20 : z.tmps.getD 20 undef = v7 := f20
          have e20 := d20
          rw [Array.getD_eq_getD_getElem?] at e20
          have hsz : 3 < z.tmps.size := by rw [hag.2.1]; show 3 < 23; decide
          have HSt := Lib.hid h7
          clear hdep hfr hag h7 f20 hgk
          go_simp
          exact hK _ _ trivial True.intro ⟨⟨_, Go.Proofs.Ytjlljkdlgkociaa.R.slot_same hsz, HSt.out⟩, HGk.out⟩
      case hdone =>
        intro z v hst hag hok
        obtain ⟨v9, f9, h9⟩ : ∃ v9, z.tmps.getD 3 undef = v9 ∧ Rw0 rb v9 (rs ++ [r]) w v := hst.1
        have d3 : z.tmps.getD 3 undef = v9 := f9
        have HE : Hid (Rw0 rb v9 (l0.take (j + 1)) w v) := Lib.hid (by rw [HNx.out]; exact h9)
        clear f9 h9 hst
        obtain ⟨uu, hu, hzz⟩ := Go.Proofs.Ytjlljkdlgkociaa.R.agree_frame [12, 13, 14, 15, 16, 17, 18, 19, 20, 3] rfl hag
        have e3 := (hu 3).trans d3
        subst hzz
        simp only [List.foldl_cons, List.foldl_nil]
        rw [e3]
        clear e3 d3 hu hag hok
        try dsimp only [Exit.then]
        simp only [List.setIfInBounds_toArray, List.set_cons_succ, List.set_cons_zero]
        generalize uu 12 = u12', uu 13 = u13', uu 14 = u14', uu 15 = u15', uu 16 = u16', uu 17 = u17', uu 18 = u18', uu 19 = u19', uu 20 = u20'
        clear uu
        rename_i K hK
        refine hK _ _ ?_
        go_wp2_with fail
        go_roundw
        case rel => exact ⟨j + 1, by go_num, by omega, HE⟩
        case measure => simp [intOf]; omega
    · obtain rfl : j = na := by omega
      have hd : decide (j < j) = false := by simp
      have hall : l0.take j = l0 := by rw [HLn.out, List.take_length]
      rw [hall] at HF
      obtain ⟨oa, oc, rfl⟩ := HF.out.g.shape
      have hend : Hid (P (.returned (.slice oa l0.length oc)) wr) := Lib.hid (by rw [← HP.out]; exact ⟨_, rfl, HF.out.g, HF.out.b⟩)
      clear HF hlt hall
      go_wp2_with fail
      exact hend.out
end Go.Proofs.Ytjlljkdlgkociaa.K

/- The contract of sum.Of: of any texts, in a world that holds the table, it returns the sum of all of them and changes nothing. -/
namespace Go.Proofs.Ytjlljkdlgkociaa.S
open Go.RowKit

/-- The cells hold texts. -/
def Strs (w : World) (b off : Nat) (ss : List ByteArray) : Prop := ∀ i, i < ss.length → w.cell? ⟨b, off + i, none⟩ = some (.string (ss.getD i ByteArray.empty))
def bytesOf (ss : List ByteArray) : List UInt8 := ss.flatMap fun s => s.data.toList

theorem bytesOf_snoc (ss : List ByteArray) (k : Nat) (h : k < ss.length) : bytesOf (ss.take (k + 1)) = bytesOf (ss.take k) ++ (ss.getD k ByteArray.empty).data.toList := by
  unfold bytesOf
  rw [List.take_succ_eq_append_getElem h, List.flatMap_append]
  simp [h]

theorem take_all (s : ByteArray) : s.data.toList.take s.size = s.data.toList := List.take_of_length_le (Nat.le_refl _)
end Go.Proofs.Ytjlljkdlgkociaa.S

/- Contracts of sum.tail, Cut, sum.Seal and sum.Open, in a world that holds the table. -/
namespace Go.Proofs.Ytjlljkdlgkociaa.S
open Go.RowKit

theorem cell_alloc_new (w : World) (cs : Array Value) (t : TypeId) (j : Nat) : (w.alloc (.cells cs t)).cell? ⟨w.heap.size, j, none⟩ = cs[j]? := World.cell?_alloc_new ..

end Go.Proofs.Ytjlljkdlgkociaa.S

/- The contracts of book.New, Len, Chain, Line, Begun, and of chained. -/
namespace Go.Proofs.Ytjlljkdlgkociaa.K
open Go.RowKit

theorem bnew_any (w : World) : Calls Try.prog 19 #[] w fun e w' => ∃ b, e = .returned (.pointer (some ⟨b, 0, none⟩)) ∧ w.heap.size ≤ b ∧ Bo b [b] [] ⟨[], []⟩ w' ∧ Below w.heap.size w w' := by
  have H := Lib.hid (Bo.new w)
  have HB : Hid (Below w.heap.size w (w.alloc (.cells #[.slice none 0 0, .slice none 0 0] 112))) := Lib.hid ((Below.refl _ _).alloc (Nat.le_refl _) _)
  go_enter Try.func19, Try.ntmps19
  go_wp2_with fail
  go_ret
  exact ⟨_, rfl, Nat.le_refl _, H.out, HB.out⟩
theorem blen_any {b : Nat} {M N : List Nat} {x : Bk} (w : World) (h : Bo b M N x w) : Calls Try.prog 57 #[.pointer (some ⟨b, 0, none⟩)] w fun e w' => e = .returned (.int .i64 (x.L.length : Int)) ∧ w = w' := by
  obtain ⟨vl, vb, us, h⟩ := h
  obtain ⟨a, c, rfl, -⟩ := h.own.shape
  have c0 := h.c0
  rw [h.lv.len] at c0
  obtain ⟨n, hn⟩ : ∃ n, x.L.length = n := ⟨_, rfl⟩
  rw [hn] at c0 ⊢
  clear h hn
  go_enter Try.func57, Try.ntmps57
  go_wp2_with fail
  go_ret
  exact ⟨rfl, rfl⟩
set_option maxHeartbeats 2000000 in
theorem bchain_any {b : Nat} {M N : List Nat} {x : Bk} (k : Nat) (w : World) (h : Bo b M N x w) (hk : k ≤ x.L.length) (hm : x.L.length ≤ 1000000) : Calls Try.prog 60 #[.pointer (some ⟨b, 0, none⟩), .int .i64 (k : Int)] w fun e w' => e = .returned (.int .i64 (chainB (x.L.take k) : Nat)) ∧ w = w' := by
  have HL := Lib.hid (blen_any w h)
  obtain ⟨vl, vb, us, h⟩ := h
  obtain ⟨a, c, rfl, hfc, hct, hat⟩ := h.own.shape
  have c0 := h.c0
  have hln := h.lv.len
  rw [hln] at c0 hfc
  obtain ⟨n, hn⟩ : ∃ n, x.L.length = n := ⟨_, rfl⟩
  have HLv := Lib.hid h.lv
  have HN := Lib.hid hn
  have HU := Lib.hid hln
  rw [hn] at c0 hk hm hfc
  have hmn : min (k : Int) (n : Int) = (k : Int) := by omega
  obtain ⟨P, hP⟩ : ∃ P : Ending → World → Prop, (fun e w' => e = .returned (.int .i64 (chainB (x.L.take k) : Nat)) ∧ w = w') = P := ⟨_, rfl⟩
  rw [hP]
  have HP := Lib.hid hP
  clear hP h hln hn
  rcases k with _ | j
  · have hend : Hid (P (.returned (.int .i64 0)) w) := Lib.hid (by rw [← HP.out]; exact ⟨rfl, rfl⟩)
    clear hat HLv
    go_enter Try.func60, Try.ntmps60
    go_wp2_with fail
    refine HL.out.mono ?_
    rintro e w2 ⟨rfl, rfl⟩
    rw [HN.out]
    go_wp2_with fail
    exact hend.out
  · have hjl : j < us.length := by rw [HU.out, HN.out]; omega
    have hjx : j < x.L.length := by rw [HN.out]; omega
    obtain ⟨g, rfl, hgl, hi⟩ := hat.resolve_left (by intro e; rw [e] at hjl; simp at hjl)
    have hc := (hi j us[j] (List.getElem?_eq_getElem hjl)).2
    have hch := (HLv.out.at_ j us[j] x.L[j] (List.getElem?_eq_getElem hjl) (List.getElem?_eq_getElem hjx)).2.2
    obtain ⟨⟨ya, yn, yc, ych⟩, hy⟩ : ∃ u, us[j] = u := ⟨_, rfl⟩
    rw [hy] at hc hch
    simp only at hc hch
    rw [show 0 + j * 2 + 1 = j * 2 + 1 by omega] at hc
    have hend : Hid (P (.returned (.int .i64 (ych : Int))) w) := Lib.hid (by rw [← HP.out, hch]; exact ⟨rfl, rfl⟩)
    have hd : decide (((j + 1 : Nat) : Int) ≤ 0) = false := decide_eq_false (by omega)
    have hd' : decide ((j : Int) + 1 ≤ 0) = false := decide_eq_false (by omega)
    have hm2 : min ((j : Int) + 1) (n : Int) = (j : Int) + 1 := by omega
    have hm3 : (j : Int) + 1 - 1 = (j : Int) := by omega
    have hjn : (j : Int) < n := by omega
    clear hi hch hy hjl hjx HLv HU hk
    go_enter Try.func60, Try.ntmps60
    go_wp2_with fail
    refine HL.out.mono ?_
    rintro e w2 ⟨rfl, rfl⟩
    rw [HN.out]
    go_wp2_with fail
    exact hend.out
theorem OwnP.lit2 (w : World) : OwnQ .i32 54 w.heap.size (.slice (some ⟨w.heap.size, 0, none⟩) 0 0) [] (w.alloc (.cells #[] 54)) := (OwnP.lit .i32 _ w w.heap.size (Nat.le_refl _)).toQ
/-- pairs of our own come back -/
def CloPost (l : List (Int × Int)) (w : World) (e : Ending) (w' : World) : Prop := ∃ v, e = .returned v ∧ OwnQ .i32 54 w.heap.size v l w' ∧ Below w.heap.size w w'
set_option maxHeartbeats 2000000 in
theorem clone_pairs (a : Option Addr) (n c : Nat) (l : List (Int × Int)) (w : World) (hI : PairsIn .i32 a n c l w) (hnil : a = none → c = 0) (hn : n ≤ 1000000) :
    Calls Try.prog 51 #[.slice a n c] w (CloPost l w) := by
  obtain ⟨P, hP⟩ : ∃ P, CloPost l w = P := ⟨_, rfl⟩
  rw [hP]
  have HP := Lib.hid hP
  cases a with
  | none =>
    have h0 : l = [] := hI.at_.resolve_right (by rintro ⟨b, off, e, -⟩; cases e)
    obtain rfl : c = 0 := hnil rfl
    obtain rfl : n = 0 := by have := hI.fit; omega
    have hend : Hid (P (.returned (.slice none 0 0)) w) := Lib.hid (by rw [← HP.out, h0]; exact ⟨_, rfl, OwnQ.nil _ _ _ _, Below.refl _ _⟩)
    clear hP hI h0 hnil
    have qn : ∀ (w : World), (binOp .eql 25 (.slice none 0 0) (.slice none 0 0)).run Try.prog w = .ok (.bool true) w := fun w => Lib.run_eql_slice_nil w _ _ none 0 0 0 0 Try.underlying25
    go_enter Try.func51, Try.ntmps51
    go_wp2_with fail
    exact hend.out
  | some ad =>
    have hb1 : Below w.heap.size w (w.alloc (.cells #[] 54)) := (Below.refl _ _).alloc (Nat.le_refl _) _
    have HO1 := Lib.hid (OwnP.lit2 w)
    have HI1 := Lib.hid (hI.belowAll hb1)
    have HS1 := Lib.hid hb1.size
    have HLn : Hid ((l.length : Int) ≤ 1000000) := Lib.hid (by rw [← hI.len]; omega)
    have HB1 := Lib.hid hb1
    clear hP hb1 hI hnil
    have qn : ∀ (w : World), (binOp .eql 25 (.slice (some ad) n c) (.slice none 0 0)).run Try.prog w = .ok (.bool false) w := fun w => Lib.run_eql_slice_nil w _ _ (some ad) n c 0 0 Try.underlying25
    go_enter Try.func51, Try.ntmps51
    go_wp2_with (refine wpList_append_q gluT rfl _ _ rfl rfl w.heap.size _ [] (some ad) n c l rfl rfl HO1.out HI1.out (by simp) HLn.out HS1.out ?_)
    intro v' w' hg
    have HE : Hid (OwnQ .i32 54 w.heap.size v' l w' ∧ Below w.heap.size w w') := Lib.hid ⟨by simpa using hg.own, HB1.out.grown hg.grown HS1.out (fun q hq => (HO1.out.own q hq).1)⟩
    clear hg
    go_wp2
    rw [← HP.out]
    exact ⟨_, rfl, HE.out.1, HE.out.2⟩
theorem bbegun_any {b : Nat} {M N : List Nat} {x : Bk} (w : World) (h : Bo b M N x w) (hx : x.G.length ≤ 1000000) : Calls Try.prog 61 #[.pointer (some ⟨b, 0, none⟩)] w (CloPost x.G w) := by
  obtain ⟨vl, vb, us, h⟩ := h
  obtain ⟨a, c, rfl, hP, hnil, -⟩ := h.q.shape
  have c1 := h.c1
  have HC := Lib.hid (clone_pairs a _ c x.G w hP hnil hx)
  obtain ⟨n, hn⟩ : ∃ n, x.G.length = n := ⟨_, rfl⟩
  rw [hn] at c1 HC
  clear h hP hn hnil hx
  go_enter Try.func61, Try.ntmps61
  go_wp2_with fail
  refine HC.out.mono ?_
  rintro e w2 ⟨v, rfl, h1, h2⟩
  have HE : Hid (OwnQ .i32 54 w.heap.size v x.G w2 ∧ Below w.heap.size w w2) := Lib.hid ⟨h1, h2⟩
  clear h1 h2
  go_wp2_with fail
  go_ret
  exact ⟨_, rfl, HE.out.1, HE.out.2⟩
end Go.Proofs.Ytjlljkdlgkociaa.K
