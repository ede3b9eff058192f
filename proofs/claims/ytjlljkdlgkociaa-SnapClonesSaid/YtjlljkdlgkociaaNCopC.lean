/- copied and Clone once more: what their rows' blocks hold is known. -/
import Derived.Test.YtjlljkdlgkociaaNCln
import Derived.Test.YtjlljkdlgkociaaNTolS
namespace Go.Proofs.Ytjlljkdlgkociaa.K
open Go.RowKit Go.Proofs.Ytjlljkdlgkociaa.I

/-- rows of ours; where their cells lie is known by its type -/
structure GatC (base : Nat) (v : Value) (rs : List Ro) (w : World) : Prop where
  ex : ∃ us, OwnV 50 base v us w ∧ RowsV .i32 us rs w ∧ ∀ u ∈ us, ∀ b o, u.a = some ⟨b, o, none⟩ → base ≤ b ∧ ∃ cs, w.heap[b]? = some (.cells cs 52 (0, 0))
theorem GatC.nil (base : Nat) (w : World) : GatC base (.slice none 0 0) [] w := ⟨[], OwnV.nil _ _ _, RowsV.nil _ _, fun u hu => by cases hu⟩
theorem GatC.mv {base : Nat} {v : Value} {rs : List Ro} {w w' : World} (h : GatC base v rs w) (hs : w.heap.size ≤ w'.heap.size) (hk : ∀ (q : Nat) (cs : Array Value), base ≤ q → (w.heap[q]? = some (Obj.cells cs 50 (0, 0)) ∨ w.heap[q]? = some (Obj.cells cs 52 (0, 0))) → w'.heap[q]? = w.heap[q]?) : GatC base v rs w' := by
  obtain ⟨us, h1, h2, h3⟩ := h
  refine ⟨us, ⟨h1.1, ?_⟩, ⟨h2.1, fun i u r hu hr => (h2.2 i u r hu hr).moved hs (fun b o e _ => ?_)⟩, fun u hu b o e => ?_⟩
  · rcases h1.2 with h0 | ⟨g', c', cur, he, hbase, hgb, hc, hmx, hsz, ht⟩
    · exact .inl h0
    · exact .inr ⟨g', c', cur, he, hbase, (hk g' _ hbase (.inl hgb)).trans hgb, hc, hmx, hsz, ht⟩
  · obtain ⟨h5, cs, h4⟩ := h3 u (List.mem_of_getElem? hu) b o e
    exact hk b cs h5 (.inr h4)
  · obtain ⟨h5, cs, h4⟩ := h3 u hu b o e
    exact ⟨h5, cs, (hk b cs h5 (.inr h4)).trans h4⟩
theorem GatC.below {base : Nat} {v : Value} {rs : List Ro} {w w' : World} (h : GatC base v rs w) (hb : Below w.heap.size w w') : GatC base v rs w' :=
  h.mv hb.size (fun q cs _ hq => by rcases hq with hq | hq <;> exact hb.block q (Array.getElem?_eq_some_iff.1 hq).1)
theorem GatC.own {base : Nat} {v : Value} {rs : List Ro} {w : World} (h : GatC base v rs w) : ∀ q, v.ownBlock = some q → base ≤ q ∧ q < w.heap.size := fun q hq => by
  obtain ⟨us, h1, -⟩ := h.ex
  exact h1.ownBlock q hq
theorem GatC.shape {base : Nat} {v : Value} {rs : List Ro} {w : World} (h : GatC base v rs w) : ∃ a c, v = .slice a rs.length c := by
  obtain ⟨us, h1, h2, -⟩ := h.ex
  obtain ⟨a, c, e, -⟩ := h1.shape
  rw [h2.1] at e
  exact ⟨a, c, e⟩
theorem GatC.weaken {base base' : Nat} {v : Value} {rs : List Ro} {w : World} (h : GatC base v rs w) (hb : base' ≤ base) : GatC base' v rs w := by
  obtain ⟨us, h1, h2, h3⟩ := h
  exact ⟨us, h1.weaken hb, h2, fun u hu b o e => ⟨Nat.le_trans hb (h3 u hu b o e).1, (h3 u hu b o e).2⟩⟩
theorem GatC.grown {base p : Nat} {v : Value} {rs : List Ro} {w w' : World} (h : GatC base v rs w) (hg : w.grownBy w' (some p)) (hp : p < base) : GatC base v rs w' :=
  h.mv hg.size (fun q cs hq0 hq => hg.block q (by rcases hq with hq | hq <;> exact (Array.getElem?_eq_some_iff.1 hq).1) (fun e => by have := Option.some.inj e; omega))
theorem GatC.setOther {base p : Nat} {v : Value} {rs : List Ro} {w : World} (h : GatC base v rs w) (hp : p < base) (o : Nat) (x : Value) : GatC base v rs (w.setCell ⟨p, o, none⟩ x) := h.grown (grown_set w p o x) hp
theorem wp_append_rowC {bytes : Nat} (hI : RvT 24 50 bytes) {o : Oper} {z : Act} {w : World} {K : Act → World → Prop} {Q : Exit → Act → World → Prop} (s x : Operand)
    (ho : o.op = .call { callee := .builtin .append, args := #[s, x], argTypes := #[24, 24] }) (hty : o.type = 24)
    (base : Nat) (v : Value) (rs : List Ro) (p : Nat) (a : Option Addr) (n c : Nat) (b : Bool) (r : Ro) (hs : z.eval s = v) (hxv : z.eval x = .slice (some ⟨p, 0, none⟩) 1 1) (hG : GatC base v rs w)
    (hp : w.heap[p]? = some (.cells #[.slice a n c, .bool b] 50 (0, 0))) (hr : RowV .i32 (.agg #[.slice a n c, .bool b]) r w) (hty0 : ∀ b' o', a = some ⟨b', o', none⟩ → base ≤ b' ∧ ∃ cs, w.heap[b']? = some (.cells cs 52 (0, 0)))
    (h1 : rs.length ≤ 1000) (hbase : base ≤ w.heap.size)
    (hK : ∀ v' w', GatC base v' (rs ++ [r]) w' → w.grownBy w' v.ownBlock → K (z.put o.dst v') w') : o.wp Try.prog z w K Q := by
  obtain ⟨us, g2, g3, g4⟩ := hG.ex
  have hin : RvsIn (some ⟨p, 0, none⟩) 1 1 [⟨a, n, c, b⟩] w := ⟨rfl, Nat.le_refl _, by decide, .inr ⟨p, 0, rfl, (Array.getElem?_eq_some_iff.1 hp).1, fun i u hu => by
    match i, hu with
    | 0, hu => cases hu; exact ⟨by simp [World.cell?, hp], by simp [World.cell?, hp]⟩
    | i + 1, hu => simp at hu⟩⟩
  obtain ⟨v', w', hrun, k1, k2⟩ := run_append_rows hI base v us (some ⟨p, 0, none⟩) 1 1 [⟨a, n, c, b⟩] w g2 hin (fun e => by cases e) (by have := g3.1; omega) (by simp) hbase
  have hs2 := k2.grown.size
  have hne : ∀ b' : Nat, (∃ cs : Array Value, w.heap[b']? = some (Obj.cells cs 52 (0, 0))) → ∀ q, v.ownBlock = some q → b' ≠ q := fun b' ⟨cs, h⟩ q hq e => by
    obtain ⟨cs2, h2, -⟩ := U.own_type g2 hq
    rw [← e, h] at h2
    injection h2 with h2
    injection h2 with h3 h4
    exact absurd h4 (by decide)
  have hmv : ∀ b' : Nat, (∃ cs : Array Value, w.heap[b']? = some (Obj.cells cs 52 (0, 0))) → w'.heap[b']? = w.heap[b']? := fun b' h => by
    have h' := h
    obtain ⟨cs, h1⟩ := h'
    exact k2.grown.block b' (Array.getElem?_eq_some_iff.1 h1).1 (fun e => hne b' h b' e.symm rfl)
  have hG' : GatC base v' (rs ++ [r]) w' := by
    refine ⟨us ++ [⟨a, n, c, b⟩], k1, RowsV.append ⟨g3.1, fun i d q hd hq => (g3.2 i d q hd hq).moved hs2 (fun b' o' e _ => hmv b' (g4 d (List.mem_of_getElem? hd) b' o' e).2)⟩ ⟨rfl, fun i d q hd hq => ?_⟩, fun d hd b' o' e => ?_⟩
    · match i, hd, hq with
      | 0, hd, hq => cases hd; cases hq; exact RowV.moved (u := ⟨a, n, c, b⟩) hr hs2 (fun b' o' e _ => hmv b' (hty0 b' o' e).2)
      | i + 1, hd, _ => simp at hd
    · rcases List.mem_append.1 hd with hd | hd
      · have h := g4 d hd b' o' e
        have h2 := hmv b' h.2
        obtain ⟨h5, cs, h1⟩ := h
        exact ⟨h5, cs, h2.trans h1⟩
      · obtain rfl : d = ⟨a, n, c, b⟩ := by simpa using hd
        have h := hty0 b' o' e
        have h2 := hmv b' h.2
        obtain ⟨h5, cs, h1⟩ := h
        exact ⟨h5, cs, h2.trans h1⟩
  unfold Oper.wp execOp
  simp only [ho, hty, resolve, invoke, builtin, Sem.run_bind, Sem.run_pure, Result.andThen_ok, List.map_toArray, List.map_cons, List.map_nil, hs, hxv, hrun]
  exact hK v' w' hG' k2.grown

/-- while it is gathered -/
structure RwC (rb : Nat) (v : Value) (rs : List Ro) (w u : World) : Prop where
  g : GatC rb v rs u
  b : Below rb w u
  m : rb ≤ u.heap.size
section
variable {rb : Nat} {v v' : Value} {rs : List Ro} {r : Ro} {w u u' : World}
theorem RwC.below (h : RwC rb v rs w u) (hb : Below u.heap.size u u') : RwC rb v rs w u' := ⟨h.g.below hb, h.b.trans (hb.mono h.m), Nat.le_trans h.m hb.size⟩
theorem RwC.own (h : RwC rb v rs w u) : ∀ q, v.ownBlock = some q → rb ≤ q ∧ q < u.heap.size := h.g.own
theorem RwC.cell (h : RwC rb v rs w u) {ab o : Nat} (hab : ab < rb) : u.cell? ⟨ab, o, none⟩ = w.cell? ⟨ab, o, none⟩ := h.b.cell (p := ⟨ab, o, none⟩) hab
theorem RwC.cell1 (h : RwC rb v rs w u) {ab o : Nat} (hab : ab < rb) : u.cell? ⟨ab, o, none⟩ = w.cell? ⟨ab, o, none⟩ := h.b.cell (p := ⟨ab, o, none⟩) hab
theorem RwC.grows (h : RwC rb v rs w u) (hg : GatC rb v' (rs ++ [r]) u') (hgr : u.grownBy u' v.ownBlock) : RwC rb v' (rs ++ [r]) w u' := ⟨hg, h.b.grown hgr h.m (fun q hq => (h.own q hq).1), Nat.le_trans h.m hgr.size⟩
end
/-- the region's state -/
def Cs6 (rb : Nat) (v0 : Value) (rs : List Ro) (r : Ro) (xb : Bool) (w : World) : Nat → (Nat → Value) → World → Prop
  | 0, _, u => RwC rb v0 rs w u
  | 1, f, u => RwC rb v0 rs w u ∧ ∃ a c, f 15 = .slice a r.l.length c ∧ RowV .i32 (.agg #[.slice a r.l.length c, .bool xb]) r u ∧ ∀ b o, a = some ⟨b, o, none⟩ → rb ≤ b ∧ ∃ cs, u.heap[b]? = some (.cells cs 52 (0, 0))
  | 2, f, u => RwC rb v0 rs w u ∧ ∃ a n c, f 18 = .agg #[.slice a n c, .bool xb] ∧ RowV .i32 (.agg #[.slice a n c, .bool xb]) r u ∧ ∀ b o, a = some ⟨b, o, none⟩ → rb ≤ b ∧ ∃ cs, u.heap[b]? = some (.cells cs 52 (0, 0))
  | 3, f, u => RwC rb v0 rs w u ∧ ∃ q, f 19 = .slice (some ⟨q, 0, none⟩) 1 1 ∧ ∃ a n c, u.heap[q]? = some (.cells #[.slice a n c, .bool xb] 50 (0, 0)) ∧ RowV .i32 (.agg #[.slice a n c, .bool xb]) r u ∧ ∀ b o, a = some ⟨b, o, none⟩ → rb ≤ b ∧ ∃ cs, u.heap[b]? = some (.cells cs 52 (0, 0))
  | 4, f, u => ∃ v, f 20 = v ∧ RwC rb v (rs ++ [r]) w u
  | _, f, u => ∃ v, f 3 = v ∧ RwC rb v (rs ++ [r]) w u
theorem Cs6.cong {rb : Nat} {v0 : Value} {rs : List Ro} {r : Ro} {xb : Bool} {w u : World} {k : Nat} {f f2 : Nat → Value} (e1 : k = 1 → f 15 = f2 15) (e2 : k = 2 → f 18 = f2 18) (e3 : k = 3 → f 19 = f2 19) (e4 : k = 4 → f 20 = f2 20) (e5 : 5 ≤ k → f 3 = f2 3) (h : Cs6 rb v0 rs r xb w k f u) : Cs6 rb v0 rs r xb w k f2 u := by
  match k, h, e1, e2, e3, e4, e5 with
  | 0, h, _, _, _, _, _ => exact h
  | 1, ⟨h, a, c, e, h2⟩, e1, _, _, _, _ => exact ⟨h, a, c, by rw [← e1 rfl]; exact e, h2⟩
  | 2, ⟨h, a, n, c, e, h2⟩, _, e2, _, _, _ => exact ⟨h, a, n, c, by rw [← e2 rfl]; exact e, h2⟩
  | 3, ⟨h, q, e, h2⟩, _, _, e3, _, _ => exact ⟨h, q, by rw [← e3 rfl]; exact e, h2⟩
  | 4, ⟨v, e, h⟩, _, _, _, e4, _ => exact ⟨v, by rw [← e4 rfl]; exact e, h⟩
  | _ + 5, ⟨v, e, h⟩, _, _, _, _, e5 => exact ⟨v, by rw [← e5 (by omega)]; exact e, h⟩
def CoOk6 (oa : Option Addr) (oc j gb : Nat) (xa : Option Addr) (xn xc : Nat) (xb : Bool) : Nat → Value → World → Prop
  | 0, u, _ => u = .slice oa j oc
  | 1, u, _ => u = .pointer (some ⟨gb, 0, none⟩)
  | 2, u, _ => u = .slice xa xn xc
  | 3, _, _ => True
  | 4, u, _ => u = .pointer (some ⟨gb, 1, none⟩)
  | 5, u, _ => u = .bool xb
  | 6, _, _ => True
  | 7, _, _ => True
  | 8, _, _ => True
  | 9, _, _ => True
  | _, _, _ => True
set_option maxRecDepth 100000 in
set_option maxHeartbeats 16000000 in
theorem ncopiedC_any (aa : Option Addr) (na ca : Nat) (l0 : List Ro) (w : World) (hA : RowsL .i32 [] aa na ca l0 w) (hm : l0.length ≤ 1000) (hcs : ∀ r ∈ l0, r.l.length ≤ 1000000) :
    Calls Try.prog 50 #[.slice aa na ca] w fun e w' => ∃ v, e = .returned v ∧ GatC w.heap.size v l0 w' ∧ Below w.heap.size w w' := by
  obtain ⟨rb, hrb⟩ : ∃ rb, w.heap.size = rb := ⟨_, rfl⟩
  rw [hrb]
  obtain ⟨P, hP⟩ : ∃ P : Ending → World → Prop, (fun e w' => ∃ v, e = .returned v ∧ GatC rb v l0 w' ∧ Below rb w w') = P := ⟨_, rfl⟩
  rw [hP]
  have HP := Lib.hid hP
  have HRb := Lib.hid hrb
  have hlen := hA.len
  have HLn := Lib.hid hlen
  have hnI : (na : Int) ≤ 1000 := by omega
  have HA := Lib.hid hA
  have HCs := Lib.hid hcs
  have HM := Lib.hid hm
  clear hP hrb hA hlen hcs hm
  go_enter Try.func50, Try.ntmps50
  go_wp2_with fail
  go_loopw [3, 8] (fun u i wr => ∃ j : Nat, i = .int .i64 (j : Int) ∧ j ≤ na ∧ Hid (RwC rb u (l0.take j) w wr)) (fun _ i _ => na - (intOf i).toNat)
  case atStart => exact ⟨0, rfl, Nat.zero_le _, Lib.hid ⟨GatC.nil _ _, Below.refl _ _, by rw [HRb.out]; exact Nat.le_refl _⟩⟩
  case round =>
    obtain ⟨j, rfl, hj, HF⟩ := hrel
    by_cases hlt : j < na
    · have hd : decide (j < na) = true := decide_eq_true hlt
      have hjI : (j : Int) < na := by omega
      have hjl : j < l0.length := by rw [← HLn.out]; exact hlt
      obtain ⟨us0, hin, hrv, -⟩ := HA.out.ex
      have hju : j < us0.length := by rw [hrv.1]; exact hjl
      obtain ⟨ab, ao, rfl, hab, hAt⟩ := hin.at_.resolve_left (by intro e; rw [e] at hju; simp at hju)
      have hat := hAt j us0[j] (List.getElem?_eq_getElem hju)
      have hrj := hrv.2 j us0[j] l0[j] (List.getElem?_eq_getElem hju) (List.getElem?_eq_getElem hjl)
      have hcj := HCs.out l0[j] (List.getElem_mem hjl)
      have htk := List.take_succ_eq_append_getElem hjl
      obtain ⟨⟨xa, xn, xc, xb⟩, hu⟩ : ∃ u, us0[j] = u := ⟨_, rfl⟩
      obtain ⟨r, hre⟩ : ∃ r, l0[j] = r := ⟨_, rfl⟩
      rw [hu] at hat hrj
      rw [hre] at hrj htk hcj
      unfold Rv.val at hrj
      simp only at hrj hat
      obtain ⟨hxb, hcl, hnl, hft, htp, hxl⟩ := hrj.of
      have hab' : ab < rb := by rw [← HRb.out]; exact hab
      have k0 : wr.cell? ⟨ab, ao + j * 2, none⟩ = some (.slice xa xn xc) := (HF.out.b.cell (p := ⟨ab, ao + j * 2, none⟩) hab').trans hat.1
      have k1 : wr.cell? ⟨ab, ao + j * 2 + 1, none⟩ = some (.bool xb) := (HF.out.b.cell (p := ⟨ab, ao + j * 2 + 1, none⟩) hab').trans hat.2
      have HCl := Lib.hid hcl
      have HNl := Lib.hid hnl
      have HXb := Lib.hid hxb
      have HXn : Hid ((xn : Int) ≤ 1000000) := Lib.hid (by omega)
      obtain ⟨rs, hrs⟩ : ∃ rs, l0.take j = rs := ⟨_, rfl⟩
      have hrl : rs.length = j := by rw [← hrs, List.length_take]; omega
      rw [hrs] at HF htk
      obtain ⟨oa, oc, rfl⟩ := HF.out.g.shape
      rw [hrl] at HF ⊢
      have HJl : Hid (rs.length ≤ 1000) := Lib.hid (by rw [hrl]; have := HM.out; omega)
      have HNx := Lib.hid htk
      obtain ⟨gb, hgb⟩ : ∃ gb, wr.heap.size = gb := ⟨_, rfl⟩
      obtain ⟨w5, hw5⟩ : ∃ w5, wr.alloc (.cells #[.slice xa xn xc, .bool xb] 50) = w5 := ⟨_, rfl⟩
      have hn5 : w5.heap[gb]? = some (.cells #[.slice xa xn xc, .bool xb] 50 (0, 0)) := by rw [← hw5, ← hgb]; exact heap_alloc_new wr _
      have hb5 : Below wr.heap.size wr w5 := by rw [← hw5]; exact (Below.refl _ _).alloc (Nat.le_refl _) _
      have h0 := HF.out.below hb5
      have HGo : Hid ((Value.slice oa j oc).ownBlock ≠ some gb) := Lib.hid (fun e => by have := (HF.out.own gb e).2; omega)
      have H0 := Lib.hid h0
      have HW5 := Lib.hid hw5
      have HGb := Lib.hid hgb
      have HN5 := Lib.hid hn5
      clear hjl hin hrv hju hAt hat hrj hcj htk hu hre hcl hnl hft htp hxl hxb hab hab' hrs hrl hgb hw5 hn5 hb5 h0 HF
      go_upto_region 5 with fail
      rw [HW5.out, HGb.out]
      clear k0 k1
      refine Go.Proofs.Ytjlljkdlgkociaa.R.wp_region_kept [3, 6, 7, 8, 9] [3, 0, 0, 1, 1, 1, 2, 3, 4, 5] (by kernel_rfl) (fun k f u => Cs6 rb (.slice oa j oc) rs r xb w k f u ∧ u.heap[gb]? = some (.cells #[.slice xa xn xc, .bool xb] 50 (0, 0))) (fun _ _ => True) (CoOk6 oa oc j gb xa xn xc xb) (by rfl) (by kernel_rfl) (by kernel_rfl) (by kernel_rfl) (by kernel_rfl) ?hcong ?hOk ?hop ?hdone ?h0
      case hcong => exact fun k f f2 u hs hst => ⟨Cs6.cong (fun hk => hs 15 (Go.Proofs.Ytjlljkdlgkociaa.R.mem_slots (by subst hk; kernel_rfl))) (fun hk => hs 18 (Go.Proofs.Ytjlljkdlgkociaa.R.mem_slots (by subst hk; kernel_rfl))) (fun hk => hs 19 (Go.Proofs.Ytjlljkdlgkociaa.R.mem_slots (by subst hk; kernel_rfl))) (fun hk => hs 20 (Go.Proofs.Ytjlljkdlgkociaa.R.mem_slots (by subst hk; kernel_rfl))) (fun hk => hs 3 (by rw [Go.Proofs.Ytjlljkdlgkociaa.R.slotsP_all hk]; exact Go.Proofs.Ytjlljkdlgkociaa.R.mem_slots (by kernel_rfl))) hst.1, hst.2⟩
      case hOk => intro i u w1 w2 h hr; unfold CoOk6 at h ⊢; split <;> first | exact True.intro | exact h
      case h0 => exact ⟨H0.out.below ((Below.refl _ _).drew), HN5.out⟩
      case hop =>
        refine ⟨?_, ?_, ?_, ?_, ?_, ?_, ?_, ?_, ?_, ?_, trivial⟩
        · intro k z v hk hst hag hdep hfr
          refine .inl ⟨rfl, fun K hK => ?_⟩
          have d3 : z.tmps.getD 3 undef = .slice oa j oc := hfr 3 (by kernel_rfl)
          have e3 := d3
          rw [Array.getD_eq_getD_getElem?] at e3
          have HSt := Lib.hid hst
          clear hdep hfr hag hst
          go_simp
          exact hK _ _ trivial rfl HSt.out
        · intro k z v hk hst hag hdep hfr
          refine .inl ⟨rfl, fun K hK => ?_⟩
          have d5 : z.tmps.getD 5 undef = .pointer (some ⟨gb, 0, none⟩) := hag.2.2 5 (by kernel_rfl)
          have e5 := d5
          rw [Array.getD_eq_getD_getElem?] at e5
          have HSt := Lib.hid hst
          clear hdep hfr hag hst
          go_simp
          exact hK _ _ trivial rfl HSt.out
        · intro k z v hk hst hag hdep hfr
          refine .inl ⟨rfl, fun K hK => ?_⟩
          have d13 : z.tmps.getD 13 undef = .pointer (some ⟨gb, 0, none⟩) := hdep { on := 1, ground := .data } (by simp) rfl _ _ rfl rfl
          have e13 := d13
          rw [Array.getD_eq_getD_getElem?] at e13
          have l0 : v.cell? ⟨gb, 0, none⟩ = some (.slice xa xn xc) := by rw [cell_block hst.2]; rfl
          have HSt := Lib.hid hst
          clear hdep hfr hag hst
          go_simp
          exact hK _ _ trivial rfl HSt.out
        · intro z v hst hag hdep hfr
          refine ⟨rfl, fun K hK => ?_⟩
          have d14 : z.tmps.getD 14 undef = .slice xa xn xc := hdep { on := 2, ground := .data } (by simp) rfl _ _ rfl rfl
          have e14 := d14
          rw [Array.getD_eq_getD_getElem?] at e14
          have h0 : RwC rb (.slice oa j oc) rs w v := hst.1
          have HGk := Lib.hid hst.2
          have HC := Lib.hid (clone_any xa xn xc r.l v (HCl.out.belowAll (by rw [HRb.out]; exact h0.b)) HNl.out HXn.out)
          have hsz : 15 < z.tmps.size := by rw [hag.2.1]; show 15 < 23; decide
          have HSt := Lib.hid h0
          clear hdep hfr hag h0 hst
          go_simp
          refine HC.out.mono ?_
          rintro e w' ⟨v2, rfl, hO, hb⟩
          obtain ⟨a4, c4, rfl, hi4, hlo4, hn4, hf4, hx4⟩ := hO.shape
          exact hK _ _ trivial True.intro ⟨⟨HSt.out.below hb, a4, c4, Go.Proofs.Ytjlljkdlgkociaa.R.slot_same hsz, ⟨a4, c4, by rw [HXb.out], hi4, hn4, hf4, hx4⟩, fun b o e => ⟨by have h1 := (hlo4 b o e).1; have h2 := HSt.out.m; omega, by obtain ⟨cs, h1, -⟩ := U.own_type hO (g := b) (by rw [e]; have h2 := (hlo4 b o e).2.2; subst h2; rfl); exact ⟨cs, h1⟩⟩⟩, (hb.block gb (Array.getElem?_eq_some_iff.1 HGk.out).1).trans HGk.out⟩
        · intro k z v hk hst hag hdep hfr
          refine .inl ⟨rfl, fun K hK => ?_⟩
          have d5 : z.tmps.getD 5 undef = .pointer (some ⟨gb, 0, none⟩) := hag.2.2 5 (by kernel_rfl)
          have e5 := d5
          rw [Array.getD_eq_getD_getElem?] at e5
          have HSt := Lib.hid hst
          clear hdep hfr hag hst
          go_simp
          exact hK _ _ trivial rfl HSt.out
        · intro k z v hk hst hag hdep hfr
          refine .inl ⟨rfl, fun K hK => ?_⟩
          have d16 : z.tmps.getD 16 undef = .pointer (some ⟨gb, 1, none⟩) := hdep { on := 4, ground := .data } (by simp) rfl _ _ rfl rfl
          have e16 := d16
          rw [Array.getD_eq_getD_getElem?] at e16
          have l1 : v.cell? ⟨gb, 1, none⟩ = some (.bool xb) := by rw [cell_block hst.2]; rfl
          have HSt := Lib.hid hst
          clear hdep hfr hag hst
          go_simp
          exact hK _ _ trivial rfl HSt.out
        · intro z v hst hag hdep hfr
          refine ⟨rfl, fun K hK => ?_⟩
          have d17 : z.tmps.getD 17 undef = .bool xb := hdep { on := 5, ground := .data } (by simp) rfl _ _ rfl rfl
          have e17 := d17
          rw [Array.getD_eq_getD_getElem?] at e17
          obtain ⟨⟨h0, a4, c4, f15, hrow, hlt4⟩, hgk⟩ := hst
          have HGk := Lib.hid hgk
          obtain ⟨n4, hn4⟩ : ∃ n, r.l.length = n := ⟨_, rfl⟩
          rw [hn4] at f15 hrow
          have d15 : z.tmps.getD 15 undef = .slice a4 n4 c4 := f15
          have e15 := d15
          rw [Array.getD_eq_getD_getElem?] at e15
          have hsz : 18 < z.tmps.size := by rw [hag.2.1]; show 18 < 23; decide
          have HSt := Lib.hid h0
          have HLt := Lib.hid hlt4
          have HRow := Lib.hid hrow
          clear hdep hfr hag h0 f15 hrow hlt4 hn4 hgk
          go_simp
          exact hK _ _ trivial True.intro ⟨⟨HSt.out, a4, n4, c4, Go.Proofs.Ytjlljkdlgkociaa.R.slot_same hsz, HRow.out, HLt.out⟩, HGk.out⟩
        · intro z v hst hag hdep hfr
          refine ⟨rfl, fun K hK => ?_⟩
          obtain ⟨⟨h0, a4, n4, c4, f18, hrow, hlt4⟩, hgk⟩ := hst
          have HGk := Lib.hid hgk
          have d18 : z.tmps.getD 18 undef = .agg #[.slice a4 n4 c4, .bool xb] := f18
          have e18 := d18
          rw [Array.getD_eq_getD_getElem?] at e18
          have hsz : 19 < z.tmps.size := by rw [hag.2.1]; show 19 < 23; decide
          have HSt := Lib.hid h0
          have HLt := Lib.hid hlt4
          have HRow := Lib.hid hrow
          clear hdep hfr hag h0 f18 hrow hlt4 hgk
          go_simp
          have hb : Below v.heap.size v (v.alloc (.cells #[.slice a4 n4 c4, .bool xb] 50)) := (Below.refl _ _).alloc (Nat.le_refl _) _
          exact hK _ _ trivial True.intro ⟨⟨HSt.out.below hb, v.heap.size, Go.Proofs.Ytjlljkdlgkociaa.R.slot_same hsz, a4, n4, c4, heap_alloc_new v _, HRow.out.belowAll hb, fun b o e => ⟨(HLt.out b o e).1, by obtain ⟨cs, h1⟩ := (HLt.out b o e).2; exact ⟨cs, (hb.block b (Array.getElem?_eq_some_iff.1 h1).1).trans h1⟩⟩⟩, (hb.block gb (Array.getElem?_eq_some_iff.1 HGk.out).1).trans HGk.out⟩
        · intro z v hst hag hdep hfr
          refine ⟨rfl, fun K hK => ?_⟩
          have d12 : z.tmps.getD 12 undef = .slice oa j oc := hdep { on := 0, ground := .data } (by simp) rfl _ _ rfl rfl
          have e12 := d12
          rw [Array.getD_eq_getD_getElem?] at e12
          obtain ⟨⟨h0, q, f19, hR⟩, hgk⟩ := hst
          have HGk := Lib.hid hgk
          have d19 : z.tmps.getD 19 undef = .slice (some ⟨q, 0, none⟩) 1 1 := f19
          have hsz : 20 < z.tmps.size := by rw [hag.2.1]; show 20 < 23; decide
          have HSt := Lib.hid h0
          obtain ⟨a4, n4, c4, hq4, hrow, hlt4⟩ := hR
          refine wp_append_rowC rowsT _ _ rfl rfl rb (.slice oa j oc) rs q a4 n4 c4 xb r d12 d19 HSt.out.g hq4 hrow hlt4 HJl.out HSt.out.m ?_
          intro v' w' k1 k2
          exact hK _ _ trivial True.intro ⟨⟨v', Go.Proofs.Ytjlljkdlgkociaa.R.slot_same hsz, HSt.out.grows k1 k2⟩, (k2.block gb (Array.getElem?_eq_some_iff.1 HGk.out).1 (fun e => by
                  obtain ⟨us, h1, -⟩ := HSt.out.g.ex
                  exact HGo.out e.symm)).trans HGk.out⟩
        · intro z v hst hag hdep hfr
          refine ⟨rfl, fun K hK => ?_⟩
          obtain ⟨⟨v7, f20, h7⟩, hgk⟩ := hst
          have HGk := Lib.hid hgk
          have d20 : z.tmps.getD 20 undef = v7 := f20
          have e20 := d20
          rw [Array.getD_eq_getD_getElem?] at e20
          have hsz : 3 < z.tmps.size := by rw [hag.2.1]; show 3 < 23; decide
          have HSt := Lib.hid h7
          clear hdep hfr hag h7 f20 hgk
          go_simp
          exact hK _ _ trivial True.intro ⟨⟨_, Go.Proofs.Ytjlljkdlgkociaa.R.slot_same hsz, HSt.out⟩, HGk.out⟩
      case hdone =>
        intro z v hst hag hok
        obtain ⟨v9, f9, h9⟩ : ∃ v9, z.tmps.getD 3 undef = v9 ∧ RwC rb v9 (rs ++ [r]) w v := hst.1
        have d3 : z.tmps.getD 3 undef = v9 := f9
        have HE : Hid (RwC rb v9 (l0.take (j + 1)) w v) := Lib.hid (by rw [HNx.out]; exact h9)
        clear f9 h9 hst
        obtain ⟨uu, hu, hzz⟩ := Go.Proofs.Ytjlljkdlgkociaa.R.agree_frame [12, 13, 14, 15, 16, 17, 18, 19, 20, 3] rfl hag
        have e3 := (hu 3).trans d3
        subst hzz
        simp only [List.foldl_cons, List.foldl_nil]
        rw [e3]
        clear e3 d3 hu hag hok
        try dsimp only [Exit.then]
        simp only [List.setIfInBounds_toArray, List.set_cons_succ, List.set_cons_zero]
        generalize uu 12 = u12', uu 13 = u13', uu 14 = u14', uu 15 = u15', uu 16 = u16', uu 17 = u17', uu 18 = u18', uu 19 = u19', uu 20 = u20'
        clear uu
        rename_i K hK
        refine hK _ _ ?_
        go_wp2_with fail
        go_roundw
        case rel => exact ⟨j + 1, by go_num, by omega, HE⟩
        case measure => simp [intOf]; omega
    · obtain rfl : j = na := by omega
      have hd : decide (j < j) = false := by simp
      have hall : l0.take j = l0 := by rw [HLn.out, List.take_length]
      rw [hall] at HF
      obtain ⟨oa, oc, rfl⟩ := HF.out.g.shape
      have hend : Hid (P (.returned (.slice oa l0.length oc)) wr) := Lib.hid (by rw [← HP.out]; exact ⟨_, rfl, HF.out.g, HF.out.b⟩)
      clear HF hlt hall
      go_wp2_with fail
      exact hend.out
def CnC (B rb rc0 : Nat) (s : Sn) (ra : Option Addr) (rn rc : Nat) (ga : Option Addr) (gn gc : Nat) (w : World) : Nat → (Nat → Value) → World → Prop
  | 0, _, u => CnI B rb rc0 s ra rn rc ga gn gc w u
  | 1, f, u => CnI B rb rc0 s ra rn rc ga gn gc w u ∧ ∃ v1, f 5 = v1 ∧ GatC B v1 s.R u
  | 2, f, u => CnI B rb rc0 s ra rn rc ga gn gc w u ∧ ∃ v1 v2, f 5 = v1 ∧ f 8 = v2 ∧ GatC B v1 s.R u ∧ OwnQ .i32 54 B v2 s.B u
  | 3, f, u => ∃ v1 v2 xa xn xc, v1 = .slice xa xn xc ∧ f 8 = v2 ∧ CnI B rb rc0 s xa xn xc ga gn gc w u ∧ GatC B v1 s.R u ∧ OwnQ .i32 54 B v2 s.B u
  | _, _, u => ∃ v1 v2 xa xn xc ya yn yc, v1 = .slice xa xn xc ∧ v2 = .slice ya yn yc ∧ CnI B rb rc0 s xa xn xc ya yn yc w u ∧ GatC B v1 s.R u ∧ OwnQ .i32 54 B v2 s.B u
section
variable {B rb rc0 : Nat} {s : Sn} {ra : Option Addr} {rn rc : Nat} {ga : Option Addr} {gn gc : Nat} {w u : World} {k : Nat} {f f2 : Nat → Value}
theorem CnC.c6 (hk : k ≤ 2) (h : CnC B rb rc0 s ra rn rc ga gn gc w k f u) : u.cell? ⟨rb, 6, none⟩ = some (.slice ra rn rc) := by
  match k, hk, h with
  | 0, _, h => exact (ten_cells h.bk).2.2.2.2.2.2.1
  | 1, _, h => exact (ten_cells h.1.bk).2.2.2.2.2.2.1
  | 2, _, h => exact (ten_cells h.1.bk).2.2.2.2.2.2.1
theorem CnC.c9 (hk : k ≤ 3) (h : CnC B rb rc0 s ra rn rc ga gn gc w k f u) : u.cell? ⟨rb, 9, none⟩ = some (.slice ga gn gc) := by
  match k, hk, h with
  | 0, _, h => exact (ten_cells h.bk).2.2.2.2.2.2.2.2.2
  | 1, _, h => exact (ten_cells h.1.bk).2.2.2.2.2.2.2.2.2
  | 2, _, h => exact (ten_cells h.1.bk).2.2.2.2.2.2.2.2.2
  | 3, _, ⟨_, _, _, _, _, _, _, h, _⟩ => exact (ten_cells h.bk).2.2.2.2.2.2.2.2.2
theorem CnC.cong (e5 : k = 1 ∨ k = 2 → f 5 = f2 5) (e8 : k = 2 ∨ k = 3 → f 8 = f2 8) (h : CnC B rb rc0 s ra rn rc ga gn gc w k f u) : CnC B rb rc0 s ra rn rc ga gn gc w k f2 u := by
  match k, h, e5, e8 with
  | 0, h, _, _ => exact h
  | 1, ⟨h, v, e, h2⟩, e5, _ => exact ⟨h, v, by rw [← e5 (.inl rfl)]; exact e, h2⟩
  | 2, ⟨h, v, v2, e, e2, h2⟩, e5, e8 => exact ⟨h, v, v2, by rw [← e5 (.inr rfl)]; exact e, by rw [← e8 (.inl rfl)]; exact e2, h2⟩
  | 3, ⟨v, v2, a, n, c, e, e2, h⟩, _, e8 => exact ⟨v, v2, a, n, c, e, by rw [← e8 (.inr rfl)]; exact e2, h⟩
  | _ + 4, h, _, _ => exact h
end
def CnOkC (rb : Nat) (ra : Option Addr) (rn rc : Nat) (ga : Option Addr) (gn gc : Nat) : Nat → Value → World → Prop
  | 0, u, _ => u = .pointer (some ⟨rb, 6, none⟩)
  | 1, u, _ => u = .slice ra rn rc
  | 2, _, _ => True
  | 3, u, _ => u = .pointer (some ⟨rb, 9, none⟩)
  | 4, u, _ => u = .slice ga gn gc
  | 5, _, _ => True
  | 6, u, _ => u = .pointer (some ⟨rb, 6, none⟩)
  | 7, _, _ => True
  | 8, u, _ => u = .pointer (some ⟨rb, 9, none⟩)
  | 9, _, _ => True
  | _, _, _ => True
/-- what Clone leaves: a snap of its own -/
def SnPostC (s : Sn) (w : World) (e : Ending) (w' : World) : Prop := ∃ xa xn xc ya yn yc, e = .returned (.agg (snA s xa xn xc ya yn yc)) ∧ GatC w.heap.size (.slice xa xn xc) s.R w' ∧ OwnQ .i32 54 w.heap.size (.slice ya yn yc) s.B w' ∧ Below w.heap.size w w'
set_option maxRecDepth 100000 in
set_option maxHeartbeats 16000000 in
theorem ncloneC_any (s : Sn) (ra : Option Addr) (rn rc : Nat) (ga : Option Addr) (gn gc : Nat) (w : World) (h : SnIn .i32 ra rn rc ga gn gc s w) (hB : SnB s) :
    Calls Try.prog 17 #[.agg (snA s ra rn rc ga gn gc)] w (SnPostC s w) := by
  obtain ⟨rb, hrb⟩ : ∃ rb, w.heap.size = rb := ⟨_, rfl⟩
  obtain ⟨P, hP⟩ : ∃ P, SnPostC s w = P := ⟨_, rfl⟩
  rw [hP]
  have HP := Lib.hid hP
  obtain ⟨w1, hw1⟩ : ∃ w1, w.alloc (.cells (snA s ra rn rc ga gn gc) 27) = w1 := ⟨_, rfl⟩
  obtain ⟨w2, hw2⟩ : ∃ w2, w1.alloc (.cells #[.int .i64 0, .int .i64 0, .int .i64 0, .int .i64 0, .int .i64 0, .string ⟨#[]⟩, .slice none 0 0, .int .i64 0, .int .i64 0, .slice none 0 0] 27) = w2 := ⟨_, rfl⟩
  have hs1 : w1.heap.size = rb + 1 := by rw [← hw1, World.size_alloc, hrb]
  have hs2 : w2.heap.size = rb + 2 := by rw [← hw2, World.size_alloc, hs1]
  have hb1 : Below rb w w1 := by rw [← hw1, ← hrb]; exact (Below.refl _ _).alloc (Nat.le_refl _) _
  have hb2 : Below rb w w2 := by rw [← hw2]; exact hb1.alloc (by omega) _
  have hA1 : w1.heap[rb]? = some (.cells (snA s ra rn rc ga gn gc) 27 (0, 0)) := by rw [← hw1, ← hrb]; exact heap_alloc_new w _
  have hA : w2.heap[rb]? = some (.cells (snA s ra rn rc ga gn gc) 27 (0, 0)) := by rw [← hw2, Below.heap_alloc _ _ _ (by omega)]; exact hA1
  have hZ : w2.heap[rb + 1]? = some (.cells #[.int .i64 0, .int .i64 0, .int .i64 0, .int .i64 0, .int .i64 0, .string ⟨#[]⟩, .slice none 0 0, .int .i64 0, .int .i64 0, .slice none 0 0] 27 (0, 0)) := by rw [← hw2, ← hs1]; exact heap_alloc_new w1 _
  have H0 : Hid (CnI (rb + 2) rb (rb + 1) s ra rn rc ga gn gc w w2) := Lib.hid ⟨hA, hZ, hb2, by omega, by omega, by omega⟩
  have HI := Lib.hid h
  have HM := Lib.hid hB
  have HGn : Hid (gn ≤ 1000000) := Lib.hid (by rw [h.beg.len]; exact hB.beg)
  have HSz := Lib.hid hrb
  have HW1 := Lib.hid hw1
  have HW2 := Lib.hid hw2
  have HS1 := Lib.hid hs1
  clear hP h hB hw1 hw2 hs1 hs2 hb1 hb2 hA1 hA hZ hrb
  unfold snA at HW1 ⊢
  go_enter Try.func17, Try.ntmps17
  go_upto_region 1 with fail
  rw [HW1.out, HW2.out, HSz.out]
  refine Go.Proofs.Ytjlljkdlgkociaa.R.wp_region_kept [2, 5, 7, 9] [0, 0, 1, 1, 1, 2, 2, 3, 3, 4] (by kernel_rfl) (fun k f u => CnC (rb + 2) rb (rb + 1) s ra rn rc ga gn gc w k f u) (fun _ _ => True) (CnOkC rb ra rn rc ga gn gc) (by rfl) (by kernel_rfl) (by kernel_rfl) (by kernel_rfl) (by kernel_rfl) ?hcong ?hOk ?hop ?hdone ?h0
  case hcong => exact fun k f f2 u hs hst => CnC.cong (fun hk => hs 5 (Go.Proofs.Ytjlljkdlgkociaa.R.mem_slots (by rcases hk with hk | hk <;> (subst hk; kernel_rfl)))) (fun hk => hs 8 (Go.Proofs.Ytjlljkdlgkociaa.R.mem_slots (by rcases hk with hk | hk <;> (subst hk; kernel_rfl)))) hst
  case hOk => intro i u w1 w2 h hr; unfold CnOkC at h ⊢; split <;> first | exact True.intro | exact h
  case h0 => exact H0.out.below ((Below.refl _ _).drew)
  case hop =>
    refine ⟨?_, ?_, ?_, ?_, ?_, ?_, ?_, ?_, ?_, ?_, trivial⟩
    · intro k z v hk hst hag hdep hfr
      refine .inl ⟨rfl, fun K hK => ?_⟩
      have d1 : z.tmps.getD 1 undef = .pointer (some ⟨rb, 0, none⟩) := hag.2.2 1 (by kernel_rfl)
      have e1 := d1
      rw [Array.getD_eq_getD_getElem?] at e1
      have HSt := Lib.hid hst
      clear hdep hfr hag hst
      go_simp
      exact hK _ _ trivial rfl HSt.out
    · intro k z v hk hst hag hdep hfr
      refine .inl ⟨rfl, fun K hK => ?_⟩
      have d3 : z.tmps.getD 3 undef = .pointer (some ⟨rb, 6, none⟩) := hdep { on := 0, ground := .data } (by simp) rfl _ _ rfl rfl
      have e3 := d3
      rw [Array.getD_eq_getD_getElem?] at e3
      have l0 := CnC.c6 (Nat.le_trans hk (by decide)) hst
      have HSt := Lib.hid hst
      clear hdep hfr hag hst
      go_simp
      exact hK _ _ trivial rfl HSt.out
    · intro z v hst hag hdep hfr
      refine ⟨rfl, fun K hK => ?_⟩
      have d4 : z.tmps.getD 4 undef = .slice ra rn rc := hdep { on := 1, ground := .data } (by simp) rfl _ _ rfl rfl
      have e4 := d4
      rw [Array.getD_eq_getD_getElem?] at e4
      have h0 : CnI (rb + 2) rb (rb + 1) s ra rn rc ga gn gc w v := hst
      have HC := Lib.hid (ncopiedC_any ra rn rc s.R v (HI.out.rows.below (by rw [HSz.out]; exact h0.bw)) HM.out.rows (fun r hr => by have := HM.out.cells r hr; omega))
      have hsz : 5 < z.tmps.size := by rw [hag.2.1]; show 5 < 12; decide
      have HSt := Lib.hid h0
      clear hdep hfr hag h0 hst
      go_simp
      refine HC.out.mono ?_
      rintro e w' ⟨v2, rfl, hG, hb⟩
      exact hK _ _ trivial True.intro ⟨HSt.out.below hb, v2, Go.Proofs.Ytjlljkdlgkociaa.R.slot_same hsz, hG.weaken HSt.out.sz⟩
    · intro k z v hk hst hag hdep hfr
      refine .inl ⟨rfl, fun K hK => ?_⟩
      have d1 : z.tmps.getD 1 undef = .pointer (some ⟨rb, 0, none⟩) := hag.2.2 1 (by kernel_rfl)
      have e1 := d1
      rw [Array.getD_eq_getD_getElem?] at e1
      have HSt := Lib.hid hst
      clear hdep hfr hag hst
      go_simp
      exact hK _ _ trivial rfl HSt.out
    · intro k z v hk hst hag hdep hfr
      refine .inl ⟨rfl, fun K hK => ?_⟩
      have d6 : z.tmps.getD 6 undef = .pointer (some ⟨rb, 9, none⟩) := hdep { on := 3, ground := .data } (by simp) rfl _ _ rfl rfl
      have e6 := d6
      rw [Array.getD_eq_getD_getElem?] at e6
      have l0 := CnC.c9 (Nat.le_trans hk (by decide)) hst
      have HSt := Lib.hid hst
      clear hdep hfr hag hst
      go_simp
      exact hK _ _ trivial rfl HSt.out
    · intro z v hst hag hdep hfr
      refine ⟨rfl, fun K hK => ?_⟩
      have d7 : z.tmps.getD 7 undef = .slice ga gn gc := hdep { on := 4, ground := .data } (by simp) rfl _ _ rfl rfl
      have e7 := d7
      rw [Array.getD_eq_getD_getElem?] at e7
      obtain ⟨h0, v1, f5, hG⟩ := hst
      have hsz : 8 < z.tmps.size := by rw [hag.2.1]; show 8 < 12; decide
      have HC := Lib.hid (clone_pairs ga gn gc s.B v (HI.out.beg.belowAll (by rw [HSz.out]; exact h0.bw)) HI.out.nil HGn.out)
      have HSt := Lib.hid h0
      have HG := Lib.hid hG
      have hf5 : z.tmps.getD 5 undef = v1 := f5
      have HF5 := Lib.hid hf5
      clear hdep hfr hag h0 f5 hf5 hG
      go_simp
      refine HC.out.mono ?_
      rintro e w' ⟨v2, rfl, hO, hb⟩
      exact hK _ _ trivial True.intro ⟨HSt.out.below hb, v1, v2, by show (z.tmps.setIfInBounds 8 v2).getD 5 undef = v1; rw [Array.getD_eq_getD_getElem?, Array.getElem?_setIfInBounds_ne (by decide), ← Array.getD_eq_getD_getElem?]; exact HF5.out, Go.Proofs.Ytjlljkdlgkociaa.R.slot_same hsz, HG.out.below hb, hO.weaken HSt.out.sz⟩
    · intro k z v hk hst hag hdep hfr
      refine .inl ⟨rfl, fun K hK => ?_⟩
      have d1 : z.tmps.getD 1 undef = .pointer (some ⟨rb, 0, none⟩) := hag.2.2 1 (by kernel_rfl)
      have e1 := d1
      rw [Array.getD_eq_getD_getElem?] at e1
      have HSt := Lib.hid hst
      clear hdep hfr hag hst
      go_simp
      exact hK _ _ trivial rfl HSt.out
    · intro z v hst hag hdep hfr
      refine ⟨rfl, fun K hK => ?_⟩
      have d9 : z.tmps.getD 9 undef = .pointer (some ⟨rb, 6, none⟩) := hdep { on := 6, ground := .data } (by simp) rfl _ _ rfl rfl
      have e9 := d9
      rw [Array.getD_eq_getD_getElem?] at e9
      obtain ⟨h0, v1, v2, f5, f8, hG, hO⟩ := hst
      obtain ⟨xa, xc, hv1⟩ := hG.shape
      obtain ⟨xn, hxn⟩ : ∃ n, s.R.length = n := ⟨_, rfl⟩
      rw [hxn] at hv1
      subst hv1
      have d5 : z.tmps.getD 5 undef = .slice xa xn xc := f5
      have e5 := d5
      rw [Array.getD_eq_getD_getElem?] at e5
      have l0 : v.cell? ⟨rb, 6, none⟩ = some (.slice ra rn rc) := (ten_cells h0.bk).2.2.2.2.2.2.1
      have l1 := frozen_block h0.bk 6
      have HSt := Lib.hid h0
      have HG := Lib.hid hG
      have HO := Lib.hid hO
      have HF8 : Hid (z.tmps.getD 8 undef = v2) := Lib.hid f8
      clear hdep hfr hag h0 f5 f8 hG hO
      go_simp
      exact hK undef _ trivial True.intro ⟨_, v2, xa, xn, xc, rfl, HF8.out, HSt.out.set6 xa xn xc, HG.out.setOther (by have := HSt.out.rl; omega) _ _, ownQ_grown HO.out (grown_set v rb 6 _) (by have := HSt.out.rl; omega)⟩
    · intro k z v hk hst hag hdep hfr
      refine .inl ⟨rfl, fun K hK => ?_⟩
      have d1 : z.tmps.getD 1 undef = .pointer (some ⟨rb, 0, none⟩) := hag.2.2 1 (by kernel_rfl)
      have e1 := d1
      rw [Array.getD_eq_getD_getElem?] at e1
      have HSt := Lib.hid hst
      clear hdep hfr hag hst
      go_simp
      exact hK _ _ trivial rfl HSt.out
    · intro z v hst hag hdep hfr
      refine ⟨rfl, fun K hK => ?_⟩
      have d10 : z.tmps.getD 10 undef = .pointer (some ⟨rb, 9, none⟩) := hdep { on := 8, ground := .data } (by simp) rfl _ _ rfl rfl
      have e10 := d10
      rw [Array.getD_eq_getD_getElem?] at e10
      obtain ⟨v1, v2, xa, xn, xc, hv1, f8, h0, hG, hO⟩ := hst
      obtain ⟨ya, yc, hv2, -⟩ := hO.shape
      obtain ⟨yn, hyn⟩ : ∃ n, s.B.length = n := ⟨_, rfl⟩
      rw [hyn] at hv2
      subst hv2
      have d8 : z.tmps.getD 8 undef = .slice ya yn yc := f8
      have e8 := d8
      rw [Array.getD_eq_getD_getElem?] at e8
      have l0 : v.cell? ⟨rb, 9, none⟩ = some (.slice ga gn gc) := (ten_cells h0.bk).2.2.2.2.2.2.2.2.2
      have l1 := frozen_block h0.bk 9
      have HSt := Lib.hid h0
      have HG := Lib.hid hG
      have HO := Lib.hid hO
      have HV1 := Lib.hid hv1
      clear hdep hfr hag h0 f8 hG hO
      go_simp
      exact hK undef _ trivial True.intro ⟨_, _, xa, xn, xc, ya, yn, yc, HV1.out, rfl, HSt.out.set9 ya yn yc, HG.out.setOther (by have := HSt.out.rl; omega) _ _, ownQ_grown HO.out (grown_set v rb 9 _) (by have := HSt.out.rl; omega)⟩
  case hdone =>
    intro z v hst hag hok
    obtain ⟨v1, v2, xa, xn, xc, ya, yn, yc, rfl, rfl, hC, hG, hO⟩ : ∃ v1 v2 xa xn xc ya yn yc, v1 = Value.slice xa xn xc ∧ v2 = Value.slice ya yn yc ∧ CnI (rb + 2) rb (rb + 1) s xa xn xc ya yn yc w v ∧ GatC (rb + 2) v1 s.R v ∧ OwnQ .i32 54 (rb + 2) v2 s.B v := hst
    have HE : Hid (CnI (rb + 2) rb (rb + 1) s xa xn xc ya yn yc w v ∧ GatC (rb + 2) (.slice xa xn xc) s.R v ∧ OwnQ .i32 54 (rb + 2) (.slice ya yn yc) s.B v) := Lib.hid ⟨hC, hG, hO⟩
    clear hC hG hO
    obtain ⟨uu, hu, hzz⟩ := Go.Proofs.Ytjlljkdlgkociaa.R.agree_frame [3, 4, 5, 6, 7, 8, 9, 10] rfl hag

    subst hzz
    simp only [List.foldl_cons, List.foldl_nil]
    clear hu hag hok
    try dsimp only [Exit.then]
    simp only [List.setIfInBounds_toArray, List.set_cons_succ, List.set_cons_zero]
    generalize uu 3 = u3', uu 4 = u4', uu 5 = u5', uu 6 = u6', uu 7 = u7', uu 8 = u8', uu 9 = u9', uu 10 = u10'
    clear uu
    rename_i K hK
    refine hK _ _ ?_
    obtain ⟨c0, c1, c2, c3, c4, c5, c6, c7, c8, c9⟩ := ten_cells HE.out.1.bk
    obtain ⟨d0, d1, d2, d3, d4, d5, d6, d7, d8, d9⟩ : v.cell? ⟨rb + 1, 0, none⟩ = some (.int .i64 0) ∧ v.cell? ⟨rb + 1, 1, none⟩ = some (.int .i64 0) ∧ v.cell? ⟨rb + 1, 2, none⟩ = some (.int .i64 0) ∧ v.cell? ⟨rb + 1, 3, none⟩ = some (.int .i64 0) ∧ v.cell? ⟨rb + 1, 4, none⟩ = some (.int .i64 0) ∧ v.cell? ⟨rb + 1, 5, none⟩ = some (.string ⟨#[]⟩) ∧ v.cell? ⟨rb + 1, 6, none⟩ = some (.slice none 0 0) ∧ v.cell? ⟨rb + 1, 7, none⟩ = some (.int .i64 0) ∧ v.cell? ⟨rb + 1, 8, none⟩ = some (.int .i64 0) ∧ v.cell? ⟨rb + 1, 9, none⟩ = some (.slice none 0 0) := ten_cells (s := emptyN) HE.out.1.zk
    have f0 := frozen_block HE.out.1.zk 0
    have f1 := frozen_block HE.out.1.zk 1
    have f2 := frozen_block HE.out.1.zk 2
    have f3 := frozen_block HE.out.1.zk 3
    have f4 := frozen_block HE.out.1.zk 4
    have f5 := frozen_block HE.out.1.zk 5
    have f6 := frozen_block HE.out.1.zk 6
    have f7 := frozen_block HE.out.1.zk 7
    have f8 := frozen_block HE.out.1.zk 8
    have f9 := frozen_block HE.out.1.zk 9
    have hend : Hid (P (.returned (.agg (snA s xa xn xc ya yn yc))) ((((((((((v.setCell ⟨rb + 1, 0, none⟩ (.int .i64 s.k)).setCell ⟨rb + 1, 1, none⟩ (.int .i64 s.w)).setCell ⟨rb + 1, 2, none⟩ (.int .i64 s.h)).setCell ⟨rb + 1, 3, none⟩ (.int .i64 s.x)).setCell ⟨rb + 1, 4, none⟩ (.int .i64 s.y)).setCell ⟨rb + 1, 5, none⟩ (.string s.t)).setCell ⟨rb + 1, 6, none⟩ (.slice xa xn xc)).setCell ⟨rb + 1, 7, none⟩ (.int .i64 s.n)).setCell ⟨rb + 1, 8, none⟩ (.int .i64 s.c)).setCell ⟨rb + 1, 9, none⟩ (.slice ya yn yc))) := Lib.hid (by
      rw [← HP.out]
      have hg : ∀ (u : World) (o : Nat) (x : Value), u.grownBy (u.setCell ⟨rb + 1, o, none⟩ x) (some (rb + 1)) := fun u o x => grown_set u (rb + 1) o x
      have g10 : v.grownBy ((((((((((v.setCell ⟨rb + 1, 0, none⟩ (.int .i64 s.k)).setCell ⟨rb + 1, 1, none⟩ (.int .i64 s.w)).setCell ⟨rb + 1, 2, none⟩ (.int .i64 s.h)).setCell ⟨rb + 1, 3, none⟩ (.int .i64 s.x)).setCell ⟨rb + 1, 4, none⟩ (.int .i64 s.y)).setCell ⟨rb + 1, 5, none⟩ (.string s.t)).setCell ⟨rb + 1, 6, none⟩ (.slice xa xn xc)).setCell ⟨rb + 1, 7, none⟩ (.int .i64 s.n)).setCell ⟨rb + 1, 8, none⟩ (.int .i64 s.c)).setCell ⟨rb + 1, 9, none⟩ (.slice ya yn yc)) (some (rb + 1)) := grown_trans (grown_trans (grown_trans (grown_trans (grown_trans (grown_trans (grown_trans (grown_trans (grown_trans (hg v 0 _) (hg _ 1 _)) (hg _ 2 _)) (hg _ 3 _)) (hg _ 4 _)) (hg _ 5 _)) (hg _ 6 _)) (hg _ 7 _)) (hg _ 8 _)) (hg _ 9 _)
      have hb : Below rb v _ := (Below.refl rb v).grown g10 (by have := HE.out.1.sz; omega) (fun q e => by have := Option.some.inj e; omega)
      exact ⟨xa, xn, xc, ya, yn, yc, rfl, (HE.out.2.1.grown g10 (by omega)).weaken (by rw [HSz.out]; omega), (ownQ_grown HE.out.2.2 g10 (by omega)).weaken (by rw [HSz.out]; omega), by rw [HSz.out]; exact HE.out.1.bw.trans hb⟩)
    unfold snA at hend
    go_wp2_with fail
    refine bodyPost_ret (v := .agg #[.int .i64 s.k, .int .i64 s.w, .int .i64 s.h, .int .i64 s.x, .int .i64 s.y, .string s.t, .slice xa xn xc, .int .i64 s.n, .int .i64 s.c, .slice ya yn yc]) (by rw [results_cell rfl]; go_simp) rfl ?_
    exact hend.out
end Go.Proofs.Ytjlljkdlgkociaa.K
