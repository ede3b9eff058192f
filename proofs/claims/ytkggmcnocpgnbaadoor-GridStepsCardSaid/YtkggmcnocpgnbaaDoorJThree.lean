/- The program's grid: its size, another one like it, a row that is put. -/
import Derived.Test.YtkggmcnocpgnbaaDoorMerged14
import Derived.Test.YtkggmcnocpgnbaaDoorMerged7
namespace Go.Proofs.YtkggmcnocpgnbaaDoor.K
open Go.RowKit

/-! ## a row that is stored -/
theorem run_store_row {t T : TypeId} {bytes : Nat} (hI : RvT t T bytes) (base g cap : Nat) (l : List Rv) (i : Nat) (c : Rv) (w : World) (hown : OwnV T base (.slice (some ⟨g, 0, none⟩) l.length cap) l w) (hi : i < l.length) :
    ∃ w', (storeVar T ⟨g, i * 2, none⟩ (.agg (vArr c))).run Tryd.prog w = .ok () w' ∧ OwnV T base (.slice (some ⟨g, 0, none⟩) l.length cap) (l.set i c) w' ∧ w.grownBy w' (some g) := by
  obtain ⟨i0, hin, hz0, hz1, hz2⟩ := info_parts hI.info
  have hsz : ∀ w, (sizeOf T).run Tryd.prog w = .ok 2 w := fun w => by simp [sizeOf, typeInfo, hin, hz1]
  rcases hown.2 with ⟨h0, _⟩ | ⟨g', cap', cur, he, hbase, hg, hc, hm, hs, ht⟩
  · cases h0
  · obtain ⟨rfl, rfl⟩ : g = g' ∧ cap = cap' := by injection he with h1 h2 h3; injection h1 with h1; injection h1 with h1; exact ⟨h1, h3⟩
    have hcur : cur.toList.length = cap * 2 := by simpa using hs
    have hst := run_storeCells_at (P := Tryd.prog) g (i * 2) T (vCells c) 0 cur w hg (by simp [vCells, hs]; omega) (fun u hu => flatV_one [c] u (by simpa [flatV] using hu))
    simp only [Nat.add_zero] at hst
    have h3 : (vCells c).length = 2 := rfl
    rw [h3] at hst
    obtain ⟨C2, hC2⟩ : ∃ C2, (cur.toList.take (i * 2) ++ vCells c ++ cur.toList.drop (i * 2 + 2)) = C2 := ⟨_, rfl⟩
    rw [hC2] at hst
    refine ⟨w.setRow g C2.toArray, ?_, ⟨by rw [flatV_len, List.length_set], .inr ⟨g, cap, C2.toArray, by rw [List.length_set], hbase, setRow_heap w g cur C2.toArray T (0, 0) hg, by rw [List.length_set]; exact hc, hm, ?_, ?_⟩⟩, ⟨rfl, rfl, rfl, by simp [World.setRow], fun k _ hn => setRow_other w g k _ (fun e => hn (by rw [e]))⟩⟩
    · unfold storeVar
      simp only [Sem.run_bind, hsz, Result.andThen_ok, Value.cells, show (vArr c).size = 2 from rfl, ne_eq, not_true_eq_false, if_false, Sem.run_pure]
      exact hst
    · simp only [List.size_toArray]
      rw [← hC2]
      simp only [List.length_append, List.length_take, List.length_drop, hcur, h3]
      omega
    · show C2.take ((l.set i c).length * 2) = _
      rw [List.length_set, flatV_set l i c hi, ← hC2, ← ht]
      have ha : (cur.toList.take (i * 2)).length = i * 2 := by rw [List.length_take]; omega
      rw [List.take_append, List.take_append, List.length_append, ha, h3, List.take_of_length_le (l := cur.toList.take (i * 2)) (by rw [ha]; omega), List.take_of_length_le (l := vCells c) (by rw [h3]; omega), List.take_take, Nat.min_eq_left (by omega), List.drop_take]
theorem wpList_store_row {t T : TypeId} {bytes : Nat} (hI : RvT t T bytes) {ops : Array Oper} {rest : List Oper} {o : Oper} {z : Act} {w : World} {Q : Exit → Act → World → Prop} (hgd : o.guard = none) (hd : o.dst = none) (pa pv : Operand) (ho : o.op = .store T pa pv)
    (base g cap : Nat) (l : List Rv) (i : Nat) (c : Rv) (hpa : z.eval pa = .pointer (some ⟨g, i * 2, none⟩)) (hpv : z.eval pv = .agg (vArr c)) (hown : OwnV T base (.slice (some ⟨g, 0, none⟩) l.length cap) l w) (hi : i < l.length)
    (hK : ∀ w', OwnV T base (.slice (some ⟨g, 0, none⟩) l.length cap) (l.set i c) w' → w.grownBy w' (some g) → wpList Tryd.prog ops Q rest z w') : wpList Tryd.prog ops Q (o :: rest) z w :=
  wpList_plain hgd fun _ hK' => by
    obtain ⟨w', hr, h1, h2⟩ := run_store_row hI base g cap l i c w hown hi
    unfold Oper.wp execOp
    simp only [ho, hpa, hpv, Instr.storeAt, Instr.sureAddr, asAddr, Sem.run_bind, Sem.run_pure, Result.andThen_ok, hr]
    exact hK' _ _ (by rw [hd]; exact hK w' h1 h2)
/-! ## slices.Clone of rows -/
set_option maxRecDepth 100000 in
set_option maxHeartbeats 4000000 in
theorem cloneRows_any {q n cap : Nat} {us : List Rv} (w : World) (h : RvsIn (some ⟨q, 0, none⟩) n cap us w) (hn : 1 ≤ n) (hn2 : n ≤ 1000) :
    Calls Tryd.prog 80 #[.slice (some ⟨q, 0, none⟩) n cap] w fun e w' => ∃ q2 c2, e = .returned (.slice (some ⟨q2, 0, none⟩) us.length c2) ∧ OwnV 27 w.heap.size (.slice (some ⟨q2, 0, none⟩) us.length c2) us w' ∧ Below w.heap.size w w' := by
  obtain ⟨P, hP⟩ : ∃ P : Ending → World → Prop, (fun e w' => ∃ q2 c2, e = .returned (.slice (some ⟨q2, 0, none⟩) us.length c2) ∧ OwnV 27 w.heap.size (.slice (some ⟨q2, 0, none⟩) us.length c2) us w' ∧ Below w.heap.size w w') = P := ⟨_, rfl⟩
  rw [hP]
  have HP := Lib.hid hP
  have HL := Lib.hid h.len
  have hb1 : Below w.heap.size w (w.alloc (.cells #[] 27)) := (Below.refl _ _).alloc (Nat.le_refl _) _
  have HO1 := Lib.hid (OwnV.lit 27 w w.heap.size (Nat.le_refl _))
  have HR1 := Lib.hid (h.belowAll hb1)
  have HS1 := Lib.hid hb1.size
  have HB1 := Lib.hid hb1
  have HLn : Hid ((us.length : Int) ≤ 1000000) := Lib.hid (by have := HL.out; omega)
  have qn : ∀ (w : World), (binOp .eql 66 (.slice (some ⟨q, 0, none⟩) n cap) (.slice none 0 0)).run Tryd.prog w = .ok (.bool false) w := fun w => Lib.run_eql_slice_nil w _ _ (some ⟨q, 0, none⟩) n cap 0 0 Tryd.underlying66
  clear hP hb1 h
  go_enter Tryd.func80, Tryd.ntmps80
  go_wp2_with (refine wpList_append_rows rowsT rfl _ _ rfl rfl w.heap.size _ [] (some ⟨q, 0, none⟩) n cap us rfl rfl HO1.out HR1.out (fun e => by cases e) (by simp) HLn.out HS1.out ?_)
  intro v' w2 ho hg
  try rw [List.nil_append] at ho
  have hl := HL.out
  have hb2 : Below w.heap.size w w2 := HB1.out.grown hg HS1.out (fun k hk => (HO1.out.ownBlock k hk).1)
  obtain ⟨a2, c2, rfl, h2, -, h4⟩ := ho.shape
  obtain ⟨b, off, rfl, -, -⟩ := h2.at_.resolve_left (by intro e; rw [e] at hl; simp at hl; omega)
  have hoff : off = 0 := by
    rcases ho.2 with ⟨h0, _⟩ | ⟨g', cap', cur, he, _⟩
    · cases h0
    · cases he; rfl
  subst hoff
  have HF : Hid (OwnV 27 w.heap.size (.slice (some ⟨b, 0, none⟩) us.length c2) us w2 ∧ Below w.heap.size w w2) := Lib.hid ⟨ho, hb2⟩
  obtain ⟨m, hm⟩ : ∃ m, us.length = m := ⟨_, rfl⟩
  rw [hm]
  have HM := Lib.hid hm
  clear ho hb2 hg h2 h4 hm hl
  go_wp2_with fail
  rw [← HP.out]
  exact ⟨b, c2, by rw [HM.out]; rfl, HF.out.1, HF.out.2⟩
def CloOk (g q n cap W rb : Nat) (us : List Rv) : Nat → Value → World → Prop
  | 0, u, _ => u = .pointer (some ⟨g, 0, none⟩)
  | 1, u, _ => u = .pointer (some ⟨g, 0, none⟩)
  | 2, u, _ => u = .pointer (some ⟨g, 0, none⟩)
  | 3, u, _ => u = .int .i64 (W : Int)
  | 4, u, _ => u = .pointer (some ⟨g, 0, none⟩)
  | 5, u, _ => u = .pointer (some ⟨g, 0, none⟩)
  | 6, u, _ => u = .pointer (some ⟨g, 1, none⟩)
  | 7, u, _ => u = .slice (some ⟨q, 0, none⟩) n cap
  | 8, u, w => ∃ q2 c2, u = .slice (some ⟨q2, 0, none⟩) n c2 ∧ OwnV 27 rb (.slice (some ⟨q2, 0, none⟩) n c2) us w
  | 9, u, w => ∃ q2 c2, u = .agg #[.int .i64 (W : Int), .slice (some ⟨q2, 0, none⟩) n c2] ∧ OwnV 27 rb (.slice (some ⟨q2, 0, none⟩) n c2) us w
  | 10, u, w => ∃ g2 q2 c2, u = .pointer (some ⟨g2, 0, none⟩) ∧ rb ≤ g2 ∧ w.heap[g2]? = some (.cells #[.int .i64 (W : Int), .slice (some ⟨q2, 0, none⟩) n c2] 130 (0, 0)) ∧ OwnV 27 rb (.slice (some ⟨q2, 0, none⟩) n c2) us w
  | 11, u, w => ∃ g2 q2 c2, u = .pointer (some ⟨g2, 0, none⟩) ∧ rb ≤ g2 ∧ w.heap[g2]? = some (.cells #[.int .i64 (W : Int), .slice (some ⟨q2, 0, none⟩) n c2] 130 (0, 0)) ∧ OwnV 27 rb (.slice (some ⟨q2, 0, none⟩) n c2) us w
  | _, _, _ => True
def SetOk (g q n cap W rb k : Nat) (ra : Option Addr) (rn rc : Nat) (rw0 bb : Bool) (l : List Cel) : Nat → Value → World → Prop
  | 0, u, _ => u = .pointer (some ⟨g, 0, none⟩)
  | 1, u, _ => u = .pointer (some ⟨g, 0, none⟩)
  | 2, u, _ => u = .pointer (some ⟨g, 1, none⟩)
  | 3, u, _ => u = .slice (some ⟨q, 0, none⟩) n cap
  | 4, u, _ => u = .int .i64 (k : Int)
  | 5, u, _ => u = .agg #[.slice ra rn rc, .bool rw0]
  | 6, u, _ => u = .pointer (some ⟨g, 0, none⟩)
  | 7, u, _ => u = .pointer (some ⟨g, 0, none⟩)
  | 8, u, _ => u = .pointer (some ⟨g, 0, none⟩)
  | 9, u, _ => u = .int .i64 (W : Int)
  | 10, u, w => ∃ x y, u = .agg #[.slice x W y, .bool bb] ∧ OwnC .i32 105 rb (.slice x W y) l w
  | 11, u, _ => u = .pointer (some ⟨q, k * 2, none⟩)
  | _, _, _ => True
set_option maxRecDepth 100000 in
set_option maxHeartbeats 4000000 in
theorem gclone_any {g q : Nat} {x : Gd} {us : List Rv} {cap : Nat} (w : World) (h : GridAt g q x us cap w) :
    Calls Tryd.prog 45 #[.pointer (some ⟨g, 0, none⟩)] w fun e w' => ∃ g2 q2, e = .returned (.pointer (some ⟨g2, 0, none⟩)) ∧ w.heap.size ≤ g2 ∧ w.heap.size ≤ q2 ∧ Gr g2 q2 x w' ∧ Below w.heap.size w w' := by
  obtain ⟨n, hn⟩ : ∃ n, us.length = n := ⟨_, rfl⟩
  obtain ⟨W, hW⟩ : ∃ W, x.W = W := ⟨_, rfl⟩
  obtain ⟨rb, hrb⟩ : ∃ rb, w.heap.size = rb := ⟨_, rfl⟩
  have HC0 := Lib.hid h.c0
  have HC1 := Lib.hid h.c1
  have HGl := Lib.hid h.lt.1
  have HRi := Lib.hid h.rin
  have HFew := Lib.hid h.few
  have HRb : Hid (rb ≤ w.heap.size) := Lib.hid (by omega)
  have HN := Lib.hid hn
  have HW := Lib.hid hW
  have HGr := Lib.hid h
  rw [hn] at HC1 HRi HFew
  rw [hW] at HC0
  rw [hrb]
  have HRe := Lib.hid hrb
  clear hn hW h hrb
  go_enter Tryd.func45, Tryd.ntmps45
  go_upto_region 1 with fail
  refine Go.Proofs.YtkggmcnocpgnbaaDoor.R.wp_region_rel (by kernel_rfl) (fun u => Below w.heap.size w u) (fun u v => Below u.heap.size u v) (CloOk g q n cap W rb us) (by rfl) (by kernel_rfl) (by kernel_rfl) ?hC ?hOk ?hop ?hdone ((Below.refl _ _).drew)
  case hC => exact fun u v h1 h2 => h1.trans (h2.mono h1.size)
  case hOk =>
    intro i u w1 w2 h hr
    unfold CloOk at h ⊢
    split <;> first | exact True.intro | exact h | (obtain ⟨x, y, e, h1⟩ := h; exact ⟨x, y, e, h1.belowAll hr⟩) | (obtain ⟨x, y, c, e, h0, h1, h2⟩ := h; exact ⟨x, y, c, e, h0, (hr.block _ (Array.getElem?_eq_some_iff.1 h1).1).trans h1, h2.belowAll hr⟩)
  case hop =>
    refine ⟨?_, ?_, ?_, ?_, ?_, ?_, ?_, ?_, ?_, ?_, ?_, ?_, trivial⟩
    · intro z v hz hag hdep
      refine .inl ⟨rfl, fun K hK => ?_⟩
      have d0 : z.tmps.getD 0 undef = .pointer (some ⟨g, 0, none⟩) := hag.2.2 0 (by kernel_rfl)
      have e0 := d0
      rw [Array.getD_eq_getD_getElem?] at e0
      clear hdep hag 
      go_simp
      exact hK _ _ (Below.refl _ _) rfl
    · intro z v hz hag hdep
      refine .inl ⟨rfl, fun K hK => ?_⟩
      have d3 : z.tmps.getD 3 undef = .pointer (some ⟨g, 0, none⟩) := hdep { on := 0, ground := .data } (by simp) rfl _ _ rfl rfl
      have e3 := d3
      rw [Array.getD_eq_getD_getElem?] at e3
      clear hdep hag 
      go_simp
      exact hK _ _ (Below.refl _ _) rfl
    · intro z v hz hag hdep
      refine .inl ⟨rfl, fun K hK => ?_⟩
      have d4 : z.tmps.getD 4 undef = .pointer (some ⟨g, 0, none⟩) := hdep { on := 1, ground := .data } (by simp) rfl _ _ rfl rfl
      have e4 := d4
      rw [Array.getD_eq_getD_getElem?] at e4
      clear hdep hag 
      go_simp
      exact hK _ _ (Below.refl _ _) rfl
    · intro z v hz hag hdep
      refine .inl ⟨rfl, fun K hK => ?_⟩
      have d5 : z.tmps.getD 5 undef = .pointer (some ⟨g, 0, none⟩) := hdep { on := 2, ground := .data } (by simp) rfl _ _ rfl rfl
      have e5 := d5
      rw [Array.getD_eq_getD_getElem?] at e5
      have l0 := (hz.cell (p := ⟨g, 0, none⟩) HGl.out).trans HC0.out
      clear hz
      clear hdep hag 
      go_simp
      exact hK _ _ (Below.refl _ _) rfl
    · intro z v hz hag hdep
      refine .inl ⟨rfl, fun K hK => ?_⟩
      have d0 : z.tmps.getD 0 undef = .pointer (some ⟨g, 0, none⟩) := hag.2.2 0 (by kernel_rfl)
      have e0 := d0
      rw [Array.getD_eq_getD_getElem?] at e0
      clear hdep hag 
      go_simp
      exact hK _ _ (Below.refl _ _) rfl
    · intro z v hz hag hdep
      refine .inl ⟨rfl, fun K hK => ?_⟩
      have d7 : z.tmps.getD 7 undef = .pointer (some ⟨g, 0, none⟩) := hdep { on := 4, ground := .data } (by simp) rfl _ _ rfl rfl
      have e7 := d7
      rw [Array.getD_eq_getD_getElem?] at e7
      clear hdep hag 
      go_simp
      exact hK _ _ (Below.refl _ _) rfl
    · intro z v hz hag hdep
      refine .inl ⟨rfl, fun K hK => ?_⟩
      have d8 : z.tmps.getD 8 undef = .pointer (some ⟨g, 0, none⟩) := hdep { on := 5, ground := .data } (by simp) rfl _ _ rfl rfl
      have e8 := d8
      rw [Array.getD_eq_getD_getElem?] at e8
      clear hdep hag 
      go_simp
      exact hK _ _ (Below.refl _ _) rfl
    · intro z v hz hag hdep
      refine .inl ⟨rfl, fun K hK => ?_⟩
      have d9 : z.tmps.getD 9 undef = .pointer (some ⟨g, 1, none⟩) := hdep { on := 6, ground := .data } (by simp) rfl _ _ rfl rfl
      have e9 := d9
      rw [Array.getD_eq_getD_getElem?] at e9
      have l0 := (hz.cell (p := ⟨g, 1, none⟩) HGl.out).trans HC1.out
      clear hz
      clear hdep hag 
      go_simp
      exact hK _ _ (Below.refl _ _) rfl
    · intro z v hz hag hdep
      refine .inl ⟨rfl, fun K hK => ?_⟩
      have d10 : z.tmps.getD 10 undef = .slice (some ⟨q, 0, none⟩) n cap := hdep { on := 7, ground := .data } (by simp) rfl _ _ rfl rfl
      have e10 := d10
      rw [Array.getD_eq_getD_getElem?] at e10
      have HC := Lib.hid (cloneRows_any v (HRi.out.belowAll hz) HFew.out.1 HFew.out.2)
      have HZs := Lib.hid hz.size
      clear hdep hag hz
      go_simp
      refine HC.out.mono ?_
      rintro e w' ⟨q2, c2, rfl, h1, h2⟩
      rw [HN.out] at h1 ⊢
      exact hK _ _ h2 ⟨q2, c2, rfl, h1.weaken (Nat.le_trans HRb.out HZs.out)⟩
    · intro z v hz hag hdep
      refine .inl ⟨rfl, fun K hK => ?_⟩
      have d6 : z.tmps.getD 6 undef = .int .i64 (W : Int) := hdep { on := 3, ground := .data } (by simp) rfl _ _ rfl rfl
      have e6 := d6
      rw [Array.getD_eq_getD_getElem?] at e6
      have d11' : CloOk g q n cap W rb us 8 (z.tmps.getD 11 undef) v := hdep { on := 8, ground := .data } (by simp) rfl _ _ rfl rfl
      simp only [CloOk] at d11'
      obtain ⟨q2, c2, d11, hO⟩ := d11'
      have e11 := d11
      rw [Array.getD_eq_getD_getElem?] at e11
      clear hdep hag hz
      go_simp
      exact hK _ _ (Below.refl _ _) ⟨q2, c2, rfl, hO⟩
    · intro z v hz hag hdep
      refine .inl ⟨rfl, fun K hK => ?_⟩
      have d12' : CloOk g q n cap W rb us 9 (z.tmps.getD 12 undef) v := hdep { on := 9, ground := .data } (by simp) rfl _ _ rfl rfl
      simp only [CloOk] at d12'
      obtain ⟨q2, c2, d12, hO⟩ := d12'
      have e12 := d12
      rw [Array.getD_eq_getD_getElem?] at e12
      have hzs := hz.size
      have HO := Lib.hid hO
      clear hdep hag hz hO
      go_simp
      exact hK _ _ ((Below.refl _ _).alloc (Nat.le_refl _) _) ⟨v.heap.size, q2, c2, rfl, Nat.le_trans HRb.out hzs, World.alloc_heap_new _ _, HO.out.alloc _⟩
    · intro z v hz hag hdep
      refine .inl ⟨rfl, fun K hK => ?_⟩
      have d13' : CloOk g q n cap W rb us 10 (z.tmps.getD 13 undef) v := hdep { on := 10, ground := .data } (by simp) rfl _ _ rfl rfl
      simp only [CloOk] at d13'
      obtain ⟨g2, q2, c2, d13, hg2, hgb, hO⟩ := d13'
      have e13 := d13
      rw [Array.getD_eq_getD_getElem?] at e13
      have HO := Lib.hid hO
      have HGb := Lib.hid hgb
      clear hdep hag hz hO hgb
      go_simp
      exact hK _ _ (Below.refl _ _) ⟨g2, q2, c2, rfl, hg2, HGb.out, HO.out⟩
  case hdone =>
    intro z v hz hag hok
    obtain ⟨g2, q2, c2, d2, hg2, hgb, hO⟩ : ∃ g2 q2 c2, z.tmps.getD 2 undef = .pointer (some ⟨g2, 0, none⟩) ∧ rb ≤ g2 ∧ v.heap[g2]? = some (.cells #[.int .i64 (W : Int), .slice (some ⟨q2, 0, none⟩) n c2] 130 (0, 0)) ∧ OwnV 27 rb (.slice (some ⟨q2, 0, none⟩) n c2) us v := hok 11 _ 2 rfl rfl
    obtain ⟨uu, hu, hzz⟩ := Go.Proofs.YtkggmcnocpgnbaaDoor.R.agree_frame [3, 4, 5, 6, 7, 8, 9, 10, 11, 12, 13, 2] rfl hag
    have e2 := (hu 2).trans d2
    subst hzz
    have HZ := Lib.hid hz
    have HGb := Lib.hid hgb
    have HO := Lib.hid hO
    clear hz hgb hO
    simp only [List.foldl_cons, List.foldl_nil]
    rw [e2]
    clear e2 d2 hu hag hok
    try dsimp only [Exit.then]
    try dsimp only [List.drop]
    simp only [List.setIfInBounds_toArray, List.set_cons_succ, List.set_cons_zero]
    generalize uu 3 = u3', uu 4 = u4', uu 5 = u5', uu 6 = u6', uu 7 = u7', uu 8 = u8', uu 9 = u9', uu 10 = u10', uu 11 = u11', uu 12 = u12', uu 13 = u13'
    clear uu
    go_wp2
    go_ret
    refine ⟨g2, q2, rfl, hg2, (HO.out.ownBlock q2 rfl).1, ⟨us, c2, HGr.out.ok, by rw [HW.out, HN.out]; exact HGb.out, by rw [HN.out]; exact HO.out.weaken (Nat.zero_le _), HGr.out.rv.belowAll HZ.out, fun u hu => (HGr.out.ty u hu).moved (fun b _ _ hl => HZ.out.block b hl)⟩, by rw [← HRe.out]; exact HZ.out⟩
theorem GridAt.set {g q : Nat} {x : Gd} {us : List Rv} {cap : Nat} {w w1 w2 : World} (h : GridAt g q x us cap w) (hb : Below w.heap.size w w1) {k : Nat} {u : Rv} {r : Ro} (hk : k < us.length) (hr : RowV .i32 u.val (resizeS r x.W) w1) (ht : TyC 0 u w1) (hrg : AllC Rng r.l)
    (ho : OwnV 27 0 (.slice (some ⟨q, 0, none⟩) us.length cap) (us.set k u) w2) (hg : w1.grownBy w2 (some q)) : GridAt g q (setG x k r) (us.set k u) cap w2 ∧ KeepB [g, q] w w2 := by
  have hkx : (k : Int) < x.rs.length := by rw [← h.ulen]; omega
  have hset : setG x k r = ⟨x.W, x.rs.set k (resizeS r x.W)⟩ := by unfold setG; rw [if_pos ⟨by omega, hkx⟩]; rfl
  have h1 := h.below hb
  obtain ⟨cs, hq⟩ := h1.qb
  have hne : ∀ v : Rv, TyC 0 v w1 → ∀ b off, v.a = some ⟨b, off, none⟩ → b < w1.heap.size → w2.heap[b]? = w1.heap[b]? := fun v hv b off e hl => hg.block b hl (fun e' => by
    cases e'
    exact hv.ne hq (by decide) _ off e rfl)
  have hgq := h.gq
  have hok := setG_ok h.ok k hrg
  rw [hset] at hok ⊢
  have hty : ∀ v ∈ us.set k u, TyC 0 v w1 := fun v hv => by
    rcases List.mem_or_eq_of_mem_set hv with hv | rfl
    · exact h1.ty v hv
    · exact ht
  refine ⟨⟨hok, ?_, by rw [List.length_set]; exact ho, (h1.rv.set hr k).moved hg.size (fun v hv => hne v (hty v hv)), fun v hv => (hty v hv).moved (hne v (hty v hv))⟩, (KeepB.of_below hb).trans ((KeepB.of_grown hg).mono (fun i hi => by rw [List.mem_singleton.1 hi]; simp))⟩
  rw [List.length_set]
  exact (hg.block g h1.lt.1 (fun e => hgq (by cases e; rfl))).trans h1.gb
set_option maxRecDepth 100000 in
set_option maxHeartbeats 4000000 in
theorem gset_any {g q : Nat} {x : Gd} (y : Int) {p : Rv} {r : Ro} (w : World) (h : Gr g q x w) (hp : RowV .i32 p.val r w) (hr : AllC Rng r.l) (hrn : r.l.length ≤ 1000) :
    Calls Tryd.prog 44 #[.pointer (some ⟨g, 0, none⟩), .int .i64 y, p.val] w fun e w' => e = .returned (.bool (decide (0 ≤ y ∧ y < (x.rs.length : Int)))) ∧ Gr g q (setG x y r) w' ∧ KeepB [g, q] w w' := by
  obtain ⟨us, cap, h⟩ := h
  rw [← h.ulen]
  obtain ⟨ra, rn, rc, rw0⟩ := p
  unfold Rv.val at hp ⊢
  simp only at hp ⊢
  obtain ⟨hrw, hri, hnil, hcp, hmx, hrl⟩ := hp.of
  obtain ⟨rb, hrb⟩ : ∃ rb, w.heap.size = rb := ⟨_, rfl⟩
  obtain ⟨w1, hw1⟩ : ∃ w1, w.alloc (.cells #[.slice ra rn rc, .bool rw0] 27) = w1 := ⟨_, rfl⟩
  have hb1 : Below w.heap.size w w1 := by rw [← hw1]; exact (Below.refl _ _).alloc (Nat.le_refl _) _
  have hR1 : RoB 27 rb (.slice ra rn rc) rw0 w1 := by rw [← hw1, ← hrb]; exact RoB.new _ _ _ _
  have h1 := h.below hb1
  have HH := Lib.hid (has_any y w1 h1)
  have HB1 := Lib.hid hb1
  have HW1 := Lib.hid hw1
  have HRb := Lib.hid hrb
  have HRo := Lib.hid hR1
  have HRl := Lib.hid hR1.lt
  have HG0 := Lib.hid h
  have HG1 := Lib.hid h1
  have HRi := Lib.hid (hri.belowAll hb1)
  have HNil := Lib.hid hnil
  have HCap := Lib.hid hcp
  have HMx := Lib.hid hmx
  have HRn : Hid (rn ≤ 1000) := Lib.hid (by omega)
  have HRw := Lib.hid hrw
  have HRg := Lib.hid hr
  have HC0 := Lib.hid h1.c0
  have HC1 := Lib.hid h1.c1
  have HGl := Lib.hid h1.lt.1
  have hn := h.few
  have hW := h.ok
  clear h h1 hb1 hw1 hrb hR1 hp hri hnil hcp hmx hrl hrn hr hrw
  by_cases hy : 0 ≤ y ∧ y < (us.length : Int)
  · have d0 : decide (0 ≤ y ∧ y < (us.length : Int)) = true := decide_eq_true hy
    rw [d0] at HH ⊢
    obtain ⟨k, rfl⟩ : ∃ k : Nat, y = (k : Int) := ⟨y.toNat, by omega⟩
    have hkn : k < us.length := by omega
    obtain ⟨n, hne⟩ : ∃ n, us.length = n := ⟨_, rfl⟩
    obtain ⟨W, hWe⟩ : ∃ W, x.W = W := ⟨_, rfl⟩
    rw [hne] at HC1 hkn hn
    rw [hWe] at HC0
    have HKn : Hid ((k : Int) < n) := Lib.hid (by omega)
    have HNe := Lib.hid hne
    have HWe := Lib.hid hWe
    obtain ⟨RL, hRL⟩ : ∃ RL, r.l = RL := ⟨_, rfl⟩
    rw [hRL] at HRi
    have hrr : (⟨RL, rw0⟩ : Ro) = r := by rw [← hRL, HRw.out]
    obtain ⟨L, hL⟩ : ∃ L, (resizeS r W).l = L := ⟨_, rfl⟩
    obtain ⟨bb, hbb⟩ : ∃ bb, (resizeS r W).wrapped = bb := ⟨_, rfl⟩
    have HRes : Hid ((resizeS ⟨RL, rw0⟩ (W : Int)).l = L) := Lib.hid (by rw [hrr]; exact hL)
    have HBb : Hid ((resizeS ⟨RL, rw0⟩ (W : Int)).wrapped = bb) := Lib.hid (by rw [hrr]; exact hbb)
    have HLen : Hid (L.length = W) := Lib.hid (by rw [← hL]; exact resize_len r W (by rw [← hWe]; exact hW.w2))
    have HLe := Lib.hid hL
    have HBe := Lib.hid hbb
    have HRs : Hid (rb ≤ w1.heap.size) := Lib.hid (by have := HRl.out; omega)
    clear hy d0 hne hWe hRL hrr hL hbb hW
    go_enter Tryd.func44, Tryd.ntmps44
    go_upto_region 1 with fail
    first | rw [HW1.out, HRb.out] | rw [HW1.out]
    go_upto_region 3 with (go_at_call 78; refine HH.out.mono ?_; rintro e w' ⟨rfl, rfl⟩)
    refine Go.Proofs.YtkggmcnocpgnbaaDoor.R.wp_region_tailT 12 (by kernel_rfl) (fun u => Below w1.heap.size w1 u) (fun u v => Below u.heap.size u v) (SetOk g q n cap W rb k ra rn rc rw0 bb L) (by rfl) (by kernel_rfl) (by decide) (by kernel_rfl) (by kernel_rfl) (by kernel_rfl) ?hC ?hOk ?hop ?hdone ((Below.refl _ _).drew)
    case hC => exact fun u v h1 h2 => h1.trans (h2.mono h1.size)
    case hOk =>
      intro i u w1 w2 h hr
      unfold SetOk at h ⊢
      split <;> first | exact True.intro | exact h | (obtain ⟨x, y, e, h1⟩ := h; exact ⟨x, y, e, h1.belowAll hr⟩) | (obtain ⟨x, y, c, e, h0, h1, h2⟩ := h; exact ⟨x, y, c, e, h0, (hr.block _ (Array.getElem?_eq_some_iff.1 h1).1).trans h1, h2.belowAll hr⟩)
    case hop =>
      refine ⟨?_, ?_, ?_, ?_, ?_, ?_, ?_, ?_, ?_, ?_, ?_, ?_, trivial⟩
      · intro z v hz hag hdep
        refine .inl ⟨rfl, fun K hK => ?_⟩
        have d0 : z.tmps.getD 0 undef = .pointer (some ⟨g, 0, none⟩) := hag.2.2 0 (by kernel_rfl)
        have e0 := d0
        rw [Array.getD_eq_getD_getElem?] at e0
        clear hdep hag 
        go_simp
        exact hK _ _ (Below.refl _ _) rfl
      · intro z v hz hag hdep
        refine .inl ⟨rfl, fun K hK => ?_⟩
        have d11 : z.tmps.getD 11 undef = .pointer (some ⟨g, 0, none⟩) := hdep { on := 0, ground := .data } (by simp) rfl _ _ rfl rfl
        have e11 := d11
        rw [Array.getD_eq_getD_getElem?] at e11
        clear hdep hag 
        go_simp
        exact hK _ _ (Below.refl _ _) rfl
      · intro z v hz hag hdep
        refine .inl ⟨rfl, fun K hK => ?_⟩
        have d12 : z.tmps.getD 12 undef = .pointer (some ⟨g, 0, none⟩) := hdep { on := 1, ground := .data } (by simp) rfl _ _ rfl rfl
        have e12 := d12
        rw [Array.getD_eq_getD_getElem?] at e12
        clear hdep hag 
        go_simp
        exact hK _ _ (Below.refl _ _) rfl
      · intro z v hz hag hdep
        refine .inl ⟨rfl, fun K hK => ?_⟩
        have d13 : z.tmps.getD 13 undef = .pointer (some ⟨g, 1, none⟩) := hdep { on := 2, ground := .data } (by simp) rfl _ _ rfl rfl
        have e13 := d13
        rw [Array.getD_eq_getD_getElem?] at e13
        have l0 := (hz.cell (p := ⟨g, 1, none⟩) HGl.out).trans HC1.out
        clear hz
        clear hdep hag 
        go_simp
        exact hK _ _ (Below.refl _ _) rfl
      · intro z v hz hag hdep
        refine .inl ⟨rfl, fun K hK => ?_⟩
        have d1 : z.tmps.getD 1 undef = .int .i64 (k : Int) := hag.2.2 1 (by kernel_rfl)
        have e1 := d1
        rw [Array.getD_eq_getD_getElem?] at e1
        clear hdep hag 
        go_simp
        exact hK _ _ (Below.refl _ _) rfl
      · intro z v hz hag hdep
        refine .inl ⟨rfl, fun K hK => ?_⟩
        have d5 : z.tmps.getD 5 undef = .pointer (some ⟨rb, 0, none⟩) := hag.2.2 5 (by kernel_rfl)
        have e5 := d5
        rw [Array.getD_eq_getD_getElem?] at e5
        have l0 := (hz.cell (p := ⟨rb, 0, none⟩) HRl.out).trans HRo.out.c0
        have l1 := (hz.cell (p := ⟨rb, 1, none⟩) HRl.out).trans HRo.out.c1
        clear hz
        clear hdep hag 
        go_simp
        exact hK _ _ (Below.refl _ _) rfl
      · intro z v hz hag hdep
        refine .inl ⟨rfl, fun K hK => ?_⟩
        have d0 : z.tmps.getD 0 undef = .pointer (some ⟨g, 0, none⟩) := hag.2.2 0 (by kernel_rfl)
        have e0 := d0
        rw [Array.getD_eq_getD_getElem?] at e0
        clear hdep hag 
        go_simp
        exact hK _ _ (Below.refl _ _) rfl
      · intro z v hz hag hdep
        refine .inl ⟨rfl, fun K hK => ?_⟩
        have d17 : z.tmps.getD 17 undef = .pointer (some ⟨g, 0, none⟩) := hdep { on := 6, ground := .data } (by simp) rfl _ _ rfl rfl
        have e17 := d17
        rw [Array.getD_eq_getD_getElem?] at e17
        clear hdep hag 
        go_simp
        exact hK _ _ (Below.refl _ _) rfl
      · intro z v hz hag hdep
        refine .inl ⟨rfl, fun K hK => ?_⟩
        have d18 : z.tmps.getD 18 undef = .pointer (some ⟨g, 0, none⟩) := hdep { on := 7, ground := .data } (by simp) rfl _ _ rfl rfl
        have e18 := d18
        rw [Array.getD_eq_getD_getElem?] at e18
        clear hdep hag 
        go_simp
        exact hK _ _ (Below.refl _ _) rfl
      · intro z v hz hag hdep
        refine .inl ⟨rfl, fun K hK => ?_⟩
        have d19 : z.tmps.getD 19 undef = .pointer (some ⟨g, 0, none⟩) := hdep { on := 8, ground := .data } (by simp) rfl _ _ rfl rfl
        have e19 := d19
        rw [Array.getD_eq_getD_getElem?] at e19
        have l0 := (hz.cell (p := ⟨g, 0, none⟩) HGl.out).trans HC0.out
        clear hz
        clear hdep hag 
        go_simp
        exact hK _ _ (Below.refl _ _) rfl
      · intro z v hz hag hdep
        refine .inl ⟨rfl, fun K hK => ?_⟩
        have d16 : z.tmps.getD 16 undef = .agg #[.slice ra rn rc, .bool rw0] := hdep { on := 5, ground := .data } (by simp) rfl _ _ rfl rfl
        have e16 := d16
        rw [Array.getD_eq_getD_getElem?] at e16
        have d20 : z.tmps.getD 20 undef = .int .i64 (W : Int) := hdep { on := 9, ground := .data } (by simp) rfl _ _ rfl rfl
        have e20 := d20
        rw [Array.getD_eq_getD_getElem?] at e20
        have HC := Lib.hid (rowResize_any ra rn rc rw0 RL (W : Int) v (HRi.out.belowAll hz) HNil.out HCap.out HMx.out (by have := HRn.out; omega))
        have HZs := Lib.hid hz.size
        clear hdep hag hz
        go_simp
        refine HC.out.mono ?_
        rintro e w' ⟨v', rfl, h1, h2⟩
        obtain ⟨x3, y3, rfl, -⟩ := h1.shape
        rw [HRes.out, HLen.out] at h1 ⊢
        try rw [HBb.out]
        exact hK _ _ h2 ⟨x3, y3, rfl, h1.weaken (Nat.le_trans HRs.out HZs.out)⟩
      · intro z v hz hag hdep
        refine .inl ⟨rfl, fun K hK => ?_⟩
        have d14 : z.tmps.getD 14 undef = .slice (some ⟨q, 0, none⟩) n cap := hdep { on := 3, ground := .data } (by simp) rfl _ _ rfl rfl
        have e14 := d14
        rw [Array.getD_eq_getD_getElem?] at e14
        have d15 : z.tmps.getD 15 undef = .int .i64 (k : Int) := hdep { on := 4, ground := .data } (by simp) rfl _ _ rfl rfl
        have e15 := d15
        rw [Array.getD_eq_getD_getElem?] at e15
        have hkn := HKn.out
        clear hz
        clear hdep hag 
        go_simp
        exact hK _ _ (Below.refl _ _) rfl
    case hdone =>
      intro z v hz hag hok hno
      clear hno
      obtain ⟨x3, y3, d21, hO⟩ : ∃ x3 y3, z.tmps.getD 21 undef = .agg #[.slice x3 W y3, .bool bb] ∧ OwnC .i32 105 rb (.slice x3 W y3) L v := hok 10 _ 21 (by decide) rfl rfl
      have d22 : z.tmps.getD 22 undef = .pointer (some ⟨q, k * 2, none⟩) := hok 11 _ 22 (by decide) rfl rfl
      obtain ⟨uu, hu, hzz⟩ := Go.Proofs.YtkggmcnocpgnbaaDoor.R.agree_frame [11, 12, 13, 14, 15, 16, 17, 18, 19, 20, 21, 22] rfl hag
      have e21 := (hu 21).trans d21
      have e22 := (hu 22).trans d22
      subst hzz
      have HZ := Lib.hid hz
      have HO := Lib.hid hO
      clear hz hO
      simp only [List.foldl_cons, List.foldl_nil]
      rw [e21, e22]
      clear e21 d21 e22 d22 hu hag hok
      try dsimp only [Exit.then]
      try dsimp only [List.drop]
      simp only [List.setIfInBounds_toArray, List.set_cons_succ, List.set_cons_zero]
      generalize uu 11 = u11', uu 12 = u12', uu 13 = u13', uu 14 = u14', uu 15 = u15', uu 16 = u16', uu 17 = u17', uu 18 = u18', uu 19 = u19', uu 20 = u20'
      clear uu

      have HOv : Hid (OwnV 27 0 (.slice (some ⟨q, 0, none⟩) us.length cap) us v) := Lib.hid (HG1.out.own.belowAll HZ.out)
      refine wpList_store_row rowsT rfl rfl _ _ rfl 0 q cap us k ⟨x3, W, y3, bb⟩ rfl rfl HOv.out (by rw [HNe.out]; exact hkn) ?_
      intro w2 ho2 hg2
      have hu : RowV .i32 (Rv.val ⟨x3, W, y3, bb⟩) (resizeS r x.W) v := by
        have h := HO.out
        rw [← HLe.out] at h
        have h' := h.rowV
        rw [HBe.out] at h'
        rw [HWe.out]
        exact h'
      have hty : TyC 0 ⟨x3, W, y3, bb⟩ v := fun b off e => ⟨Nat.zero_le _, (TyC.of (b := bb) HO.out b off e).2⟩
      have hfin := HG0.out.set (HB1.out.trans (HZ.out.mono HB1.out.size)) (k := k) (r := r) (by rw [HNe.out]; exact hkn) hu hty HRg.out ho2 hg2
      have HF := Lib.hid hfin
      clear ho2 hg2 hu hty hfin
      go_wp2_with fail
      go_ret
      exact ⟨rfl, ⟨_, _, HF.out.1⟩, HF.out.2⟩
  · have d0 : decide (0 ≤ y ∧ y < (us.length : Int)) = false := decide_eq_false hy
    rw [d0] at HH ⊢
    have hset : setG x y r = x := by unfold setG; rw [if_neg (by rw [← HG0.out.ulen]; exact hy)]
    rw [hset]
    clear hy d0 hset
    go_enter Tryd.func44, Tryd.ntmps44
    go_upto_region 1 with fail
    first | rw [HW1.out, HRb.out] | rw [HW1.out]
    go_wp2_with (go_at_call 78; refine HH.out.mono ?_; rintro e w' ⟨rfl, rfl⟩)
    go_ret
    exact ⟨rfl, ⟨_, _, HG1.out⟩, KeepB.of_below HB1.out⟩
end Go.Proofs.YtkggmcnocpgnbaaDoor.K
